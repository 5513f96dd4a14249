/- The walk of the promise law FnTwins. -/
import Derived.Test.YthhpdmkebnbbbaaGreatDoorMg4
import Derived.Test.YthhpdmkebnbbbaaGreatDoorMgN
import Derived.Test.YthhpdmkebnbbbaaGreatDoorMgF
import Derived.BigQuiet
namespace Go.Proofs.YthhpdmkebnbbbaaGreatDoor
open Go.RowKit
theorem tmod_nat (M q : Nat) : Int.tmod (M : Int) (q : Int) = ((M % q : Nat) : Int) := by
  rw [Int.tmod_eq_emod_of_nonneg (by omega), ← Int.natCast_emod]
set_option maxRecDepth 20000 in
set_option maxHeartbeats 4000000 in
theorem w_FnTwins (s : Option Addr) (len cap : Nat) (w : World) (hgE : LaidE w) (h : Code0 w s len cap) : Calls Tryz.prog 4 #[.slice s len cap] w fun e w' => e = .returned (.bool true) ∧ Below w.heap.size w w' := by
  have hlc := h.lc
  have hcm := h.cm
  unfold maxLen at hcm
  by_cases hlen : ¬ len ≤ 1048576
  · go_enter Tryz.func4, Tryz.ntmps4
    go_wp2_with fail
    go_ret
    exact ⟨rfl, Below.refl _ _⟩
  have hlen2 : len ≤ 1048576 := by omega
  clear hlen
  go_enter Tryz.func4, Tryz.ntmps4
  go_wp2_with fail
  refine (c_DrawExactTwins s len cap _ h).mono ?_
  rintro e w0 ⟨v0, zs, rfl, hO0, hl0, hT⟩
  obtain ⟨so, co, rfl, hC, hc1, hc2⟩ := hO0.all
  clear hO0 h
  have k1 := fun W hg hc => c_implExactTwins so zs.length co zs (by omega) W hg hc
  have k2 := fun W hc => c_specExactTwins so zs.length co zs (by omega) W hc
  have k3 := fun W hg hc => c_implExactModuli so zs.length co zs (by omega) W hg hc
  have k4 := fun W hc => c_implSystemExact so zs.length co zs (by omega) W hc
  cases hb : sysB zs
  · rw [hb] at k1 k2
    have e0 : twiI zs = 0 := by unfold twiI; rw [hb]; rfl
    rw [e0] at k1 k2
    go_wp2_with fail
    refine (k1 _ (hgE.keep hT) hC).mono ?_
    rintro e w1 ⟨rfl, hb1⟩
    have hC := hC.keep hb1
    have hT := bt2 hT hb1
    go_wp2_with fail
    refine (k2 _ hC).mono ?_
    rintro e w2 ⟨rfl, hb2⟩
    have hT := bt2 hT hb2
    clear k1 k2 hb
    go_wp2_with fail
    go_ret
    exact ⟨rfl, hT⟩
  · rw [hb] at k1 k2 k3
    rw [modR_t hb] at k3
    obtain ⟨t1, t2⟩ := twn_one hb
    have HF := Lib.hid (fun h hl => twn_facts hb h hl)
    have hml := modL_length zs
    clear hb
    generalize twiI zs = T at *
    generalize modL zs = ms at *
    have hTT : (T == T) = true := by simp
    go_wp2_with fail
    refine (k1 _ (hgE.keep hT) hC).mono ?_
    rintro e w1 ⟨rfl, hb1⟩
    have hC := hC.keep hb1
    have hT := bt2 hT hb1
    go_wp2_with fail
    refine (k2 _ hC).mono ?_
    rintro e w2 ⟨rfl, hb2⟩
    have hC := hC.keep hb2
    have hT := bt2 hT hb2
    clear k1 k2
    go_wp2_with fail
    refine (k3 _ (hgE.keep hT) hC).mono ?_
    rintro e w3 ⟨v3, rfl, hR3, hb3⟩
    have hC := hC.keep hb3
    have hT := bt2 hT hb3
    obtain ⟨s3, c3, rfl, hL3, _⟩ := hR3.spread
    rw [hml] at hL3 ⊢
    clear hR3 k3
    by_cases hn : zs.length < 2
    · have hd : decide ((zs.length : Int) < 2) = true := decide_eq_true (by omega)
      have ht1 : decide (1 ≤ T) = true := decide_eq_true t1
      clear HF k4
      go_wp2_with fail
      go_ret
      exact ⟨rfl, hT⟩
    · have hd : decide ((zs.length : Int) < 2) = false := decide_eq_false (by omega)
      cases hx : exaB zs
      · rw [hx] at k4
        have ht1 : decide (1 ≤ T) = true := decide_eq_true t1
        clear HF
        go_wp2_with fail
        refine (k4 _ hC).mono ?_
        rintro e w4 ⟨rfl, hb4⟩
        have hT := bt2 hT hb4
        go_wp2_with fail
        go_ret
        exact ⟨rfl, hT⟩
      · rw [hx] at k4
        obtain ⟨M, m1, m2, hM, hq⟩ := HF.out hx (by omega)
        have HQ := Lib.hid hq
        clear HF hq hx
        go_wp2_with fail
        refine (k4 _ hC).mono ?_
        rintro e w4 ⟨rfl, hb4⟩
        have hL3 := hL3.keep hb4
        have hT := bt2 hT hb4
        clear k4
        rcases hL3.lies with h0 | ⟨b, off, rfl, hbb, hcells⟩
        · omega
        have hx := hcells (zs.length - 1) (by omega)
        have hMe : ms[zs.length - 1]?.getD 0 = (M : Int) := by rw [← hM]; simp [List.getD]
        rw [hMe] at hx
        clear hcells hMe hM
        generalize hN : zs.length = n at *
        have hn1 : (n : Int) - 1 = ((n - 1 : Nat) : Int) := by omega
        have hnz0 : (0 : Int) ≤ ((n - 1 : Nat) : Int) := by omega
        have hnz1 : ((n - 1 : Nat) : Int) < (n : Int) := by omega
        have hw1 : IntKind.i64.wrap ((n : Int) - 1) = ((n - 1 : Nat) : Int) := by rw [IntWalk.i64_in _ (by omega)]; omega
        go_wp2_with fail
        go_loopw [10] (fun i wr => ∃ q : Nat, 2 ≤ q ∧ q ≤ M ∧ i = .int .i64 q ∧ Hid (∀ d, 2 ≤ d → d < q → ¬ d ∣ M) ∧ wr = w4) (fun i _ => M - (intOf i).toNat)
        case atStart => exact ⟨2, Nat.le_refl _, m1, rfl, Lib.hid (fun d a b => by omega), rfl⟩
        case round =>
          obtain ⟨q, q1, q2, rfl, hD, rfl⟩ := hrel
          have hqz : ¬ (q : Int) = 0 := by omega
          have hqz2 : ¬ q = 0 := by omega
          by_cases hdv : q ∣ M
          · have hr : M % q = 0 := Nat.mod_eq_zero_of_dvd hdv
            have hm0 : Int.tmod (M : Int) (q : Int) = 0 := by rw [tmod_nat, hr]; rfl
            have hle := HQ.out q q1 q2 hD.out
            have hm : decide ((q : Int) ≤ T) = true := decide_eq_true hle
            go_wp2_with fail
            go_ret
            exact ⟨rfl, hT⟩
          · have hr : M % q ≠ 0 := fun hh => hdv (Nat.dvd_of_mod_eq_zero hh)
            have hm : (Int.tmod (M : Int) (q : Int) != 0) = true := by
              rw [tmod_nat]
              simp
              omega
            have hm2 : ((M : Int) % (q : Int) != 0) = true := by
              rw [← Int.natCast_emod]
              simp
              omega
            have hqM : q < M := by
              refine Nat.lt_of_le_of_ne q2 fun hh => hdv ?_
              rw [hh]
              exact Nat.dvd_refl _
            have hqw : q < 1000 := by omega
            have hD2 : ∀ d, 2 ≤ d → d < q + 1 → ¬ d ∣ M := fun d a b => by
              by_cases hdq : d = q
              · rw [hdq]; exact hdv
              · exact hD.out d a (by omega)
            have HD2 := Lib.hid hD2
            clear hD2 hdv hr
            go_wp2_with fail
            go_roundw
            case rel => exact ⟨q + 1, by omega, by omega, by go_num, HD2, trivial⟩
            case measure => simp [intOf]; omega
end Go.Proofs.YthhpdmkebnbbbaaGreatDoor
