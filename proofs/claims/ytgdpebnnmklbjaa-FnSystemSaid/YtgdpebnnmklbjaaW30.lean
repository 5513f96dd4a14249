/- The walks of the promise laws of SystemIn and SystemPeriod. -/
import Derived.Test.YtgdpebnnmklbjaaMg4
import Derived.Test.YtgdpebnnmklbjaaS17
namespace Go.Proofs.Ytgdpebnnmklbjaa
open Go.RowKit
theorem sam_self {zs : List Cl} (hs : sysB zs = true) : samB zs zs = true := by
  obtain ⟨_, _, _, _, P1, P2⟩ := sysB_facts hs
  have hd := lcmI_dvd (show 0 ≤ perI zs by omega) (show 0 ≤ perI zs by omega) (Int.dvd_refl _) (Int.dvd_refl _)
  have hle := Int.le_of_dvd (by omega) hd
  simp [samB, comB, hs]
  omega
set_option maxRecDepth 20000 in
set_option maxHeartbeats 1000000 in
theorem w_FnSystem (s : Option Addr) (len cap : Nat) (w : World) (h : Code0 w s len cap) : Calls Try.prog 3 #[.slice s len cap] w fun e w' => e = .returned (.bool true) ∧ Below w.heap.size w w' := by
  have hlc := h.lc
  have hcm := h.cm
  unfold maxLen at hcm
  by_cases hlen : len ≤ 1048576
  · go_enter Try.func3, Try.ntmps3
    go_wp2_with fail
    refine (c_DrawSystemIn s len cap _ h).mono ?_
    rintro e w1 ⟨v, zs, rfl, hO, hl, hb1⟩
    obtain ⟨so, co, rfl, hC, hc1, hc2⟩ := hO.all
    obtain ⟨n, hn⟩ : ∃ n, zs.length = n := ⟨_, rfl⟩
    rw [hn] at hC hc1 hl ⊢
    have hself := fun h => sam_self (zs := zs) h
    have hsam := fun w1 (h1 : Cls w1 so n zs) => c_implSystemSame so so n n co co zs zs (by omega) (by omega) w1 h1 h1
    clear hO
    go_wp2_with fail
    refine (c_implSystemIn so n co zs (by omega) _ hC).mono ?_
    rintro e w2 ⟨rfl, hb2⟩
    have hC2 := hC.keep hb2
    have hB2 := bt2 hb1 hb2
    go_wp2_with fail
    refine (c_specSystemIn so n co zs (by omega) _ hC2).mono ?_
    rintro e w3 ⟨rfl, hb3⟩
    have hC3 := hC2.keep hb3
    have hB3 := bt2 hB2 hb3
    have hcon := hsam w3 hC3
    cases hs : sysB zs
    · clear hcon hsam hself
      go_wp2_with fail
      go_ret
      exact ⟨rfl, hB3⟩
    · rw [hself hs] at hcon
      clear hsam hself
      go_wp2_with fail
      refine hcon.mono ?_
      rintro e w4 ⟨rfl, hb4⟩
      go_wp2_with fail
      go_ret
      exact ⟨rfl, bt2 hB3 hb4⟩
  · go_enter Try.func3, Try.ntmps3
    go_wp2_with fail
    go_ret
    exact ⟨rfl, Below.refl _ _⟩
set_option maxRecDepth 20000 in
set_option maxHeartbeats 1000000 in
theorem w_FnPeriod (s : Option Addr) (len cap : Nat) (w : World) (h : Code0 w s len cap) : Calls Try.prog 4 #[.slice s len cap] w fun e w' => e = .returned (.bool true) ∧ Below w.heap.size w w' := by
  have hlc := h.lc
  have hcm := h.cm
  unfold maxLen at hcm
  by_cases hlen : len ≤ 1048576
  · go_enter Try.func4, Try.ntmps4
    go_wp2_with fail
    refine (c_DrawSystemPeriod s len cap _ h).mono ?_
    rintro e w1 ⟨v, zs, rfl, hO, hl, hb1⟩
    obtain ⟨so, co, rfl, hC, hc1, hc2⟩ := hO.all
    obtain ⟨n, hn⟩ : ∃ n, zs.length = n := ⟨_, rfl⟩
    rw [hn] at hC hc1 hl ⊢
    have htim := fun w1 (h1 : Cls w1 so n zs) => c_implSystemTimes so n co zs (by omega) w1 h1
    clear hO
    cases hs : sysB zs
    · have hcon := c_implSystemPeriod so n co zs (by omega) _ hC
      have hcos := fun w1 (h1 : Cls w1 so n zs) => c_specSystemPeriod so n co zs (by omega) w1 h1
      rw [hs] at hcon hcos
      clear htim
      go_wp2_with fail
      refine hcon.mono ?_
      rintro e w2 ⟨rfl, hb2⟩
      go_wp2_with fail
      refine (hcos _ (hC.keep hb2)).mono ?_
      rintro e w3 ⟨rfl, hb3⟩
      go_wp2_with fail
      go_ret
      exact ⟨rfl, bt2 (bt2 hb1 hb2) hb3⟩
    · have hcon := c_implSystemPeriod_t so n co zs (by omega) hs _ hC
      have hcos := fun w1 (h1 : Cls w1 so n zs) => c_specSystemPeriod so n co zs (by omega) w1 h1
      rw [hs] at hcos
      obtain ⟨l1, l2, ha, ho, P1, P2⟩ := sysB_facts hs
      have HM := Lib.hid (fun c hc => (perO_dvd ho (by omega)).2 (c : Cl) hc)
      have htl : (timR zs).length = (perI zs).toNat := by simp [timR, hs, timL_length]
      have hsel : selI true (perI zs) = perI zs := selI_t _
      rw [hsel] at hcos
      generalize hP : perI zs = P at *
      go_wp2_with fail
      refine hcon.mono ?_
      rintro e w2 ⟨rfl, hb2⟩
      have hC2 := hC.keep hb2
      go_wp2_with fail
      refine (hcos _ hC2).mono ?_
      rintro e w3 ⟨rfl, hb3⟩
      have hC3 := hC2.keep hb3
      have hB3 := bt2 (bt2 hb1 hb2) hb3
      go_wp2_with fail
      have hti := htim _ hC3
      rw [hs] at hti
      clear htim hcos hcon hC hC2 hP hsel
      obtain ⟨L, hL⟩ : ∃ L, (timR zs).length = L := ⟨_, rfl⟩
      have hLP : (L : Int) = P := by omega
      generalize timR zs = Q at *
      refine hti.mono ?_
      rintro e w4 ⟨v4, rfl, hO4, hb4⟩
      obtain ⟨s4, k4, hv4, _, _⟩ := hO4.spread
      rw [hL] at hv4
      subst hv4
      have hC4 := hC3.keep hb4
      have hB4 := bt2 hB3 hb4
      clear hti hC3 htl hO4
      go_wp2_with fail
      go_loopw [10] (fun i wr => ∃ k : Nat, k ≤ n ∧ i = .int .i64 k ∧ Below w.heap.size w wr ∧ Cls wr so n zs) (fun i _ => n - (intOf i).toNat)
      case atStart => exact ⟨0, Nat.zero_le _, rfl, hB4, hC4⟩
      case round =>
        obtain ⟨k, hk, rfl, hB, hCr⟩ := hrel
        by_cases hlt : k < n
        · rcases hCr.lies with h0 | ⟨b, off, rfl, hbw, hcells⟩
          · omega
          obtain ⟨x0, x1⟩ := hcells k hlt
          clear hcells
          obtain ⟨m1, m2, r1, r2⟩ := inB_iff.1 (allB_at ha k (by omega))
          have hdv : mAt zs k ∣ P := by
            have := HM.out zs[k] (List.getElem_mem (by omega))
            simpa [mAt, show k < zs.length by omega] using this
          have hmod : P % mAt zs k = 0 := Int.emod_eq_zero_of_dvd hdv
          have htm : Int.tmod P (mAt zs k) = 0 := Int.tmod_eq_zero_of_dvd hdv
          have hkz : (k : Int) < (n : Int) := by omega
          have hkz0 : (0 : Int) ≤ (k : Int) := by omega
          clear hdv
          go_wp2_with fail
          go_roundw
          case rel => exact ⟨k + 1, by omega, by go_num, hB, hCr⟩
          case measure => simp [intOf]; omega
        · have hkn : k = n := by omega
          subst hkn
          have hfin : ((L : Int) == P) = true := by simp [hLP]
          go_wp2_with fail
          go_ret
          exact ⟨rfl, hB⟩
  · go_enter Try.func4, Try.ntmps4
    go_wp2_with fail
    go_ret
    exact ⟨rfl, Below.refl _ _⟩
end Go.Proofs.Ytgdpebnnmklbjaa
