/- The walk of the promise law FnTimes. -/
import Derived.Test.YtgdpebnnmklbjaaW33
namespace Go.Proofs.Ytgdpebnnmklbjaa
open Go.RowKit
def totF (Q : List Int) (x : Nat) : Int := Q[x]?.getD 0
theorem tot_bd {Q : List Int} {n : Nat} (h : ∀ i, i < n → 0 ≤ totF Q i ∧ totF Q i ≤ 1000) (k : Nat) (hk : k ≤ n) : 0 ≤ sumF (totF Q) k ∧ sumF (totF Q) k ≤ 1000 * (k : Int) := by
  induction k with
  | zero => simp [sumF]
  | succ k ih =>
    obtain ⟨a, b⟩ := ih (by omega)
    obtain ⟨c, d⟩ := h k (by omega)
    simp only [sumF]
    omega
set_option maxRecDepth 20000 in
set_option maxHeartbeats 1000000 in
theorem c_total (s : Option Addr) (n c1 : Nat) (Q : List Int) (hn : n ≤ 1000) (hb : ∀ i, i < n → 0 ≤ totF Q i ∧ totF Q i ≤ 1000) (w : World) (hs : Ints w s n Q) : Calls Try.prog 26 #[.slice s n c1] w fun e w' => e = .returned (.int .i64 (sumF (totF Q) n)) ∧ Below w.heap.size w w' := by
  have HB := Lib.hid (tot_bd hb)
  clear hb
  go_enter Try.func26, Try.ntmps26
  go_wp2_with fail
  go_loopw [3, 4] (fun q i wr => ∃ k : Nat, k ≤ n ∧ i = .int .i64 k ∧ q = .int .i64 (sumF (totF Q) k) ∧ Below w.heap.size w wr) (fun _ i _ => n - (intOf i).toNat)
  case atStart => exact ⟨0, Nat.zero_le _, rfl, rfl, Below.refl _ _⟩
  case round =>
    obtain ⟨k, hk, rfl, rfl, hB⟩ := hrel
    by_cases hlt : k < n
    · rcases (hs.keep hB).lies with h0 | ⟨b1, o1, rfl, hb1, hcells1⟩
      · omega
      have hx := hcells1 k hlt
      clear hcells1
      have h1 := HB.out k (by omega)
      have h2 := HB.out (k + 1) (by omega)
      have HS := Lib.hid (show sumF (totF Q) (k + 1) = sumF (totF Q) k + Q[k]?.getD 0 from rfl)
      rw [HS.out] at h2
      generalize sumF (totF Q) k = S at *
      generalize Q[k]?.getD 0 = y at *
      have hw : IntKind.i64.wrap (S + y) = S + y := IntWalk.i64_in _ (by omega)
      have hkw : k < 1000 := by omega
      go_wp2_with fail
      go_roundw
      case rel => exact ⟨k + 1, by omega, by go_num, by rw [HS.out], hB⟩
      case measure => simp [intOf]; omega
    · have hkn : k = n := by omega
      subst hkn
      go_wp2_with fail
      go_ret
      exact ⟨rfl, hB⟩
theorem hol_pre {zs : List Cl} {x : Nat} : ∀ k, x ≤ k → ∃ t, holK zs k = holK zs x ++ t := by
  intro k
  induction k with
  | zero =>
    intro h
    obtain rfl : x = 0 := by omega
    exact ⟨[], by simp⟩
  | succ k ih =>
    intro h
    rcases Nat.lt_or_ge k x with h1 | h1
    · obtain rfl : x = k + 1 := by omega
      exact ⟨[], by simp⟩
    · obtain ⟨t, ht⟩ := ih h1
      simp only [holK]
      rw [ht]
      cases (cntN zs k == 0)
      · exact ⟨t, rfl⟩
      · exact ⟨t ++ [(k : Int)], by simp⟩
theorem hol_place {zs : List Cl} {x P : Nat} (hx : x < P) (h0 : (cntN zs x == 0) = true) : (holK zs P)[(holK zs x).length]?.getD 0 = (x : Int) ∧ (holK zs x).length < (holK zs P).length ∧ (holK zs (x + 1)).length = (holK zs x).length + 1 := by
  obtain ⟨t, ht⟩ := hol_pre (zs := zs) (x := x + 1) P hx
  have e : holK zs (x + 1) = holK zs x ++ [(x : Int)] := by simp only [holK, h0, cond_true]
  rw [ht, e]
  simp
theorem hol_skip {zs : List Cl} {x : Nat} (h0 : (cntN zs x == 0) = false) : (holK zs (x + 1)).length = (holK zs x).length := by simp only [holK, h0, cond_false]
set_option maxRecDepth 20000 in
set_option maxHeartbeats 4000000 in
theorem w_FnTimes (s : Option Addr) (len cap : Nat) (w : World) (h : Code0 w s len cap) : Calls Try.prog 5 #[.slice s len cap] w fun e w' => e = .returned (.bool true) ∧ Below w.heap.size w w' := by
  have hlc := h.lc
  have hcm := h.cm
  unfold maxLen at hcm
  by_cases hlen : len ≤ 1048576
  · go_enter Try.func5, Try.ntmps5
    go_wp2_with fail
    refine (c_DrawSystemTimes s len cap _ h).mono ?_
    rintro e w1 ⟨v, zs, rfl, hO, hl, hb1⟩
    obtain ⟨so, co, rfl, hC, hc1, hc2⟩ := hO.all
    obtain ⟨n, hn⟩ : ∃ n, zs.length = n := ⟨_, rfl⟩
    rw [hn] at hC hc1 hl ⊢
    clear hO
    have hcon := c_implSystemTimes so n co zs (by omega) _ hC
    have hcos := fun w1 (h1 : Cls w1 so n zs) => c_specSystemTimes so n co zs (by omega) w1 h1
    cases hs : sysB zs
    · rw [hs, timR_f hs] at hcon hcos
      go_wp2_with fail
      refine hcon.mono ?_
      rintro e w2 ⟨v2, rfl, hO2, hb2⟩
      obtain ⟨s2, k2, rfl, hI2, _⟩ := hO2.spread
      go_wp2_with fail
      refine (hcos _ (hC.keep hb2)).mono ?_
      rintro e w3 ⟨v3, rfl, hO3, hb3⟩
      obtain ⟨s3, k3, rfl, hI3, _⟩ := hO3.spread
      have hI23 := hI2.keep hb3
      have hsame := fun w1 (h1 : Below w3.heap.size w3 w1) => c_sameInts s2 s3 0 k2 k3 [] (by omega) w1 (hI23.keep h1) (hI3.keep h1)
      have hB3 := bt2 (bt2 hb1 hb2) hb3
      clear hcon hcos hO2 hO3 hI2 hI3 hI23 hC
      go_wp2_with (first | (go_at_call 23; refine (hsame _ (Below.refl _ _)).mono ?_; rintro e w4 ⟨rfl, hb4⟩; have hB4 := bt2 hB3 hb4) | (go_at_call 23; refine (hsame _ hb4).mono ?_; rintro e w5 ⟨rfl, hb5⟩; have hB5 := bt2 hB4 hb5) | fail)
      go_ret
      exact ⟨rfl, hB5⟩
    · rw [hs] at hcon hcos
      have hshr := fun w1 (h1 : Cls w1 so n zs) => c_implSystemShare so n co zs (by omega) w1 h1
      have hhol := fun w1 (h1 : Cls w1 so n zs) => c_implSystemHoles so n co zs (by omega) w1 h1
      rw [hs, holR_t hs] at hhol
      obtain ⟨P, hP⟩ := per_nat hs
      obtain ⟨_, l2, _, _, _, P2⟩ := sysB_facts hs
      have hPb : P ≤ 1000 := by omega
      have hHP : holL zs = holK zs P := by unfold holL; rw [hP]; rfl
      rw [hHP] at hhol
      have hsel : selI true (shrI zs) = shrI zs := selI_t _
      rw [hs] at hshr
      simp only [hsel] at hshr
      rw [← cnt_sum hs P hP] at hshr
      have htL : (timR zs).length = P := by simp [timR, hs, timL_length, hP]
      have htX : ∀ k : Nat, k < P → totF (timR zs) k = cntN zs k := fun k hk => by
        simp [totF, timR, hs, timL, hP, hk]
      have hsum : sumF (totF (timR zs)) P = sumF (fun x => cntN zs x) P := sumF_congr htX
      have htb : ∀ i, i < P → 0 ≤ totF (timR zs) i ∧ totF (timR zs) i ≤ 1000 := fun i hi => by
        rw [htX i hi]
        have hb := cntK_bd zs i zs.length
        have e : cntN zs i = cntK zs i zs.length := rfl
        omega
      have htot := fun (s' : Option Addr) (c' : Nat) w1 (h1 : Ints w1 s' P (timR zs)) => c_total s' P c' (timR zs) hPb htb w1 h1
      rw [hsum] at htot
      have HTX := Lib.hid htX
      have HPl := Lib.hid (fun (x : Nat) (hx : x < P) h0 => hol_place (zs := zs) hx h0)
      have HSk := Lib.hid (fun (x : Nat) h0 => hol_skip (zs := zs) (x := x) h0)
      have hKl := holK_le zs P
      generalize sumF (fun x => cntN zs x) P = H at *
      clear hsel hsum htb htX hHP P2 hP
      obtain ⟨LH, hLH⟩ : ∃ LH, (holK zs P).length = LH := ⟨_, rfl⟩
      rw [hLH] at hKl
      generalize timR zs = Q at *
      go_wp2_with fail
      refine hcon.mono ?_
      rintro e w2 ⟨v2, rfl, hO2, hb2⟩
      obtain ⟨s2, k2, hv2, hI2, _⟩ := hO2.spread
      rw [htL] at hv2 hI2
      subst hv2
      go_wp2_with fail
      refine (hcos _ (hC.keep hb2)).mono ?_
      rintro e w3 ⟨v3, rfl, hO3, hb3⟩
      obtain ⟨s3, k3, hv3, hI3, _⟩ := hO3.spread
      rw [htL] at hv3 hI3
      subst hv3
      have hI23 := hI2.keep hb3
      have hC3 := (hC.keep hb2).keep hb3
      have hsame := c_sameInts s2 s3 P k2 k3 Q (by omega) w3 hI23 hI3
      have hB3 := bt2 (bt2 hb1 hb2) hb3
      clear hcon hcos hO2 hO3 hI2 hI3 hC hb1 hb2 hb3 htL
      go_wp2_with (first | (go_at_call 23; refine hsame.mono ?_; rintro e w4 ⟨rfl, hb4⟩) | (go_at_call 24; refine (hshr _ (hC3.keep hb4)).mono ?_; rintro e w5 ⟨rfl, hb5⟩; have hB5 := bt2 hb4 hb5) | (go_at_call 25; refine (hhol _ (hC3.keep hB5)).mono ?_; rintro e w6 ⟨v6, rfl, hO6, hb6⟩; have hB6 := bt2 hB5 hb6; obtain ⟨s6, k6, hv6, hI6, _⟩ := hO6.spread; rw [hLH] at hv6 hI6; subst hv6) | fail)
      clear hsame hshr hhol hC3 hO6
      have hI26 := hI23.keep hB6
      have hB36 := bt2 hB3 hB6
      go_loopw [12, 13] (fun q i wr => ∃ x : Nat, x ≤ P ∧ i = .int .i64 x ∧ q = .int .i64 ((holK zs x).length : Int) ∧ Below w6.heap.size w6 wr) (fun _ i _ => P - (intOf i).toNat)
      case atStart => exact ⟨0, Nat.zero_le _, rfl, rfl, Below.refl _ _⟩
      case round =>
        obtain ⟨x, hx, rfl, rfl, hB⟩ := hrel
        have hxw : x ≤ 1000 := by omega
        by_cases hlt : x < P
        · rcases (hI26.keep hB).lies with h0 | ⟨b1, o1, rfl, hb1, hcells1⟩
          · omega
          have hx1 := hcells1 x hlt
          rw [show Q[x]?.getD 0 = cntN zs x from HTX.out x hlt] at hx1
          clear hcells1
          have hxz0 : (0 : Int) ≤ (x : Int) := by omega
          have hxz1 : (x : Int) < (P : Int) := by omega
          cases he : (cntN zs x == 0)
          · have HL := Lib.hid (HSk.out x he)
            go_wp2_with fail
            go_roundw
            case rel => exact ⟨x + 1, by omega, by go_num, by rw [HL.out], hB⟩
            case measure => simp [intOf]; omega
          · obtain ⟨p1, p2, p3⟩ := HPl.out x hlt he
            rw [hLH] at p2
            have HL := Lib.hid p3
            clear p3
            rcases (hI6.keep hB).lies with h0 | ⟨b2, o2, rfl, hb2, hcells2⟩
            · omega
            have hx2 := hcells2 _ p2
            rw [p1] at hx2
            clear hcells2 p1
            generalize (holK zs x).length = K at *
            have hkz0 : (0 : Int) ≤ (K : Int) := by omega
            have hkz1 : (K : Int) < (LH : Int) := by omega
            have hkw : K < 1000 := by omega
            go_wp2_with fail
            go_roundw
            case rel => exact ⟨x + 1, by omega, by go_num, by rw [HL.out]; go_num, hB⟩
            case measure => simp [intOf]; omega
        · have hxP : x = P := by omega
          subst hxP
          rw [hLH]
          have htt := htot s2 k2 _ (hI26.keep hB)
          have hHH : (H == H) = true := by simp
          have hLL : ((LH : Int) == (LH : Int)) = true := by simp
          clear htot HTX HPl HSk
          go_wp2_with (go_at_call 26; refine htt.mono ?_; rintro e w7 ⟨rfl, hb7⟩)
          go_ret
          exact ⟨rfl, bt2 (bt2 hB36 hB) hb7⟩
  · go_enter Try.func5, Try.ntmps5
    go_wp2_with fail
    go_ret
    exact ⟨rfl, Below.refl _ _⟩
end Go.Proofs.Ytgdpebnnmklbjaa
