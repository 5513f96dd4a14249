/- The walk of the promise law FnTileSystem. -/
import Derived.Test.YtlgekggbanjmaaaDv
import Derived.Test.YtlgekggbanjmaaaMathTf
import Derived.Test.YtlgekggbanjmaaaD6
import Derived.Test.YtlgekggbanjmaaaS8
import Derived.Test.YtlgekggbanjmaaaTf
import Derived.Test.YtlgekggbanjmaaaTg
namespace Go.Proofs.Ytlgekggbanjmaaa
open Go.RowKit
theorem tsyR_le7 (n : Int) (a b : List Int) : (tsyR n a b).length ≤ 24 := by
  unfold tsyR
  cases h : tsyB n a b
  · simp
  · simp only [tsyB, Bool.and_eq_true, decide_eq_true_eq] at h
    have h2 := h.2
    simp only [cond_true, tsyL, List.length_map]
    omega
set_option maxRecDepth 20000 in
set_option maxHeartbeats 4000000 in
theorem w_FnTileSystem (s : Option Addr) (len cap : Nat) (w : World) (h : Code0 w s len cap) : Calls Try.prog 10 #[.slice s len cap] w fun e w' => e = .returned (.bool true) ∧ Below w.heap.size w w' := by
  have hlc := h.lc
  have hcm := h.cm
  unfold maxLen at hcm
  by_cases hlen : ¬ len ≤ 1048576
  · go_enter Try.func10, Try.ntmps10
    go_wp2_with fail
    go_ret
    exact ⟨rfl, Below.refl _ _⟩
  have hlen2 : len ≤ 1048576 := by omega
  clear hlen
  go_enter Try.func10, Try.ntmps10
  go_wp2_with fail
  refine (c_DrawTileSystem s len cap _ h).mono ?_
  rintro e w0 ⟨n, v, u, za, zb, n1, n2, hl, hm, rfl, hO, hP, hT0⟩
  obtain ⟨so, co, rfl, hC, _⟩ := hO.spread
  obtain ⟨su, cu, rfl, hD, _⟩ := hP.spread
  clear hO hP h
  go_wp2_with fail
  refine (c_implTileSystem n so su za.length co zb.length cu za zb (by omega) (by omega) _ hC hD).mono ?_
  rintro e w1 ⟨v1, rfl, hO1, hB1⟩
  go_wp2_with fail
  refine (c_specTileSystem n so su za.length co zb.length cu za zb (by omega) (by omega) _ (hC.keep hB1) (hD.keep hB1)).mono ?_
  rintro e w2 ⟨v2, rfl, hO2, hB2⟩
  have hB12 := bt2 hB1 hB2
  have hT2 := hT0.trans (hB12.mono hT0.size)
  have hO1 := hO1.keep hB2
  obtain ⟨s1, c1, rfl, hI1, _⟩ := hO1.spread
  obtain ⟨s2, c2, rfl, hI2, _⟩ := hO2.spread
  clear hB1 hB2 hB12 hT0 hO1 hO2 hC hD
  have HRl := Lib.hid (show (tsyR n za zb).length ≤ 1048576 by have := tsyR_le7 n za zb; omega)
  have hsc := fun (w3 : World) (hI : Cls w3 s1 (tsyR n za zb).length (tsyR n za zb)) (hJ : Cls w3 s2 (tsyR n za zb).length (tsyR n za zb)) => c_sameClasses s1 s2 (tsyR n za zb).length c1 c2 (tsyR n za zb) HRl.out w3 hI hJ
  cases ht : tsyB n za zb
  · go_wp2_with fail
    refine (hsc _ hI1 hI2).mono ?_
    rintro e w3 ⟨rfl, hB3⟩
    have hT3 := hT2.trans (hB3.mono hT2.size)
    go_wp2_with fail
    refine (hsc _ (hI1.keep hB3) (hI2.keep hB3)).mono ?_
    rintro e w4 ⟨rfl, hB4⟩
    have hT4 := hT3.trans (hB4.mono hT3.size)
    go_wp2_with fail
    go_ret
    exact ⟨rfl, hT4⟩
  · have hR : tsyR n za zb = tsyL n zb := by simp [tsyR, ht]
    have htb : tboB n za zb = true := by simp only [tsyB, Bool.and_eq_true] at ht; exact ht.1
    obtain ⟨hTa, hTb, _, hpr⟩ := tboB_til htb
    have hLl := tsyL_length n zb
    rw [hR] at hI1 hI2 hsc HRl
    rw [hR]
    have hpz : (zb.length : Int) * (za.length : Int) = n := by rw [Int.mul_comm]; exact hpr
    have hsh := fun (w3 : World) (hI : Cls w3 s1 (tsyL n zb).length (tsyL n zb)) => c_implSystemShare s1 (tsyL n zb).length c1 (tsyL n zb) HRl.out w3 hI
    have hap := fun (w3 : World) (hI : Cls w3 s1 (tsyL n zb).length (tsyL n zb)) => c_implSystemApart s1 (tsyL n zb).length c1 (tsyL n zb) HRl.out w3 hI
    have HLl := Lib.hid hLl
    by_cases h8 : zb.length ≤ 8
    · rw [sysB_tsy hTb h8, shrI_tsy hTb] at hsh
      rw [aprB_tsy hTb h8] at hap
      have hsel : selI true (zb.length : Int) = (zb.length : Int) := rfl
      rw [hsel] at hsh
      have h8' : ¬ 8 < (tsyL n zb).length := by omega
      clear ht htb hTa hTb hpr hLl hR hsel h8 HLl
      generalize tsyL n zb = R at *
      go_wp2_with fail
      refine (hsc _ hI1 hI2).mono ?_
      rintro e w3 ⟨rfl, hB3⟩
      go_wp2_with fail
      refine (hsh _ (hI1.keep hB3)).mono ?_
      rintro e w4 ⟨rfl, hB4⟩
      go_wp2_with fail
      refine (hap _ (hI1.keep (bt2 hB3 hB4))).mono ?_
      rintro e w5 ⟨rfl, hB5⟩
      have hT5 := hT2.trans ((bt2 (bt2 hB3 hB4) hB5).mono hT2.size)
      go_wp2_with fail
      go_ret
      exact ⟨rfl, hT5⟩
    · have h8' : 8 < (tsyL n zb).length := by omega
      clear ht htb hTa hTb hpr hLl hR h8 hap HLl
      generalize selI (sysB (tsyL n zb)) (shrI (tsyL n zb)) = K at *
      generalize sysB (tsyL n zb) = sb at *
      generalize tsyL n zb = R at *
      go_wp2_with fail
      refine (hsc _ hI1 hI2).mono ?_
      rintro e w3 ⟨rfl, hB3⟩
      go_wp2_with fail
      refine (hsh _ (hI1.keep hB3)).mono ?_
      rintro e w4 ⟨rfl, hB4⟩
      have hT4 := hT2.trans ((bt2 hB3 hB4).mono hT2.size)
      go_wp2_with fail
      go_ret
      exact ⟨rfl, hT4⟩
end Go.Proofs.Ytlgekggbanjmaaa
