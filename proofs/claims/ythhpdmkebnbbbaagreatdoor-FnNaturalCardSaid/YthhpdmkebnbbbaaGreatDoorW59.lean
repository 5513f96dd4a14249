/- The walk of the promise law FnNatural. -/
import Derived.Test.YthhpdmkebnbbbaaGreatDoorMg4
import Derived.Test.YthhpdmkebnbbbaaGreatDoorD6
import Derived.Test.YthhpdmkebnbbbaaGreatDoorS57
import Derived.Test.YthhpdmkebnbbbaaGreatDoorMgF
import Derived.Test.YthhpdmkebnbbbaaGreatDoorMgB
import Derived.Test.YthhpdmkebnbbbaaGreatDoorMgH
import Derived.BigQuiet
namespace Go.Proofs.YthhpdmkebnbbbaaGreatDoor
open Go.RowKit
theorem exa_once {zs : List Cl} (hs : sysB zs = true) (h : ∀ x : Int, cntN zs x = 1) : exaB zs = true := by
  obtain ⟨P, hP⟩ := per_nat hs
  have h1 := (al_iff hs P hP).2 fun x _ => by rw [h]; exact Int.le_refl _
  have h2 := (apr_iff hs P hP).2 fun x _ => by rw [h]; exact Int.le_refl _
  unfold aprB at h2
  rw [Bool.and_eq_true] at h2
  unfold exaB
  rw [h1, h2.2]; rfl
/-- what a natural system's promises come to -/
theorem natB_facts {zs : List Cl} (h : natB zs = true) : sysB zs = true ∧ movsB 1 zs = true ∧ natB (movR 1 zs) = true ∧ natB (srtR zs) = true ∧ exaB zs = true := by
  obtain ⟨hs, hn⟩ : sysB zs = true ∧ nat zs = true := by simpa [natB] using h
  obtain ⟨l1, l2, ha, _⟩ := sysB_facts hs
  have hv := vl_all ha
  have hm : movsB 1 zs = true := by
    unfold movsB
    rw [hs]; decide
  have hmr : movR 1 zs = mv1 zs := by
    unfold movR
    rw [hm]
    rfl
  have hms : sysB (mv1 zs) = true := (movL_sys (x := 1) hs).1
  obtain ⟨t1, _, _⟩ := srt_sam hs
  refine ⟨hs, hm, ?_, ?_, exa_once hs (nat_once hv hn)⟩
  · rw [hmr]
    unfold natB
    rw [hms, nat_mv1 hv, hn]; rfl
  · rw [srtR_t hs]
    unfold natB
    rw [t1, nat_perm (srtL_perm zs), hn]; rfl
set_option maxRecDepth 20000 in
set_option maxHeartbeats 4000000 in
theorem w_FnNatural (s : Option Addr) (len cap : Nat) (w : World) (hgE : LaidE w) (h : Code0 w s len cap) : Calls Tryz.prog 3 #[.slice s len cap] w fun e w' => e = .returned (.bool true) ∧ Below w.heap.size w w' := by
  have hlc := h.lc
  have hcm := h.cm
  unfold maxLen at hcm
  by_cases hlen : ¬ len ≤ 1048576
  · go_enter Tryz.func3, Tryz.ntmps3
    go_wp2_with fail
    go_ret
    exact ⟨rfl, Below.refl _ _⟩
  have hlen2 : len ≤ 1048576 := by omega
  clear hlen
  go_enter Tryz.func3, Tryz.ntmps3
  go_wp2_with fail
  refine (c_DrawExactNatural s len cap _ h).mono ?_
  rintro e w0 ⟨v0, zs, rfl, hO0, hl0, hT⟩
  obtain ⟨so, co, rfl, hC, hc1, hc2⟩ := hO0.all
  clear hO0 h
  have k1 := fun W hg hc => c_implExactNatural so zs.length co zs (by omega) W hg hc
  have k2 := fun W hc => c_specExactNatural so zs.length co zs (by omega) W hc
  cases hb : natB zs
  · rw [hb] at k1 k2
    go_wp2_with fail
    refine (k1 _ (hgE.keep hT) hC).mono ?_
    rintro e w1 ⟨rfl, hb1⟩
    have hC := hC.keep hb1
    have hT := bt2 hT hb1
    go_wp2_with fail
    refine (k2 _ hC).mono ?_
    rintro e w2 ⟨rfl, hb2⟩
    have hT := bt2 hT hb2
    clear k1 k2 hb
    go_wp2_with fail
    go_ret
    exact ⟨rfl, hT⟩
  · rw [hb] at k1 k2
    obtain ⟨f1, f2, f3, f4, f5⟩ := natB_facts hb
    have hml : (movR 1 zs).length ≤ 1048576 := by
      unfold movR
      rw [f2]
      show (movL 1 zs).length ≤ _
      unfold movL
      rw [List.length_map]
      omega
    have hsl : (srtR zs).length ≤ zs.length := by rw [srtR_t f1, srtL_length]; exact Nat.le_refl _
    have k3 := fun W hc => c_implSystemMoved so zs.length co zs 1 (by omega) W hc
    rw [f2] at k3
    have k4 := fun W hg hc => c_implExactSorted so zs.length co zs (by omega) W hg hc
    rw [f1] at k4
    have k5 := fun W hc => c_implSystemExact so zs.length co zs (by omega) W hc
    rw [f5] at k5
    have k6 := fun s c W hg hc => c_implExactNatural s (movR 1 zs).length c (movR 1 zs) hml W hg hc
    rw [f3] at k6
    have k7 := fun s c W hg hc => c_implExactNatural s (srtR zs).length c (srtR zs) (by omega) W hg hc
    rw [f4] at k7
    clear hb f1 f2 f3 f4 f5 hml hsl
    generalize movR 1 zs = M at *
    generalize srtR zs = R at *
    go_wp2_with fail
    refine (k1 _ (hgE.keep hT) hC).mono ?_
    rintro e w1 ⟨rfl, hb1⟩
    have hC := hC.keep hb1
    have hT := bt2 hT hb1
    go_wp2_with fail
    refine (k2 _ hC).mono ?_
    rintro e w2 ⟨rfl, hb2⟩
    have hC := hC.keep hb2
    have hT := bt2 hT hb2
    clear k1 k2
    go_wp2_with fail
    refine (k3 _ hC).mono ?_
    rintro e w3 ⟨v3, rfl, hR3, hb3⟩
    have hC := hC.keep hb3
    have hT := bt2 hT hb3
    obtain ⟨s3, c3, rfl, hC3, _⟩ := hR3.spread
    clear hR3 k3
    go_wp2_with fail
    refine (k4 _ (hgE.keep hT) hC).mono ?_
    rintro e w4 ⟨v4, rfl, hR4, hb4⟩
    have hC := hC.keep hb4
    have hC3 := hC3.keep hb4
    have hT := bt2 hT hb4
    obtain ⟨s4, c4, rfl, hC4, _⟩ := hR4.spread
    clear hR4 k4
    go_wp2_with fail
    refine (k5 _ hC).mono ?_
    rintro e w5 ⟨rfl, hb5⟩
    have hC3 := hC3.keep hb5
    have hC4 := hC4.keep hb5
    have hT := bt2 hT hb5
    clear k5
    go_wp2_with fail
    refine (k6 _ _ _ (hgE.keep hT) hC3).mono ?_
    rintro e w6 ⟨rfl, hb6⟩
    have hC4 := hC4.keep hb6
    have hT := bt2 hT hb6
    clear k6
    go_wp2_with fail
    refine (k7 _ _ _ (hgE.keep hT) hC4).mono ?_
    rintro e w7 ⟨rfl, hb7⟩
    have hT := bt2 hT hb7
    go_wp2_with fail
    go_ret
    exact ⟨rfl, hT⟩
end Go.Proofs.YthhpdmkebnbbbaaGreatDoor
