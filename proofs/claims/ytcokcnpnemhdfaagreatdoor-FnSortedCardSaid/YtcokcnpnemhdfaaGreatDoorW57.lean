/- The walk of the promise law FnSorted. -/
import Derived.Test.YtcokcnpnemhdfaaGreatDoorMg4
import Derived.Test.YtcokcnpnemhdfaaGreatDoorD6
import Derived.Test.YtcokcnpnemhdfaaGreatDoorS57
import Derived.Test.YtcokcnpnemhdfaaGreatDoorS45
import Derived.Test.YtcokcnpnemhdfaaGreatDoorS16
import Derived.BigQuiet
namespace Go.Proofs.YtcokcnpnemhdfaaGreatDoor
open Go.RowKit
set_option maxRecDepth 20000 in
set_option maxHeartbeats 4000000 in
theorem w_FnSorted (s : Option Addr) (len cap : Nat) (w : World) (hgE : LaidE w) (h : Code0 w s len cap) : Calls Tryz.prog 3 #[.slice s len cap] w fun e w' => e = .returned (.bool true) ∧ Below w.heap.size w w' := by
  have hlc := h.lc
  have hcm := h.cm
  unfold maxLen at hcm
  by_cases hlen : ¬ len ≤ 1048576
  · go_enter Tryz.func3, Tryz.ntmps3
    go_wp2_with fail
    go_ret
    exact ⟨rfl, Below.refl _ _⟩
  have hlen2 : len ≤ 1048576 := by omega
  clear hlen
  go_enter Tryz.func3, Tryz.ntmps3
  go_wp2_with fail
  refine (c_DrawExactSorted s len cap _ h).mono ?_
  rintro e w0 ⟨v0, zs, rfl, hO0, hl0, hT⟩
  obtain ⟨so, co, rfl, hC, hc1, hc2⟩ := hO0.all
  clear hO0 h
  go_wp2_with fail
  refine (c_implExactSorted so zs.length co zs (by omega) _ (hgE.keep hT) hC).mono ?_
  rintro e w1 ⟨v1, rfl, hR1, hb1⟩
  have hC := hC.keep hb1
  have hT := bt2 hT hb1
  obtain ⟨so1, co1, rfl, hC1, _⟩ := hR1.spread
  clear hR1
  go_wp2_with fail
  refine (c_specExactSorted so zs.length co zs (by omega) _ hC).mono ?_
  rintro e w2 ⟨v2, rfl, hR2, hb2⟩
  have hC := hC.keep hb2
  have hC1 := hC1.keep hb2
  have hT := bt2 hT hb2
  obtain ⟨so2, co2, rfl, hC2, _⟩ := hR2.spread
  clear hR2
  have hle := srtR_le zs
  have HL := Lib.hid (show (srtR zs).length ≤ 1048576 by omega)
  have HL9 := Lib.hid (show (srtR zs).length ≤ 9 by omega)
  clear hle
  go_wp2_with fail
  refine (c_sameClasses so1 so2 (srtR zs).length co1 co2 (srtR zs) HL.out _ hC1 hC2).mono ?_
  rintro e w3 ⟨rfl, hb3⟩
  have hC := hC.keep hb3
  have hC1 := hC1.keep hb3
  have hC2 := hC2.keep hb3
  have hT := bt2 hT hb3
  cases hs : sysB zs
  · clear hs
    go_wp2_with fail
    refine (c_sameClasses so1 so2 (srtR zs).length co1 co2 (srtR zs) HL.out _ hC1 hC2).mono ?_
    rintro e w4 ⟨rfl, hb4⟩
    go_wp2_with fail
    go_ret
    exact ⟨rfl, bt2 hT hb4⟩
  · obtain ⟨t1, t2, t3⟩ := srt_sam hs
    rw [← srtR_t hs] at t1 t2 t3
    have k1 := fun W hg hc => c_implExactSorted so1 (srtR zs).length co1 (srtR zs) HL.out W hg hc
    rw [t1, t3] at k1
    have k2 := fun W a b => c_implSystemSame so so1 zs.length (srtR zs).length co co1 zs (srtR zs) (by omega) HL.out W a b
    rw [t2] at k2
    clear hs t1 t2 t3
    generalize srtR zs = R at *
    go_wp2_with fail
    refine (k1 _ (hgE.keep hT) hC1).mono ?_
    rintro e w4 ⟨v4, rfl, hR4, hb4⟩
    have hC := hC.keep hb4
    have hC1 := hC1.keep hb4
    have hT := bt2 hT hb4
    obtain ⟨so4, co4, rfl, hC4, _⟩ := hR4.spread
    clear hR4 hC2 k1
    go_wp2_with fail
    refine (c_sameClasses so4 so1 R.length co4 co1 R HL.out _ hC4 hC1).mono ?_
    rintro e w5 ⟨rfl, hb5⟩
    have hC := hC.keep hb5
    have hC1 := hC1.keep hb5
    have hT := bt2 hT hb5
    go_wp2_with fail
    refine (k2 _ hC hC1).mono ?_
    rintro e w6 ⟨rfl, hb6⟩
    go_wp2_with fail
    go_ret
    exact ⟨rfl, bt2 hT hb6⟩
end Go.Proofs.YtcokcnpnemhdfaaGreatDoor
