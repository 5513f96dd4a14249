/- The walk of the promise law FnNaturalSplit (not built yet). -/
import Derived.Test.YtnmlljhgilpocaaDoorMg4
import Derived.Test.YtnmlljhgilpocaaDoorMz2
import Derived.Test.YtnmlljhgilpocaaDoorMgH
import Derived.Test.YtnmlljhgilpocaaDoorMg9
import Derived.Test.YtnmlljhgilpocaaDoorMgF
import Derived.Test.YtnmlljhgilpocaaDoorMgB
import Derived.Test.YtnmlljhgilpocaaDoorMgR
import Derived.BigQuiet
namespace Go.Proofs.YtnmlljhgilpocaaDoor
open Go.RowKit
theorem spiR_le8 (zs : List Cl) (i k : Int) : (spiR zs i k).length ≤ 8 := by
  unfold spiR
  cases h : spiB zs i k
  · simp
  · unfold spiB at h
    simp only [Bool.and_eq_true] at h
    obtain ⟨_, l2, _⟩ := sysB_facts h.2
    simpa using l2
theorem spi_nat {zs : List Cl} {i k : Int} (h : spiB zs i k = true) : natB (spiR zs i k) = natB zs := by
  have hR : spiR zs i k = sptL zs i.toNat k := by unfold spiR; rw [h]; rfl
  unfold spiB at h
  simp only [Bool.and_eq_true, decide_eq_true_eq] at h
  rw [hR]
  obtain ⟨⟨⟨h1, h2⟩, h3⟩, h4⟩ := h
  have h4 : sysB (sptL zs i.toNat k) = true := h4
  have hk : 1 ≤ k := by
    unfold parB at h3
    simp only [Bool.and_eq_true, decide_eq_true_eq] at h3
    omega
  obtain ⟨K, rfl⟩ := Int.eq_ofNat_of_zero_le (show 0 ≤ k by omega)
  have := nat_spt (zs := zs) (i := i.toNat) (K := K) h1 h4 (by omega) (by omega)
  unfold natB
  rw [h1, this]
  have h4 : sysB (sptL zs i.toNat (K : Int)) = true := h4
  rw [h4]
set_option maxRecDepth 20000 in
set_option maxHeartbeats 4000000 in
theorem w_FnNaturalSplit (s : Option Addr) (len cap : Nat) (w : World) (hgE : LaidE w) (h : Code0 w s len cap) : Calls Tryd.prog 3 #[.slice s len cap] w fun e w' => e = .returned (.bool true) ∧ Below w.heap.size w w' := by
  have hlc := h.lc
  have hcm := h.cm
  unfold maxLen at hcm
  by_cases hlen : ¬ len ≤ 1048576
  · go_enter Tryd.func3, Tryd.ntmps3
    go_wp2_with fail
    go_ret
    exact ⟨rfl, Below.refl _ _⟩
  have hlen2 : len ≤ 1048576 := by omega
  clear hlen
  go_enter Tryd.func3, Tryd.ntmps3
  go_wp2_with fail
  refine (c_DrawExactSplit s len cap _ h).mono ?_
  rintro e w0 ⟨v0, zs, i, k, rfl, hO0, hl0, hi1, hi2, hk1, hk2, hT⟩
  obtain ⟨so, co, rfl, hC, hc1, hc2⟩ := hO0.all
  clear hO0 h
  go_wp2_with fail
  refine (c_implExactSplit so zs.length co zs i k (by omega) hc1 hc2 _ (hgE.keep hT) hC).mono ?_
  rintro e w1 ⟨v1, rfl, hR1, hb1⟩
  have hC := hC.keep hb1
  have hT := bt2 hT hb1
  obtain ⟨so1, co1, rfl, hC1, _⟩ := hR1.spread
  clear hR1
  go_wp2_with fail
  refine (c_specExactSplit so zs.length co zs i k (by omega) hc1 hc2 _ hC).mono ?_
  rintro e w2 ⟨v2, rfl, hR2, hb2⟩
  have hC := hC.keep hb2
  have hC1 := hC1.keep hb2
  have hT := bt2 hT hb2
  obtain ⟨so2, co2, rfl, hC2, _⟩ := hR2.spread
  clear hR2
  have hle := spiR_le8 zs i k
  have HL := Lib.hid (show (spiR zs i k).length ≤ 1048576 by omega)
  clear hle
  go_wp2_with fail
  refine (c_sameClasses so1 so2 (spiR zs i k).length co1 co2 (spiR zs i k) HL.out _ hC1 hC2).mono ?_
  rintro e w3 ⟨rfl, hb3⟩
  have hC := hC.keep hb3
  have hC1 := hC1.keep hb3
  have hC2 := hC2.keep hb3
  have hT := bt2 hT hb3
  cases hs : spiB zs i k
  · clear hs
    go_wp2_with fail
    refine (c_sameClasses so1 so2 (spiR zs i k).length co1 co2 (spiR zs i k) HL.out _ hC1 hC2).mono ?_
    rintro e w4 ⟨rfl, hb4⟩
    go_wp2_with fail
    go_ret
    exact ⟨rfl, bt2 hT hb4⟩
  · have t3 := spi_nat hs
    have k3 := fun W hg a => c_implExactNatural so1 (spiR zs i k).length co1 (spiR zs i k) HL.out W hg a
    rw [t3] at k3
    have k4 := fun W hg a => c_implExactNatural so zs.length co zs (by omega) W hg a
    clear hs t3 hC2
    generalize natB zs = E at *
    generalize spiR zs i k = R at *
    go_wp2_with fail
    refine (k3 _ (hgE.keep hT) hC1).mono ?_
    rintro e w5 ⟨rfl, hb5⟩
    have hC := hC.keep hb5
    have hT := bt2 hT hb5
    go_wp2_with fail
    refine (k4 _ (hgE.keep hT) hC).mono ?_
    rintro e w6 ⟨rfl, hb6⟩
    go_wp2_with fail
    go_ret
    exact ⟨rfl, bt2 hT hb6⟩
end Go.Proofs.YtnmlljhgilpocaaDoor
