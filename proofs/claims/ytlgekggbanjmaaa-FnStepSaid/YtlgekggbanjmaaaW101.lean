/- The walk of the promise law FnStep. -/
import Derived.Test.YtlgekggbanjmaaaDu
import Derived.Test.YtlgekggbanjmaaaMathTb
import Derived.Test.YtlgekggbanjmaaaTd
import Derived.Test.YtlgekggbanjmaaaTe
import Derived.Test.YtlgekggbanjmaaaSame5
namespace Go.Proofs.Ytlgekggbanjmaaa
open Go.RowKit
set_option maxRecDepth 20000 in
set_option maxHeartbeats 4000000 in
theorem w_FnStep (s : Option Addr) (len cap : Nat) (w : World) (h : Code0 w s len cap) : Calls Try.prog 6 #[.slice s len cap] w fun e w' => e = .returned (.bool true) ∧ Below w.heap.size w w' := by
  have hlc := h.lc
  have hcm := h.cm
  unfold maxLen at hcm
  by_cases hlen : ¬ len ≤ 1048576
  · go_enter Try.func6, Try.ntmps6
    go_wp2_with fail
    go_ret
    exact ⟨rfl, Below.refl _ _⟩
  have hlen2 : len ≤ 1048576 := by omega
  clear hlen
  go_enter Try.func6, Try.ntmps6
  go_wp2_with fail
  refine (c_DrawTileStep s len cap _ h).mono ?_
  rintro e w0 ⟨n, v, z, n1, n2, hl, rfl, hO, hT0⟩
  obtain ⟨so, co, rfl, hC, _⟩ := hO.spread
  clear hO h
  go_wp2_with fail
  refine (c_implTileStep n so z.length co z (by omega) _ hC).mono ?_
  rintro e w1 ⟨rfl, hB1⟩
  have hT1 := hT0.trans (hB1.mono hT0.size)
  go_wp2_with fail
  refine (c_specTileStep n so z.length co z (by omega) _ (hC.keep hB1)).mono ?_
  rintro e w2 ⟨rfl, hB2⟩
  have hB12 := bt2 hB1 hB2
  have hT2 := hT0.trans (hB12.mono hT0.size)
  have hC := hC.keep hB12
  cases ht : tilB n z
  · have hst : stpR n z = 0 := by simp [stpR, ht, selI]
    rw [hst]
    go_wp2_with fail
    go_ret
    exact ⟨rfl, hT2⟩
  · have hTl := tilB_t.1 ht
    have hst : stpR n z = stpX n z := by simp [stpR, ht, selI]
    rw [hst]
    obtain ⟨g1, g2, g3, _⟩ := stp_facts hTl
    have e2 : tmdB n z (stpX n z) = true := by simp [tmdB, ht, l6B]; omega
    have e1 : tmdR n z (stpX n z) = z := by simp only [tmdR, e2, cond_true]; exact g1
    have hm0 : 0 ≤ (z.length : Int) * stpX n z := Int.mul_nonneg (by omega) (by omega)
    have hm1 : (z.length : Int) * stpX n z ≤ 576 := by
      have := Int.mul_le_mul (show (z.length : Int) ≤ 24 by omega) (show stpX n z ≤ 24 by omega) (by omega) (by omega); omega
    have hdv : ((z.length : Int) * stpX n z).tmod n = 0 := by rw [Int.tmod_eq_emod_of_nonneg hm0]; exact stp_count hTl
    have hne : n ≠ 0 := by omega
    have hcm' := c_implTileMoved n (stpX n z) so z.length co z (by omega) w2 hC
    rw [e1, e2] at hcm'
    clear ht hTl e1 e2 hst g1
    generalize stpX n z = d at *
    go_wp2_with fail
    refine hcm'.mono ?_
    rintro e w3 ⟨v3, rfl, hO3, hB3⟩
    obtain ⟨s3, c3, rfl, hI3, _⟩ := hO3.spread
    go_wp2_with fail
    refine (c_sameInts s3 so z.length c3 co z (by omega) _ hI3 (hC.keep hB3)).mono ?_
    rintro e w5 ⟨rfl, hB5⟩
    have hT5 := hT2.trans ((bt2 hB3 hB5).mono hT2.size)
    go_wp2_with fail
    go_ret
    exact ⟨rfl, hT5⟩
end Go.Proofs.Ytlgekggbanjmaaa
