/- The walk of the promise law FnTileMoved. -/
import Derived.Test.YtlgekggbanjmaaaDu
import Derived.Test.YtlgekggbanjmaaaMathTb
import Derived.Test.YtlgekggbanjmaaaTd
import Derived.Test.YtlgekggbanjmaaaSame5
namespace Go.Proofs.Ytlgekggbanjmaaa
open Go.RowKit
theorem tmd_len (n : Int) (z : List Int) (t : Int) : (tmdR n z t).length ≤ 24 := by
  unfold tmdR
  cases h : tmdB n z t
  · simp
  · have hT := tilB_t.1 (show tilB n z = true by simp only [tmdB, Bool.and_eq_true] at h; exact h.1)
    have h1 := setL_le n.toNat fun y => decide (y ∈ tmvL n z t)
    have h2 := hT.1
    have h3 := hT.2.1
    simp only [cond_true, tmvR, plc]
    omega
theorem movR_til_any {n : Int} {z : List Int} (h : Til n z) (t : Int) : Til n (tmvR n z t) := tmvR_til h t
set_option maxRecDepth 20000 in
set_option maxHeartbeats 4000000 in
theorem w_FnTileMoved (s : Option Addr) (len cap : Nat) (w : World) (h : Code0 w s len cap) : Calls Try.prog 5 #[.slice s len cap] w fun e w' => e = .returned (.bool true) ∧ Below w.heap.size w w' := by
  have hlc := h.lc
  have hcm := h.cm
  unfold maxLen at hcm
  by_cases hlen : ¬ len ≤ 1048576
  · go_enter Try.func5, Try.ntmps5
    go_wp2_with fail
    go_ret
    exact ⟨rfl, Below.refl _ _⟩
  have hlen2 : len ≤ 1048576 := by omega
  clear hlen
  go_enter Try.func5, Try.ntmps5
  go_wp2_with fail
  refine (c_DrawTileMoved s len cap _ h).mono ?_
  rintro e w0 ⟨n, v, z, t, n1, n2, hl, t1, t2, rfl, hO, hT0⟩
  obtain ⟨so, co, rfl, hC, _⟩ := hO.spread
  clear hO h
  go_wp2_with fail
  refine (c_implTileMoved n t so z.length co z (by omega) _ hC).mono ?_
  rintro e w1 ⟨v1, rfl, hO1, hB1⟩
  have hT1 := hT0.trans (hB1.mono hT0.size)
  go_wp2_with fail
  refine (c_specTileMoved n t so z.length co z (by omega) _ (hC.keep hB1)).mono ?_
  rintro e w2 ⟨v2, rfl, hO2, hB2⟩
  have hB12 := bt2 hB1 hB2
  have hT2 := hT0.trans (hB12.mono hT0.size)
  have hO1 := hO1.keep hB2
  have hC := hC.keep hB12
  obtain ⟨s1, c1, rfl, hI1, _⟩ := hO1.spread
  obtain ⟨s2, c2, rfl, hI2, _⟩ := hO2.spread
  have hRl : (tmdR n z t).length ≤ 1048576 := by have := tmd_len n z t; omega
  have HRl := Lib.hid hRl
  clear hRl hO1 hO2
  cases ht : tmdB n z t
  · go_wp2_with fail
    refine (c_sameInts s1 s2 (tmdR n z t).length c1 c2 (tmdR n z t) HRl.out _ hI1 hI2).mono ?_
    rintro e w3 ⟨rfl, hB3⟩
    have hT3 := hT2.trans (hB3.mono hT2.size)
    go_wp2_with fail
    try
      refine (c_sameInts s1 s2 (tmdR n z t).length c1 c2 (tmdR n z t) HRl.out _ (hI1.keep hB3) (hI2.keep hB3)).mono ?_
      rintro e w4 ⟨rfl, hB4⟩
      have hT3 := hT3.trans (hB4.mono hT3.size)
      go_wp2_with fail
    go_ret
    exact ⟨rfl, hT3⟩
  · have hTl : Til n z := tilB_t.1 (by simp only [tmdB, Bool.and_eq_true] at ht; exact ht.1)
    have htb : -1000 ≤ t ∧ t ≤ 1000 := by simp only [tmdB, Bool.and_eq_true] at ht; simpa [l6B] using ht.2
    have hR : tmdR n z t = tmvR n z t := by simp [tmdR, ht]
    have hTm := movR_til_any hTl t
    rw [hR] at hI1 hI2 HRl
    have e2 : tmdB n (tmvR n z t) (-t) = true := by
      have h1 := tilB_t.2 hTm
      simp [tmdB, h1, l6B]; omega
    have e1 : tmdR n (tmvR n z t) (-t) = z := by simp only [tmdR, e2, cond_true]; have hb := tmv_back hTl t; rwa [Int.zero_sub] at hb
    have hsa : stpR n z = stpX n z := by simp [stpR, tilB_t.2 hTl, selI]
    have hsb : stpR n (tmvR n z t) = stpX n z := by simp [stpR, tilB_t.2 hTm, selI, stp_moved hTl]
    have hta := tilB_t.2 hTl
    have htm := tilB_t.2 hTm
    have hcm' := fun (w3 : World) hI => c_implTileMoved n (-t) s1 (tmvR n z t).length c1 (tmvR n z t) HRl.out w3 hI
    rw [e1, e2] at hcm'
    have hca := fun (w3 : World) hI => c_implTileStep n so z.length co z (by omega) w3 hI
    rw [hsa, hta] at hca
    have hcb := fun (w3 : World) hI => c_implTileStep n s1 (tmvR n z t).length c1 (tmvR n z t) HRl.out w3 hI
    rw [hsb, htm] at hcb
    have hcs := fun (w3 : World) hI hJ => c_sameInts s1 s2 (tmvR n z t).length c1 c2 (tmvR n z t) HRl.out w3 hI hJ
    clear ht hTl hTm e1 e2 hsa hsb hta htm
    rw [hR]
    clear hR
    generalize tmvR n z t = y at *
    go_wp2_with fail
    refine (hcs _ hI1 hI2).mono ?_
    rintro e w3 ⟨rfl, hB3⟩
    go_wp2_with fail
    refine (hcm' _ (hI1.keep hB3)).mono ?_
    rintro e w4 ⟨v4, rfl, hO4, hB4⟩
    obtain ⟨s4, c4, rfl, hI4, _⟩ := hO4.spread
    clear hO4
    have hB34 := bt2 hB3 hB4
    go_wp2_with fail
    refine (hca _ (hC.keep hB34)).mono ?_
    rintro e w5 ⟨rfl, hB5⟩
    have hB35 := bt2 hB34 hB5
    go_wp2_with fail
    refine (hcb _ (hI1.keep hB35)).mono ?_
    rintro e w6 ⟨rfl, hB6⟩
    have hB36 := bt2 hB35 hB6
    go_wp2_with fail
    refine (c_sameInts s4 so z.length c4 co z (by omega) _ (hI4.keep (bt2 hB5 hB6)) (hC.keep hB36)).mono ?_
    rintro e w7 ⟨rfl, hB7⟩
    have hT7 := hT2.trans ((bt2 hB36 hB7).mono hT2.size)
    go_wp2_with fail
    go_ret
    exact ⟨rfl, hT7⟩
end Go.Proofs.Ytlgekggbanjmaaa
