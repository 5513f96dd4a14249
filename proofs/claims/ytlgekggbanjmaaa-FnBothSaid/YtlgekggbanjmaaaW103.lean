/- The walk of the promise law FnBoth. -/
import Derived.Test.YtlgekggbanjmaaaDv
import Derived.Test.YtlgekggbanjmaaaMathTe
import Derived.Test.YtlgekggbanjmaaaTf
import Derived.Test.YtlgekggbanjmaaaTg
namespace Go.Proofs.Ytlgekggbanjmaaa
open Go.RowKit
set_option maxRecDepth 20000 in
set_option maxHeartbeats 4000000 in
theorem w_FnBoth (s : Option Addr) (len cap : Nat) (w : World) (h : Code0 w s len cap) : Calls Try.prog 4 #[.slice s len cap] w fun e w' => e = .returned (.bool true) ∧ Below w.heap.size w w' := by
  have hlc := h.lc
  have hcm := h.cm
  unfold maxLen at hcm
  by_cases hlen : ¬ len ≤ 1048576
  · go_enter Try.func4, Try.ntmps4
    go_wp2_with fail
    go_ret
    exact ⟨rfl, Below.refl _ _⟩
  have hlen2 : len ≤ 1048576 := by omega
  clear hlen
  go_enter Try.func4, Try.ntmps4
  go_wp2_with fail
  refine (c_DrawTileBoth s len cap _ h).mono ?_
  rintro e w0 ⟨n, v, u, za, zb, n1, n2, hl, hm, rfl, hO, hP, hT0⟩
  obtain ⟨so, co, rfl, hC, _⟩ := hO.spread
  obtain ⟨su, cu, rfl, hD, _⟩ := hP.spread
  clear hO hP h
  go_wp2_with fail
  refine (c_implTileBoth n so su za.length co zb.length cu za zb (by omega) (by omega) _ hC hD).mono ?_
  rintro e w1 ⟨rfl, hB1⟩
  go_wp2_with fail
  refine (c_specTileBoth n so su za.length co zb.length cu za zb (by omega) (by omega) _ (hC.keep hB1) (hD.keep hB1)).mono ?_
  rintro e w2 ⟨rfl, hB2⟩
  have hB12 := bt2 hB1 hB2
  have hT2 := hT0.trans (hB12.mono hT0.size)
  have hC := hC.keep hB12
  have hD := hD.keep hB12
  clear hB1 hB2 hB12 hT0
  cases ht : tboB n za zb
  · go_wp2_with fail
    go_ret
    exact ⟨rfl, hT2⟩
  · obtain ⟨hTa, hTb, _, hpr⟩ := tboB_til ht
    have hta := tilB_t.2 hTa
    have e2 : tmdB n za 5 = true := by simp [tmdB, hta, l6B]
    have e1 : tmdR n za 5 = tmvR n za 5 := by simp [tmdR, e2]
    have hyl : (tmvR n za 5).length = za.length := tmvR_len hTa 5
    have hsw := tbo_swap ht
    have hmv := tbo_mov ht 5
    have hcm := c_implTileMoved n 5 so za.length co za (by omega) w2 hC
    rw [e1, e2] at hcm
    have hcb := fun (w3 : World) (hB : Below w2.heap.size w2 w3) => c_implTileBoth n su so zb.length cu za.length co zb za (by omega) (by omega) w3 (hD.keep hB) (hC.keep hB)
    rw [hsw] at hcb
    have hcx := fun (w3 : World) (s3 : Option Addr) (c3 : Nat) (hB : Below w2.heap.size w2 w3) (hI : Ints w3 s3 (tmvR n za 5).length (tmvR n za 5)) => c_implTileBoth n s3 su (tmvR n za 5).length c3 zb.length cu (tmvR n za 5) zb (by omega) (by omega) w3 hI (hD.keep hB)
    rw [hmv] at hcx
    have hlz : (za.length : Int) * (zb.length : Int) = n := hpr
    clear ht hTa hTb hta e1 e2 hsw hmv hpr hyl
    generalize tmvR n za 5 = y at *
    go_wp2_with fail
    refine hcm.mono ?_
    rintro e w3 ⟨v3, rfl, hO3, hB3⟩
    obtain ⟨s3, c3, rfl, hI3, _⟩ := hO3.spread
    go_wp2_with fail
    refine (hcb w3 hB3).mono ?_
    rintro e w4 ⟨rfl, hB4⟩
    go_wp2_with fail
    refine (hcx w4 s3 c3 (bt2 hB3 hB4) (hI3.keep hB4)).mono ?_
    rintro e w5 ⟨rfl, hB5⟩
    have hT5 := hT2.trans ((bt2 (bt2 hB3 hB4) hB5).mono hT2.size)
    go_wp2_with fail
    go_ret
    exact ⟨rfl, hT5⟩
end Go.Proofs.Ytlgekggbanjmaaa
