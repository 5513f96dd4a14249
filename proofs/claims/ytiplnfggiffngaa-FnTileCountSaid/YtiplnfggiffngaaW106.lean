/- The walk of the promise law FnTileCount, given the contracts of the program's TileFind and TileCount. -/
import Derived.Test.YtiplnfggiffngaaW105
import Derived.Test.YtiplnfggiffngaaW102
namespace Go.Proofs.Ytiplnfggiffngaa
open Go.RowKit
set_option maxRecDepth 20000 in
set_option maxHeartbeats 4000000 in
theorem v_FnTileCount (hF : FindP) (hK : CountP) (s : Option Addr) (len cap : Nat) (w : World) (h : Code0 w s len cap) : Calls Try.prog 4 #[.slice s len cap] w fun e w' => e = .returned (.bool true) ∧ Below w.heap.size w w' := by
  have hlc := h.lc
  have hcm := h.cm
  unfold maxLen at hcm
  by_cases hlen : ¬ len ≤ 1048576
  · go_enter Try.func4, Try.ntmps4
    go_wp2_with fail
    go_ret
    exact ⟨rfl, Below.refl _ _⟩
  have hlen2 : len ≤ 1048576 := by omega
  clear hlen
  go_enter Try.func4, Try.ntmps4
  go_wp2_with fail
  refine (c_DrawTileCount s len cap _ h).mono ?_
  rintro e w0 ⟨n, v, z, n1, n2, hl, rfl, hO, hT0⟩
  obtain ⟨so, co, rfl, hC, _⟩ := hO.spread
  clear hO h
  go_wp2_with fail
  refine (hK n so z.length co z (by omega) _ hC).mono ?_
  rintro e w1 ⟨rfl, hB1⟩
  go_wp2_with fail
  refine (c_specTileCount n so z.length co z (by omega) _ (hC.keep hB1)).mono ?_
  rintro e w2 ⟨rfl, hB2⟩
  have hB12 := bt2 hB1 hB2
  have hT2 := hT0.trans (hB12.mono hT0.size)
  have hC := hC.keep hB12
  clear hB1 hB2 hB12 hT0
  cases ht : tilB n z
  · go_wp2_with fail
    go_ret
    exact ⟨rfl, hT2⟩
  · have hTl : Til n z := tilB_t.1 ht
    have e2 : tmdB n z 5 = true := by simp [tmdB, ht, l6B]
    have e1 : tmdR n z 5 = tmvR n z 5 := by simp [tmdR, e2]
    have hcm := c_implTileMoved n 5 so z.length co z (by omega) w2 hC
    rw [e1, e2] at hcm
    have hyl : (tmvR n z 5).length ≤ 1048576 := by have := tmd_len n z 5; rw [e1] at this; omega
    have hck := fun (w3 : World) (s3 : Option Addr) (c3 : Nat) hI => hK n s3 (tmvR n z 5).length c3 (tmvR n z 5) hyl w3 hI
    rw [cnt_mov ht, tilB_t.2 (tmvR_til hTl 5)] at hck
    have hcf := fun (w3 : World) hI => hF n so z.length co z (by omega) w3 hI
    rw [fndQ_cnt ht] at hcf
    clear ht hTl e1 e2 hyl
    generalize tmvR n z 5 = y at *
    generalize fndL n z = fl at *
    generalize cntR n z = kk at *
    go_wp2_with fail
    refine hcm.mono ?_
    rintro e w3 ⟨v3, rfl, hO3, hB3⟩
    obtain ⟨s3, c3, rfl, hI3, _⟩ := hO3.spread
    clear hO3
    go_wp2_with fail
    refine (hck w3 s3 c3 hI3).mono ?_
    rintro e w4 ⟨rfl, hB4⟩
    have hB34 := bt2 hB3 hB4
    go_wp2_with fail
    refine (hcf w4 (hC.keep hB34)).mono ?_
    rintro e w5 ⟨v5, rfl, hO5, hB5⟩
    have hT5 := hT2.trans ((bt2 hB34 hB5).mono hT2.size)
    go_wp2_with fail
    go_ret
    exact ⟨by first | rfl | simp, hT5⟩
end Go.Proofs.Ytiplnfggiffngaa
