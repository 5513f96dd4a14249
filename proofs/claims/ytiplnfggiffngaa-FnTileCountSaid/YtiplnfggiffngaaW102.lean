/- The walk of the promise law FnTileMoved. -/
import Derived.Test.YtiplnfggiffngaaDu
import Derived.Test.YtiplnfggiffngaaMathTb
import Derived.Test.YtiplnfggiffngaaTd
import Derived.Test.YtiplnfggiffngaaMz0
namespace Go.Proofs.Ytiplnfggiffngaa
open Go.RowKit
theorem tmd_len (n : Int) (z : List Int) (t : Int) : (tmdR n z t).length ≤ 24 := by
  unfold tmdR
  cases h : tmdB n z t
  · simp
  · have hT := tilB_t.1 (show tilB n z = true by simp only [tmdB, Bool.and_eq_true] at h; exact h.1)
    have h1 := setL_le n.toNat fun y => decide (y ∈ tmvL n z t)
    have h2 := hT.1
    have h3 := hT.2.1
    simp only [cond_true, tmvR, plc]
    omega
theorem movR_til_any {n : Int} {z : List Int} (h : Til n z) (t : Int) : Til n (tmvR n z t) := tmvR_til h t
end Go.Proofs.Ytiplnfggiffngaa
