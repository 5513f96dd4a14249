/- The walk of the law FnExactExactCount. -/
import Derived.Test.YtkibpkjnclgigaaDoorGc
import Derived.Test.YtkibpkjnclgigaaDoorGd
namespace Go.Proofs.YtkibpkjnclgigaaDoor
open Go.RowKit
theorem w_FnExactExactCount (k : Int) (w : World) (hgE : LaidE w) : Calls Tryd.prog 3 #[.int .i64 k] w fun e w' => e = .returned (.bool true) ∧ Below w.heap.size w w' := by
  go_enter Tryd.func3, Tryd.ntmps3
  go_wp2_with (first
    | (go_at_call 4; refine (c_specExactCount k _).mono ?_; rintro e w1 ⟨rfl, hB1⟩)
    | (go_at_call 5; refine (c_implExactCount k _ (hgE.keep hB1)).mono ?_; rintro e w2 ⟨rfl, hB2⟩))
  go_ret
  exact ⟨rfl, bt2 hB1 hB2⟩
end Go.Proofs.YtkibpkjnclgigaaDoor
