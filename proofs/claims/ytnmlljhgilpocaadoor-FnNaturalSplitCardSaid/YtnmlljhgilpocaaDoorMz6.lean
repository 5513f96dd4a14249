/- The model's ClassMeet at every two classes. -/
import Derived.Test.YtnmlljhgilpocaaDoorMg6
import Derived.Test.YtnmlljhgilpocaaDoorMgK
import Derived.Test.YtnmlljhgilpocaaDoorMgA
import Derived.LoopTactic
import Derived.BigQuiet
namespace Go.Proofs.YtnmlljhgilpocaaDoor
open Go.RowKit
def mtB (r m s n : Int) : Bool := inB r m && inB s n && metB m s n r
theorem mtB_0 {r m s n : Int} (h : inB r m = false) : mtB r m s n = false := by simp [mtB, h]
theorem mtB_1 {r m s n : Int} (h : inB s n = false) : mtB r m s n = false := by simp [mtB, h]
theorem mtB_2 {r m s n : Int} (h : inB r m = true) (k : inB s n = true) : mtB r m s n = metB m s n r := by simp [mtB, h, k]
end Go.Proofs.YtnmlljhgilpocaaDoor
namespace Go.Proofs.YtnmlljhgilpocaaDoor
open Go.RowKit
end Go.Proofs.YtnmlljhgilpocaaDoor
namespace Go.Proofs.YtnmlljhgilpocaaDoor
open Go.RowKit
theorem c_wholeClass (w : World) : Calls Tryd.prog 20 #[] w fun e w' => e = .returned (.agg #[.int .i64 0, .int .i64 1]) ∧ Below w.heap.size w w' := by
  go_enter Tryd.func20, Tryd.ntmps20
  go_wp2_with (go_at_call 29; refine (c_classAt _ _ (by omega) (by omega) _).mono ?_; rintro e w1 ⟨rfl, rfl⟩)
  refine bodyPost_ret (v := .agg #[.int .i64 0, .int .i64 1]) (by simp [results, Tryd.results20, go_sem]) rfl ⟨rfl, ?_⟩
  repeat (first | exact Below.refl _ _ | assumption | refine Below.drew ?_ | refine bel_drewN ?_ _ | refine ba ?_ _ | refine bt2 ?_ (by assumption) | refine Below.setCell ?_ (by simp <;> omega) _)
end Go.Proofs.YtnmlljhgilpocaaDoor
