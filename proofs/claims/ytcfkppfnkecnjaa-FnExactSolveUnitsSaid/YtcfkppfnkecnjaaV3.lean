/- The walk of the law FnExactSolveUnits. -/
import Derived.Test.YtcfkppfnkecnjaaY3
namespace Go.Proofs.Ytcfkppfnkecnjaa
open Go.RowKit
theorem w_FnExactSolveUnits (m : Int) (w : World) : Calls Try.prog 6 #[.int .i64 m] w fun e w' => e = .returned (.bool true) ∧ Below w.heap.size w w' := by
  go_enter Try.func6, Try.ntmps6
  go_wp2_with (first | (go_at_call 19; refine (c_specSolveUnits _ _).mono ?_; rintro e w1 ⟨rfl, rfl⟩) | (go_at_call 20; refine (c_implSolveUnits _ _).mono ?_; rintro e w1 ⟨rfl, hb⟩))
  go_ret
  exact ⟨rfl, by repeat (first | exact Below.refl _ _ | assumption | refine Below.drew ?_ | refine bel_drewN ?_ _ | refine ba ?_ _ | refine bt2 ?_ (by assumption) | refine Below.setCell ?_ (by simp <;> omega) _)⟩
end Go.Proofs.Ytcfkppfnkecnjaa
