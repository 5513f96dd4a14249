/- Contracts of the small functions of chapter 1 and of their models: what each call returns, and that it changes nothing that was there. -/
import Derived.Test.YtcokcnpnemhdfaaDoorChecked
import Derived.Test.YtcokcnpnemhdfaaDoorMath
import Derived.WalkKit
import Derived.Below
import Derived.Deep.QuietTactic
import Derived.Deep.RegionHeld3
import Derived.BigQuiet
import Derived.Lib.Hide
import Derived.IntWalk
import Derived.Outline
import Derived.WalkLawsBesides
import Derived.WalkSpells
namespace Go.Proofs.YtcokcnpnemhdfaaDoor
open Go.RowKit
/-! impl: leaves -/
theorem c_inModuli (m : Int) (w : World) : Calls Tryd.prog 47 #[.int .i64 m] w fun e w' => e = .returned (.bool (modB m)) ∧ w = w' := by
  go_enter Tryd.func47, Tryd.ntmps47
  go_wp2
  all_goals go_ret
  all_goals first | exact ⟨bt (by omega), rfl⟩ | exact ⟨bf (by omega), rfl⟩ | exact ⟨bd (by omega), rfl⟩
/-! spec: leaves -/
theorem c_l6In (n a b : Int) (w : World) : Calls Tryd.prog 23 #[.int .i64 n, .int .i64 a, .int .i64 b] w fun e w' => e = .returned (.bool (l6B n a b)) ∧ w = w' := by
  go_enter Tryd.func23, Tryd.ntmps23
  go_wp2
  all_goals go_ret
  all_goals first | exact ⟨bt (by omega), rfl⟩ | exact ⟨bf (by omega), rfl⟩ | exact ⟨bd (by omega), rfl⟩
/-! classes by value: the worlds are written out -/
theorem c_valid (r m : Int) (w : World) : Calls Tryd.prog 45 #[.agg #[.int .i64 r, .int .i64 m]] w fun e w' => e = .returned (.bool (inB r m)) ∧ w.alloc (Obj.cells #[Value.int IntKind.i64 r, Value.int IntKind.i64 m] 35) = w' := by
  go_enter Tryd.func45, Tryd.ntmps45
  go_wp2_with (go_at_call 47; refine (c_inModuli _ _).mono ?_; rintro e w1 ⟨rfl, rfl⟩)
  all_goals go_ret
  all_goals simp only [modB_iff] at *
  all_goals first | exact ⟨bt (by omega), trivial⟩ | exact ⟨bf (by omega), trivial⟩ | exact ⟨bd (by omega), trivial⟩
theorem c_specClassIn (r m : Int) (w : World) : Calls Tryd.prog 22 #[.agg #[.int .i64 r, .int .i64 m]] w fun e w' => e = .returned (.bool (inB r m)) ∧ w.alloc (Obj.cells #[Value.int IntKind.i64 r, Value.int IntKind.i64 m] 35) = w' := by
  by_cases h : 1 ≤ m ∧ m ≤ 1000
  · obtain ⟨h1, h2⟩ := h
    have hl := l6B_t ⟨h1, h2⟩
    go_enter Tryd.func22, Tryd.ntmps22
    go_wp2_with (go_at_call 23; refine (c_l6In _ _ _ _).mono ?_; rintro e w1 ⟨rfl, rfl⟩)
    go_ret
    exact ⟨bd (by omega), rfl⟩
  · have hl := l6B_f h
    go_enter Tryd.func22, Tryd.ntmps22
    go_wp2_with (go_at_call 23; refine (c_l6In _ _ _ _).mono ?_; rintro e w1 ⟨rfl, rfl⟩)
    go_ret
    exact ⟨bf (by omega), rfl⟩
end Go.Proofs.YtcokcnpnemhdfaaDoor
