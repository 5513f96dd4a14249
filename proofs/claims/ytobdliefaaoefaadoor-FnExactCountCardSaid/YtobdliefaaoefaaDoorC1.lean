/- Contracts of the small functions of chapter 1 and of their models: what each call returns, and that it changes nothing that was there. -/
import Derived.Test.YtobdliefaaoefaaDoorChecked
import Derived.Test.YtobdliefaaoefaaDoorMath
import Derived.WalkKit
import Derived.Below
import Derived.Deep.QuietTactic
import Derived.Deep.RegionHeld3
import Derived.BigQuiet
import Derived.Lib.Hide
import Derived.IntWalk
import Derived.Outline
import Derived.WalkLawsBesides
import Derived.WalkSpells
namespace Go.Proofs.YtobdliefaaoefaaDoor
open Go.RowKit
/-! impl: leaves -/
theorem c_inModuli (m : Int) (w : World) : Calls Tryd.prog 52 #[.int .i64 m] w fun e w' => e = .returned (.bool (modB m)) ∧ w = w' := by
  go_enter Tryd.func52, Tryd.ntmps52
  go_wp2
  all_goals go_ret
  all_goals first | exact ⟨bt (by omega), rfl⟩ | exact ⟨bf (by omega), rfl⟩ | exact ⟨bd (by omega), rfl⟩
theorem c_restOf (x m : Int) (hm : 1 ≤ m) (hm2 : m ≤ 1000) (w : World) : Calls Tryd.prog 24 #[.int .i64 x, .int .i64 m] w fun e w' => e = .returned (.int .i64 (x % m)) ∧ w = w' := by
  have hb := tmod_bd x m hm
  by_cases h : x.tmod m < 0
  · have he := Lib.hid (tmod_ng x m hm h)
    go_enter Tryd.func24, Tryd.ntmps24
    go_wp2
    go_ret
    exact ⟨ri he.out, rfl⟩
  · have he := Lib.hid (tmod_nn x m hm (by omega))
    go_enter Tryd.func24, Tryd.ntmps24
    go_wp2
    go_ret
    exact ⟨ri he.out, rfl⟩
theorem c_classAt (x m : Int) (hm : 1 ≤ m) (hm2 : m ≤ 1000) (w : World) : Calls Tryd.prog 14 #[.int .i64 x, .int .i64 m] w fun e w' => e = .returned (.agg #[.int .i64 (x % m), .int .i64 m]) ∧ w.alloc (.cells #[.int .i64 (x % m), .int .i64 m] 31) = w' := by
  go_enter Tryd.func14, Tryd.ntmps14
  go_wp2_with (go_at_call 24; refine (c_restOf _ _ hm hm2 _).mono ?_; rintro e w' ⟨rfl, rfl⟩)
  refine bodyPost_ret (v := .agg #[.int .i64 (x % m), .int .i64 m]) (by simp [results, Tryd.results14, go_sem]) rfl ⟨rfl, ?_⟩
  simp
/-! spec: leaves -/
theorem c_l6In (n a b : Int) (w : World) : Calls Tryd.prog 12 #[.int .i64 n, .int .i64 a, .int .i64 b] w fun e w' => e = .returned (.bool (l6B n a b)) ∧ w = w' := by
  go_enter Tryd.func12, Tryd.ntmps12
  go_wp2
  all_goals go_ret
  all_goals first | exact ⟨bt (by omega), rfl⟩ | exact ⟨bf (by omega), rfl⟩ | exact ⟨bd (by omega), rfl⟩
/-! classes by value: the worlds are written out -/
theorem c_valid (r m : Int) (w : World) : Calls Tryd.prog 51 #[.agg #[.int .i64 r, .int .i64 m]] w fun e w' => e = .returned (.bool (inB r m)) ∧ w.alloc (Obj.cells #[Value.int IntKind.i64 r, Value.int IntKind.i64 m] 31) = w' := by
  go_enter Tryd.func51, Tryd.ntmps51
  go_wp2_with (go_at_call 52; refine (c_inModuli _ _).mono ?_; rintro e w1 ⟨rfl, rfl⟩)
  all_goals go_ret
  all_goals simp only [modB_iff] at *
  all_goals first | exact ⟨bt (by omega), trivial⟩ | exact ⟨bf (by omega), trivial⟩ | exact ⟨bd (by omega), trivial⟩
theorem c_specClassIn (r m : Int) (w : World) : Calls Tryd.prog 44 #[.agg #[.int .i64 r, .int .i64 m]] w fun e w' => e = .returned (.bool (inB r m)) ∧ w.alloc (Obj.cells #[Value.int IntKind.i64 r, Value.int IntKind.i64 m] 31) = w' := by
  by_cases h : 1 ≤ m ∧ m ≤ 1000
  · obtain ⟨h1, h2⟩ := h
    have hl := l6B_t ⟨h1, h2⟩
    go_enter Tryd.func44, Tryd.ntmps44
    go_wp2_with (go_at_call 12; refine (c_l6In _ _ _ _).mono ?_; rintro e w1 ⟨rfl, rfl⟩)
    go_ret
    exact ⟨bd (by omega), rfl⟩
  · have hl := l6B_f h
    go_enter Tryd.func44, Tryd.ntmps44
    go_wp2_with (go_at_call 12; refine (c_l6In _ _ _ _).mono ?_; rintro e w1 ⟨rfl, rfl⟩)
    go_ret
    exact ⟨bf (by omega), rfl⟩
theorem c_first (r m x : Int) (hm : 1 ≤ m) (hm2 : m ≤ 1000) (hr : 0 ≤ r) (hr2 : r < m) (hx : -1000000 ≤ x) (hx2 : x ≤ 1000000) (w : World) : Calls Tryd.prog 70 #[.agg #[.int .i64 r, .int .i64 m], .int .i64 x] w fun e w' => e = .returned (.int .i64 (firI r m x)) ∧ w.alloc (Obj.cells #[Value.int IntKind.i64 r, Value.int IntKind.i64 m] 31) = w' := by
  have hb := emod_bd (r - x) m hm
  go_enter Tryd.func70, Tryd.ntmps70
  go_wp2_with (go_at_call 24; refine (c_restOf _ _ hm hm2 _).mono ?_; rintro e w1 ⟨rfl, rfl⟩)
  go_ret
  exact ⟨rfl, rfl⟩
end Go.Proofs.YtobdliefaaoefaaDoor
