/- Contracts of the small functions of chapter 1 and of their models: what each call returns, and that it changes nothing that was there. -/
import Derived.Test.YtlecnpmflihcpaaChecked
import Derived.Test.YtlecnpmflihcpaaMath
import Derived.WalkKit
import Derived.Below
import Derived.Deep.QuietTactic
import Derived.Deep.RegionHeld3
import Derived.BigQuiet
import Derived.Lib.Hide
import Derived.IntWalk
import Derived.Outline
import Derived.WalkLawsBesides
import Derived.WalkSpells
namespace Go.Proofs.Ytlecnpmflihcpaa
open Go.RowKit
/-! impl: leaves -/
theorem c_restOf (x m : Int) (hm : 1 ≤ m) (hm2 : m ≤ 1000) (w : World) : Calls Try.prog 38 #[.int .i64 x, .int .i64 m] w fun e w' => e = .returned (.int .i64 (x % m)) ∧ w = w' := by
  have hb := tmod_bd x m hm
  by_cases h : x.tmod m < 0
  · have he := Lib.hid (tmod_ng x m hm h)
    go_enter Try.func38, Try.ntmps38
    go_wp2
    go_ret
    exact ⟨ri he.out, rfl⟩
  · have he := Lib.hid (tmod_nn x m hm (by omega))
    go_enter Try.func38, Try.ntmps38
    go_wp2
    go_ret
    exact ⟨ri he.out, rfl⟩
theorem c_classAt (x m : Int) (hm : 1 ≤ m) (hm2 : m ≤ 1000) (w : World) : Calls Try.prog 50 #[.int .i64 x, .int .i64 m] w fun e w' => e = .returned (.agg #[.int .i64 (x % m), .int .i64 m]) ∧ w.alloc (.cells #[.int .i64 (x % m), .int .i64 m] 60) = w' := by
  go_enter Try.func50, Try.ntmps50
  go_wp2_with (go_at_call 38; refine (c_restOf _ _ hm hm2 _).mono ?_; rintro e w' ⟨rfl, rfl⟩)
  refine bodyPost_ret (v := .agg #[.int .i64 (x % m), .int .i64 m]) (by simp [results, Try.results50, go_sem]) rfl ⟨rfl, ?_⟩
  simp
/-! spec: leaves -/
theorem c_l6In (n a b : Int) (w : World) : Calls Try.prog 34 #[.int .i64 n, .int .i64 a, .int .i64 b] w fun e w' => e = .returned (.bool (l6B n a b)) ∧ w = w' := by
  go_enter Try.func34, Try.ntmps34
  go_wp2
  all_goals go_ret
  all_goals first | exact ⟨bt (by omega), rfl⟩ | exact ⟨bf (by omega), rfl⟩ | exact ⟨bd (by omega), rfl⟩
theorem c_l1Rest (x m : Int) (hm : 1 ≤ m) (hm2 : m ≤ 1000) (w : World) : Calls Try.prog 53 #[.int .i64 x, .int .i64 m] w fun e w' => e = .returned (.int .i64 (x % m)) ∧ w = w' := by
  have hb := tmod_bd x m hm
  have he := Lib.hid (tmod_add_emod x m hm)
  go_enter Try.func53, Try.ntmps53
  go_wp2
  go_ret
  exact ⟨ri he.out, rfl⟩
/-! classes by value: the worlds are written out -/
theorem c_eqClass (r m : Int) (w : World) : Calls Try.prog 51 #[.agg #[.int .i64 r, .int .i64 m], .agg #[.int .i64 r, .int .i64 m]] w fun e w' => e = .returned (.bool true) ∧ (w.alloc (Obj.cells #[Value.int IntKind.i64 r, Value.int IntKind.i64 m] 60)).alloc (Obj.cells #[Value.int IntKind.i64 r, Value.int IntKind.i64 m] 60) = w' := by
  go_enter Try.func51, Try.ntmps51
  go_wp2
  go_ret
  exact ⟨rfl, rfl⟩
end Go.Proofs.Ytlecnpmflihcpaa
