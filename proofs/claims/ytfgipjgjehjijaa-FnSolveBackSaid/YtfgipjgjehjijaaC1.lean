/- Contracts of the small functions of chapter 1 and of their models: what each call returns, and that it changes nothing that was there. -/
import Derived.Test.YtfgipjgjehjijaaChecked
import Derived.Test.YtfgipjgjehjijaaMath
import Derived.WalkKit
import Derived.Below
import Derived.Deep.QuietTactic
import Derived.Deep.RegionHeld3
import Derived.BigQuiet
import Derived.Lib.Hide
import Derived.IntWalk
import Derived.Outline
import Derived.WalkLawsBesides
import Derived.WalkSpells
namespace Go.Proofs.Ytfgipjgjehjijaa
open Go.RowKit
/-! impl: leaves -/
theorem c_inModuli (m : Int) (w : World) : Calls Try.prog 24 #[.int .i64 m] w fun e w' => e = .returned (.bool (modB m)) ∧ w = w' := by
  go_enter Try.func24, Try.ntmps24
  go_wp2
  all_goals go_ret
  all_goals first | exact ⟨bt (by omega), rfl⟩ | exact ⟨bf (by omega), rfl⟩ | exact ⟨bd (by omega), rfl⟩
theorem c_inNumbers (m : Int) (w : World) : Calls Try.prog 36 #[.int .i64 m] w fun e w' => e = .returned (.bool (numB m)) ∧ w = w' := by
  go_enter Try.func36, Try.ntmps36
  go_wp2
  all_goals go_ret
  all_goals first | exact ⟨bt (by omega), rfl⟩ | exact ⟨bf (by omega), rfl⟩ | exact ⟨bd (by omega), rfl⟩
theorem c_restOf (x m : Int) (hm : 1 ≤ m) (hm2 : m ≤ 1000) (w : World) : Calls Try.prog 37 #[.int .i64 x, .int .i64 m] w fun e w' => e = .returned (.int .i64 (x % m)) ∧ w = w' := by
  have hb := tmod_bd x m hm
  by_cases h : x.tmod m < 0
  · have he := Lib.hid (tmod_ng x m hm h)
    go_enter Try.func37, Try.ntmps37
    go_wp2
    go_ret
    exact ⟨ri he.out, rfl⟩
  · have he := Lib.hid (tmod_nn x m hm (by omega))
    go_enter Try.func37, Try.ntmps37
    go_wp2
    go_ret
    exact ⟨ri he.out, rfl⟩
theorem c_classAt (x m : Int) (hm : 1 ≤ m) (hm2 : m ≤ 1000) (w : World) : Calls Try.prog 47 #[.int .i64 x, .int .i64 m] w fun e w' => e = .returned (.agg #[.int .i64 (x % m), .int .i64 m]) ∧ w.alloc (.cells #[.int .i64 (x % m), .int .i64 m] 32) = w' := by
  go_enter Try.func47, Try.ntmps47
  go_wp2_with (go_at_call 37; refine (c_restOf _ _ hm hm2 _).mono ?_; rintro e w' ⟨rfl, rfl⟩)
  refine bodyPost_ret (v := .agg #[.int .i64 (x % m), .int .i64 m]) (by simp [results, Try.results47, go_sem]) rfl ⟨rfl, ?_⟩
  simp
/-! spec: leaves -/
theorem c_l6In (n a b : Int) (w : World) : Calls Try.prog 32 #[.int .i64 n, .int .i64 a, .int .i64 b] w fun e w' => e = .returned (.bool (l6B n a b)) ∧ w = w' := by
  go_enter Try.func32, Try.ntmps32
  go_wp2
  all_goals go_ret
  all_goals first | exact ⟨bt (by omega), rfl⟩ | exact ⟨bf (by omega), rfl⟩ | exact ⟨bd (by omega), rfl⟩
theorem c_l1Number (m : Int) (w : World) : Calls Try.prog 45 #[.int .i64 m] w fun e w' => e = .returned (.bool (numB m)) ∧ w = w' := by
  go_enter Try.func45, Try.ntmps45
  go_wp2_with (go_at_call 32; refine (c_l6In _ _ _ _).mono ?_; rintro e w' ⟨rfl, rfl⟩)
  go_ret
  exact ⟨rfl, rfl⟩
theorem c_l1Rest (x m : Int) (hm : 1 ≤ m) (hm2 : m ≤ 1000) (w : World) : Calls Try.prog 46 #[.int .i64 x, .int .i64 m] w fun e w' => e = .returned (.int .i64 (x % m)) ∧ w = w' := by
  have hb := tmod_bd x m hm
  have he := Lib.hid (tmod_add_emod x m hm)
  go_enter Try.func46, Try.ntmps46
  go_wp2
  go_ret
  exact ⟨ri he.out, rfl⟩
theorem c_l1None (w : World) : Calls Try.prog 38 #[] w fun e w' => e = .returned (.tuple #[.agg #[.int .i64 0, .int .i64 0], .bool false]) ∧ w.alloc (Obj.cells #[Value.int IntKind.i64 0, Value.int IntKind.i64 0] 32) = w' := by
  go_enter Try.func38, Try.ntmps38
  go_wp2
  exact bodyPost_ret (v := .tuple #[.agg #[.int .i64 0, .int .i64 0], .bool false]) (by simp [results, Try.results38, go_sem]) rfl ⟨rfl, rfl⟩
/-! classes by value: the worlds are written out -/
theorem c_first (r m x : Int) (hm : 1 ≤ m) (hm2 : m ≤ 1000) (hr : 0 ≤ r) (hr2 : r < m) (hx : -1000000 ≤ x) (hx2 : x ≤ 1000000) (w : World) : Calls Try.prog 49 #[.agg #[.int .i64 r, .int .i64 m], .int .i64 x] w fun e w' => e = .returned (.int .i64 (firI r m x)) ∧ w.alloc (Obj.cells #[Value.int IntKind.i64 r, Value.int IntKind.i64 m] 32) = w' := by
  have hb := emod_bd (r - x) m hm
  go_enter Try.func49, Try.ntmps49
  go_wp2_with (go_at_call 37; refine (c_restOf _ _ hm hm2 _).mono ?_; rintro e w1 ⟨rfl, rfl⟩)
  go_ret
  exact ⟨rfl, rfl⟩
end Go.Proofs.Ytfgipjgjehjijaa
