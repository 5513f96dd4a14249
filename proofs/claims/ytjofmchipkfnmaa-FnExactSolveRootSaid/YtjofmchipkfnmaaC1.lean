/- Contracts of the small functions of chapter 1 and of their models: what each call returns, and that it changes nothing that was there. -/
import Derived.Test.YtjofmchipkfnmaaChecked
import Derived.Test.YtjofmchipkfnmaaMath
import Derived.WalkKit
import Derived.Below
import Derived.Deep.QuietTactic
import Derived.Deep.RegionHeld3
import Derived.BigQuiet
import Derived.Lib.Hide
import Derived.IntWalk
import Derived.Outline
import Derived.WalkLawsBesides
import Derived.WalkSpells
namespace Go.Proofs.Ytjofmchipkfnmaa
open Go.RowKit
/-! impl: leaves -/
theorem c_inModuli (m : Int) (w : World) : Calls Try.prog 23 #[.int .i64 m] w fun e w' => e = .returned (.bool (modB m)) ∧ w = w' := by
  go_enter Try.func23, Try.ntmps23
  go_wp2
  all_goals go_ret
  all_goals first | exact ⟨bt (by omega), rfl⟩ | exact ⟨bf (by omega), rfl⟩ | exact ⟨bd (by omega), rfl⟩
theorem c_inNumbers (m : Int) (w : World) : Calls Try.prog 22 #[.int .i64 m] w fun e w' => e = .returned (.bool (numB m)) ∧ w = w' := by
  go_enter Try.func22, Try.ntmps22
  go_wp2
  all_goals go_ret
  all_goals first | exact ⟨bt (by omega), rfl⟩ | exact ⟨bf (by omega), rfl⟩ | exact ⟨bd (by omega), rfl⟩
theorem c_restOf (x m : Int) (hm : 1 ≤ m) (hm2 : m ≤ 1000) (w : World) : Calls Try.prog 53 #[.int .i64 x, .int .i64 m] w fun e w' => e = .returned (.int .i64 (x % m)) ∧ w = w' := by
  have hb := tmod_bd x m hm
  by_cases h : x.tmod m < 0
  · have he := Lib.hid (tmod_ng x m hm h)
    go_enter Try.func53, Try.ntmps53
    go_wp2
    go_ret
    exact ⟨ri he.out, rfl⟩
  · have he := Lib.hid (tmod_nn x m hm (by omega))
    go_enter Try.func53, Try.ntmps53
    go_wp2
    go_ret
    exact ⟨ri he.out, rfl⟩
theorem c_classAt (x m : Int) (hm : 1 ≤ m) (hm2 : m ≤ 1000) (w : World) : Calls Try.prog 31 #[.int .i64 x, .int .i64 m] w fun e w' => e = .returned (.agg #[.int .i64 (x % m), .int .i64 m]) ∧ w.alloc (.cells #[.int .i64 (x % m), .int .i64 m] 38) = w' := by
  go_enter Try.func31, Try.ntmps31
  go_wp2_with (go_at_call 53; refine (c_restOf _ _ hm hm2 _).mono ?_; rintro e w' ⟨rfl, rfl⟩)
  refine bodyPost_ret (v := .agg #[.int .i64 (x % m), .int .i64 m]) (by simp [results, Try.results31, go_sem]) rfl ⟨rfl, ?_⟩
  simp
/-! spec: leaves -/
theorem c_l6In (n a b : Int) (w : World) : Calls Try.prog 13 #[.int .i64 n, .int .i64 a, .int .i64 b] w fun e w' => e = .returned (.bool (l6B n a b)) ∧ w = w' := by
  go_enter Try.func13, Try.ntmps13
  go_wp2
  all_goals go_ret
  all_goals first | exact ⟨bt (by omega), rfl⟩ | exact ⟨bf (by omega), rfl⟩ | exact ⟨bd (by omega), rfl⟩
theorem c_l1Number (m : Int) (w : World) : Calls Try.prog 20 #[.int .i64 m] w fun e w' => e = .returned (.bool (numB m)) ∧ w = w' := by
  go_enter Try.func20, Try.ntmps20
  go_wp2_with (go_at_call 13; refine (c_l6In _ _ _ _).mono ?_; rintro e w' ⟨rfl, rfl⟩)
  go_ret
  exact ⟨rfl, rfl⟩
theorem c_l1Rest (x m : Int) (hm : 1 ≤ m) (hm2 : m ≤ 1000) (w : World) : Calls Try.prog 21 #[.int .i64 x, .int .i64 m] w fun e w' => e = .returned (.int .i64 (x % m)) ∧ w = w' := by
  have hb := tmod_bd x m hm
  have he := Lib.hid (tmod_add_emod x m hm)
  go_enter Try.func21, Try.ntmps21
  go_wp2
  go_ret
  exact ⟨ri he.out, rfl⟩
/-! classes by value: the worlds are written out -/
theorem c_first (r m x : Int) (hm : 1 ≤ m) (hm2 : m ≤ 1000) (hr : 0 ≤ r) (hr2 : r < m) (hx : -1000000 ≤ x) (hx2 : x ≤ 1000000) (w : World) : Calls Try.prog 33 #[.agg #[.int .i64 r, .int .i64 m], .int .i64 x] w fun e w' => e = .returned (.int .i64 (firI r m x)) ∧ w.alloc (Obj.cells #[Value.int IntKind.i64 r, Value.int IntKind.i64 m] 38) = w' := by
  have hb := emod_bd (r - x) m hm
  go_enter Try.func33, Try.ntmps33
  go_wp2_with (go_at_call 53; refine (c_restOf _ _ hm hm2 _).mono ?_; rintro e w1 ⟨rfl, rfl⟩)
  go_ret
  exact ⟨rfl, rfl⟩
end Go.Proofs.Ytjofmchipkfnmaa
