/- Contracts of the small functions of chapter 1 and of their models: what each call returns, and that it changes nothing that was there. -/
import Derived.Test.YtiplnfggiffngaaChecked
import Derived.Test.YtiplnfggiffngaaMath
import Derived.WalkKit
import Derived.Below
import Derived.Deep.QuietTactic
import Derived.Deep.RegionHeld3
import Derived.BigQuiet
import Derived.Lib.Hide
import Derived.IntWalk
import Derived.Outline
import Derived.WalkLawsBesides
import Derived.WalkSpells
namespace Go.Proofs.Ytiplnfggiffngaa
open Go.RowKit
/-! impl: leaves -/
theorem c_restOf (x m : Int) (hm : 1 ≤ m) (hm2 : m ≤ 1000) (w : World) : Calls Try.prog 24 #[.int .i64 x, .int .i64 m] w fun e w' => e = .returned (.int .i64 (x % m)) ∧ w = w' := by
  have hb := tmod_bd x m hm
  by_cases h : x.tmod m < 0
  · have he := Lib.hid (tmod_ng x m hm h)
    go_enter Try.func24, Try.ntmps24
    go_wp2
    go_ret
    exact ⟨ri he.out, rfl⟩
  · have he := Lib.hid (tmod_nn x m hm (by omega))
    go_enter Try.func24, Try.ntmps24
    go_wp2
    go_ret
    exact ⟨ri he.out, rfl⟩
/-! spec: leaves -/
theorem c_l6In (n a b : Int) (w : World) : Calls Try.prog 32 #[.int .i64 n, .int .i64 a, .int .i64 b] w fun e w' => e = .returned (.bool (l6B n a b)) ∧ w = w' := by
  go_enter Try.func32, Try.ntmps32
  go_wp2
  all_goals go_ret
  all_goals first | exact ⟨bt (by omega), rfl⟩ | exact ⟨bf (by omega), rfl⟩ | exact ⟨bd (by omega), rfl⟩
theorem c_l1Rest (x m : Int) (hm : 1 ≤ m) (hm2 : m ≤ 1000) (w : World) : Calls Try.prog 44 #[.int .i64 x, .int .i64 m] w fun e w' => e = .returned (.int .i64 (x % m)) ∧ w = w' := by
  have hb := tmod_bd x m hm
  have he := Lib.hid (tmod_add_emod x m hm)
  go_enter Try.func44, Try.ntmps44
  go_wp2
  go_ret
  exact ⟨ri he.out, rfl⟩
/-! classes by value: the worlds are written out -/
end Go.Proofs.Ytiplnfggiffngaa
