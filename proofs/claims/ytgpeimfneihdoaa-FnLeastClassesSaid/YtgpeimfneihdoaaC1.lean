/- Contracts of the small functions of chapter 1 and of their models: what each call returns, and that it changes nothing that was there. -/
import Derived.Test.YtgpeimfneihdoaaChecked
import Derived.Test.YtgpeimfneihdoaaMath
import Derived.WalkKit
import Derived.Below
import Derived.Deep.QuietTactic
import Derived.Deep.RegionHeld3
import Derived.BigQuiet
import Derived.Lib.Hide
import Derived.IntWalk
import Derived.Outline
import Derived.WalkLawsBesides
import Derived.WalkSpells
namespace Go.Proofs.Ytgpeimfneihdoaa
open Go.RowKit
/-! impl: leaves -/
theorem c_inModuli (m : Int) (w : World) : Calls Try.prog 9 #[.int .i64 m] w fun e w' => e = .returned (.bool (modB m)) ∧ w = w' := by
  go_enter Try.func9, Try.ntmps9
  go_wp2
  all_goals go_ret
  all_goals first | exact ⟨bt (by omega), rfl⟩ | exact ⟨bf (by omega), rfl⟩ | exact ⟨bd (by omega), rfl⟩
/-! spec: leaves -/
theorem c_l6In (n a b : Int) (w : World) : Calls Try.prog 10 #[.int .i64 n, .int .i64 a, .int .i64 b] w fun e w' => e = .returned (.bool (l6B n a b)) ∧ w = w' := by
  go_enter Try.func10, Try.ntmps10
  go_wp2
  all_goals go_ret
  all_goals first | exact ⟨bt (by omega), rfl⟩ | exact ⟨bf (by omega), rfl⟩ | exact ⟨bd (by omega), rfl⟩
/-! classes by value: the worlds are written out -/
end Go.Proofs.Ytgpeimfneihdoaa
