/- Contracts of what the laws of chapter 1 draw. -/
import Derived.Test.YtonecelkkeakiaaGreatDoorD3
import Derived.Deep.RegionWith
namespace Go.Proofs.YtonecelkkeakiaaGreatDoor
open Go.RowKit
def DrawnCI (lo hi : Int) (w : World) (e : Ending) (w' : World) : Prop :=
  ∃ r m x : Int, 1 ≤ m ∧ m ≤ 24 ∧ 0 ≤ r ∧ r ≤ m ∧ lo ≤ x ∧ x ≤ hi ∧ e = .returned (.tuple #[.agg #[.int .i64 r, .int .i64 m], .int .i64 x]) ∧ Below w.heap.size w w'
/-! what the laws draw -/
def DrawnII (w : World) (e : Ending) (w' : World) : Prop :=
  ∃ x m : Int, -100 ≤ x ∧ x ≤ 2000099 ∧ 0 ≤ m ∧ m ≤ 30 ∧ e = .returned (.tuple #[.int .i64 x, .int .i64 m]) ∧ Below w.heap.size w w'
end Go.Proofs.YtonecelkkeakiaaGreatDoor
