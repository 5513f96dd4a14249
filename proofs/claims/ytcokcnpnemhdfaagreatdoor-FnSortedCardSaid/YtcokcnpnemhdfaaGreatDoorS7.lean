/- Contract of SystemTimes in the program: the walk. -/
import Derived.Test.YtcokcnpnemhdfaaGreatDoorS6
namespace Go.Proofs.YtcokcnpnemhdfaaGreatDoor
open Go.RowKit Go.Shelf
attribute [local go_sem] Oper.semAt_some
theorem madeCells1 (n : Nat) : (madeCells #[.int .i64 0] (n * 1)).toList = (List.replicate n (0 : Int)).map (Value.int .i64) := by
  rw [Nat.mul_one, toList_madeCells_one, List.map_replicate]
end Go.Proofs.YtcokcnpnemhdfaaGreatDoor
