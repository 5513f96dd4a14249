/- The comparison of classes, as the sort wants it. -/
import Derived.Test.YtgdpebnnmklbjaaS11
import Derived.Shelf.SlSortCmp.SmallK
namespace Go.Proofs.Ytgdpebnnmklbjaa
open Go.RowKit
open Go.Sort
def encC (c : Cl) : List Value := [.int .i64 c.1, .int .i64 c.2]
theorem modW_grow (c d : Cl) (w : World) : ∃ os, modW c d w = grow (w.drewN 1) os := by
  refine ⟨((#[(Obj.cells #[Value.int IntKind.i64 c.1, Value.int IntKind.i64 c.2] 34)] ++ #[(Obj.cells #[Value.int IntKind.i64 d.1, Value.int IntKind.i64 d.2] 34)]) ++ #[.cells #[.int .i64 (cmpI c.2 d.2), .int .i64 (cmpI c.1 d.1)] 3] : Array Obj), ?_⟩
  unfold modW
  rw [alloc_eq_grow, alloc_eq_grow, alloc_eq_grow, grow_grow, grow_grow, drew_grow]
  rfl
theorem cmp_lays (blk off size : Nat) (w : World) : CmpLays (α := Cl) Try.prog 74 #[] encC 2 modI blk off size w := by
  intro m os dk _ x y
  refine (c_byModulus x.1 x.2 y.1 y.2 _).mono ?_
  rintro e w' ⟨rfl, rfl⟩
  obtain ⟨os', h⟩ := modW_grow x y (sortWorldK encC 2 w blk off m dk os)
  exact ⟨rfl, 1, os', h⟩
end Go.Proofs.Ytgdpebnnmklbjaa
