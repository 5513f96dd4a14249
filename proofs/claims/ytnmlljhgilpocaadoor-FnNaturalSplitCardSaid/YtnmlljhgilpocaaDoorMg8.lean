/- What the program's covers answers. -/
import Derived.Test.YtnmlljhgilpocaaDoorMz8
import Derived.Deep.RegionHeld3
import Derived.Shelf.SlSortCmp.SmallK
namespace Go.Proofs.YtnmlljhgilpocaaDoor
open Go.RowKit
/-- one of the first k classes has x -/
def covK (zs : List Cl) (x : Int) : Nat → Bool
  | 0 => false
  | k + 1 => covK zs x k || (x % mAt zs k == rAt zs k)
def covB (zs : List Cl) (x : Int) : Bool := covK zs x zs.length
theorem covK_cnt (zs : List Cl) (x : Int) (k : Nat) : covK zs x k = !(cntK zs x k == 0) := by
  induction k with
  | zero => rfl
  | succ k ih =>
    have := cntK_bd zs x k
    simp only [covK, cntK, ih]
    by_cases h2 : x % mAt zs k = rAt zs k
    · have h3 : ¬ cntK zs x k + 1 = 0 := by omega
      simp [h2, h3]
    · simp [h2]
theorem covB_cnt (zs : List Cl) (x : Int) : covB zs x = !(cntN zs x == 0) := covK_cnt zs x _
theorem covK_mono (zs : List Cl) (x : Int) {k n : Nat} (h : k ≤ n) (hk : covK zs x k = true) : covK zs x n = true := by
  induction n with
  | zero =>
    obtain rfl : k = 0 := by omega
    exact hk
  | succ n ih =>
    by_cases he : k = n + 1
    · exact he ▸ hk
    · simp only [covK, ih (by omega), Bool.true_or]
end Go.Proofs.YtnmlljhgilpocaaDoor
namespace Go.Proofs.YtnmlljhgilpocaaDoor
open Go.RowKit
def cmpI (a b : Int) : Int := if a < b then -1 else if b < a then 1 else 0
def orI (a b : Int) : Int := if a = 0 then b else a
theorem newbox3 {X w1 : World} {a b : Value} {t : TypeId} (hb : Below (X.alloc (.cells #[a, b] t)).heap.size (X.alloc (.cells #[a, b] t)) w1) :
    w1.cell? ⟨X.heap.size, 0, none⟩ = some a ∧ w1.cell? ⟨X.heap.size, 1, none⟩ = some b := ⟨kc hb 0, kc hb 1⟩
theorem new_pair (w : World) (A B : Obj) (a b : Value) (t : TypeId) :
    ((((w.alloc A).alloc B).alloc (.cells #[a, b] t)).drew).cell? ⟨w.heap.size + 1 + 1, 0, none⟩ = some a ∧ ((((w.alloc A).alloc B).alloc (.cells #[a, b] t)).drew).cell? ⟨w.heap.size + 1 + 1, 1, none⟩ = some b := by
  have nb := newbox3 (X := (w.alloc A).alloc B) (a := a) (b := b) (t := t) (Below.refl _ _)
  simp only [World.size_alloc] at nb
  exact ⟨keep_drew nb.1, keep_drew nb.2⟩
def modI (c d : Cl) : Int := orI (cmpI c.2 d.2) (cmpI c.1 d.1)
def modW (c d : Cl) (w : World) : World := (((w.alloc (Obj.cells #[Value.int IntKind.i64 c.1, Value.int IntKind.i64 c.2] 41)).alloc (Obj.cells #[Value.int IntKind.i64 d.1, Value.int IntKind.i64 d.2] 41)).alloc (.cells #[.int .i64 (cmpI c.2 d.2), .int .i64 (cmpI c.1 d.1)] 3)).drew
end Go.Proofs.YtnmlljhgilpocaaDoor
namespace Go.Proofs.YtnmlljhgilpocaaDoor
open Go.RowKit
open Go.Sort
def encC (c : Cl) : List Value := [.int .i64 c.1, .int .i64 c.2]
theorem modW_grow (c d : Cl) (w : World) : ∃ os, modW c d w = grow (w.drewN 1) os := by
  refine ⟨((#[(Obj.cells #[Value.int IntKind.i64 c.1, Value.int IntKind.i64 c.2] 41)] ++ #[(Obj.cells #[Value.int IntKind.i64 d.1, Value.int IntKind.i64 d.2] 41)]) ++ #[.cells #[.int .i64 (cmpI c.2 d.2), .int .i64 (cmpI c.1 d.1)] 3] : Array Obj), ?_⟩
  unfold modW
  rw [alloc_eq_grow, alloc_eq_grow, alloc_eq_grow, grow_grow, grow_grow, drew_grow]
  rfl
end Go.Proofs.YtnmlljhgilpocaaDoor
