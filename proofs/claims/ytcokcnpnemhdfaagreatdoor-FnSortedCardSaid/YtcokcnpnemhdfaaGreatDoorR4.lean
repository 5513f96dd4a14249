/- The numbers of a class as an iterator, once more: each number that it hands out is told to lie in the range, and how many there are at most. -/
import Derived.Test.YtcokcnpnemhdfaaGreatDoorMg5
namespace Go.Proofs.YtcokcnpnemhdfaaGreatDoor
open Go.RowKit Go.Shelf
attribute [local go_sem] Oper.semAt_some
/-- a number from a on, less than b -/
abbrev Rng (a b : Int) := { x : Int // a ≤ x ∧ x < b }
def vals {a b : Int} (ys : List (Rng a b)) : List Int := ys.map (·.1)
theorem vals_snoc {a b : Int} (ys : List (Rng a b)) (x : Rng a b) : vals (ys ++ [x]) = vals ys ++ [x.1] := by simp [vals]
theorem vals_length {a b : Int} (ys : List (Rng a b)) : (vals ys).length = ys.length := by simp [vals]
/-- the cells of three blocks are as they were -/
def Kp3 (C A E : Nat) (W W' : World) : Prop := ∀ p : Addr, (p.block = C ∨ p.block = A ∨ p.block = E) → W'.cell? p = W.cell? p
theorem Kp3.t {C A E : Nat} {X Y Z : World} (h : Kp3 C A E X Y) (k : Kp3 C A E Y Z) : Kp3 C A E X Z := fun p hp => (k p hp).trans (h p hp)
theorem Kp3.b {C A E : Nat} {w : World} (hC : C < w.heap.size) (hA : A < w.heap.size) (hE : E < w.heap.size) (W : World) (l : Nat) (o o' : Obj) (hl : w.heap.size ≤ l) (h : W.heap[l]? = some o) (h1 : o.isCells = false) (h2 : o.isWalk = false) : Kp3 C A E W (W.putObj l o') :=
  fun p hp => (belowK_b (Nat.le_refl _) W l o o' hl h h1 h2).cell (by rcases hp with e | e | e <;> rw [e] <;> assumption)
theorem Kp3.of {C A E : Nat} {W W' : World} (h : ∀ j, (j = C ∨ j = A ∨ j = E) → W'.heap[j]? = W.heap[j]?) : Kp3 C A E W W' :=
  fun p hp => World.cell?_of_block (w := W) (h p.block hp)
theorem heap_grown {W w1 : World} {g j : Nat} (h : W.grownBy w1 (some g)) (hj : j < W.heap.size) (hne : j ≠ g) : w1.heap[j]? = W.heap[j]? := h.block j hj (fun e => hne (by cases e; rfl))
theorem cell_new2 (w : World) (A B : Obj) (v : Value) (t : TypeId) : (((w.alloc A).alloc B).alloc (.cells #[v] t)).cell? ⟨w.heap.size + 1 + 1, 0, none⟩ = some v := by
  have h := cell_new ((w.alloc A).alloc B) #[v] t 0
  rw [World.size_alloc, World.size_alloc] at h; exact h
theorem cell_new3 (w : World) (A B C : Obj) (v : Value) (t : TypeId) : ((((w.alloc A).alloc B).alloc C).alloc (.cells #[v] t)).cell? ⟨w.heap.size + 1 + 1 + 1, 0, none⟩ = some v := by
  have h := cell_new (((w.alloc A).alloc B).alloc C) #[v] t 0
  rw [World.size_alloc, World.size_alloc, World.size_alloc] at h; exact h
end Go.Proofs.YtcokcnpnemhdfaaGreatDoor
