/- Blocks of a known number of cells; no function of the program is named here. -/
import Derived.Test.YtnbejgbkabaleaaMathS
namespace Go.Proofs.Ytnbejgbkabaleaa
open Go.RowKit
/-- block g has the cells xs, and they may be written -/
structure Arr (w : World) (g : Nat) (xs : List Value) : Prop where
  c : ∀ i, i < xs.length → w.cell? ⟨g, i, none⟩ = xs[i]?
  f : ∀ i, w.frozen? ⟨g, i, none⟩ = false
  lt : g < w.heap.size
theorem Arr.new (w : World) (cs : Array Value) (t : TypeId) : Arr (w.alloc (.cells cs t)) w.heap.size cs.toList :=
  ⟨fun i _ => by rw [cell_new]; simp, fun i => by simp, by simp⟩
theorem Arr.newAt (w : World) (cs : Array Value) (t : TypeId) (n : Nat) (h : n = w.heap.size) : Arr (w.alloc (.cells cs t)) n cs.toList := by
  subst h; exact Arr.new w cs t
theorem Arr.keepB {w w' : World} {g B : Nat} {xs : List Value} (h : Arr w g xs) (k : Below B w w') (hB : g < B) : Arr w' g xs :=
  ⟨fun i hi => by rw [k.cell (p := ⟨g, i, none⟩) hB]; exact h.c i hi, fun i => by rw [k.frozen (p := ⟨g, i, none⟩) hB]; exact h.f i, Nat.lt_of_lt_of_le h.lt k.size⟩
theorem Arr.keep {w w' : World} {g : Nat} {xs : List Value} (h : Arr w g xs) (k : Below w.heap.size w w') : Arr w' g xs := h.keepB k h.lt
theorem Arr.alloc {w : World} {g : Nat} {xs : List Value} (h : Arr w g xs) (o : Obj) : Arr (w.alloc o) g xs := h.keep ((Below.refl _ _).alloc (Nat.le_refl _) _)
theorem Arr.drew {w : World} {g : Nat} {xs : List Value} (h : Arr w g xs) : Arr w.drew g xs := h.keep (Below.refl _ _).drew
theorem Arr.drewN {w : World} {g : Nat} {xs : List Value} (h : Arr w g xs) (n : Nat) : Arr (w.drewN n) g xs := h.keep (bel_drewN (Below.refl _ _) n)
theorem Arr.grown {w w' : World} {g : Nat} {xs : List Value} (h : Arr w g xs) (k : w.grownBy w' none) : Arr w' g xs := h.keep ((Below.refl _ _).grown k (Nat.le_refl _) (fun _ e => by cases e))
theorem Arr.put {w : World} {g : Nat} {xs : List Value} (h : Arr w g xs) (j : Nat) (hj : j < xs.length) (v : Value) : Arr (w.setCell ⟨g, j, none⟩ v) g (xs.set j v) := by
  refine ⟨fun i hi => ?_, fun i => by simpa using h.f i, ?_⟩
  · by_cases e : i = j
    · subst e
      rw [World.cell?_setCell_same' _ _ _ (by rw [h.c i hj]; simp [hj])]
      simp [hj]
    · rw [cell_other (by intro q; cases q; exact e rfl), h.c i (by simpa using hi), List.getElem?_set_ne (by omega)]
  · simpa [World.setCell] using h.lt
theorem Arr.miss {w : World} {g g' : Nat} {xs : List Value} (h : Arr w g xs) (hg : g' ≠ g) (j : Nat) (v : Value) : Arr (w.setCell ⟨g', j, none⟩ v) g xs :=
  ⟨fun i hi => by rw [cell_other (by intro q; cases q; exact hg rfl)]; exact h.c i hi, fun i => by simpa using h.f i, by simpa [World.setCell] using h.lt⟩
end Go.Proofs.Ytnbejgbkabaleaa
