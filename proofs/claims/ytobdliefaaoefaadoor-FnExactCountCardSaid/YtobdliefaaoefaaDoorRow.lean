/- Rows of values in memory, one cell each, whatever the kind; no function of the program is named here. -/
import Derived.Test.YtobdliefaaoefaaDoorMathS
namespace Go.Proofs.YtobdliefaaoefaaDoor
open Go.RowKit
def OwnV (w : World) (base : Nat) (e : TypeId) (v : Value) (xs : List Value) : Prop := w.ownsRow base e 1 v xs.length xs
theorem OwnV.keep {w w' : World} {base : Nat} {e : TypeId} {v : Value} {xs : List Value} (h : OwnV w base e v xs) (k : Below w.heap.size w w') : OwnV w' base e v xs := row_keep h k
theorem OwnV.cell {w : World} {base g n cap : Nat} {e : TypeId} {xs : List Value} (h : OwnV w base e (.slice (some ⟨g, 0, none⟩) n cap) xs) (hn : xs.length = n) (i : Nat) (hi : i < n) : w.cell? ⟨g, i, none⟩ = some (xs[i]?.getD (.bool false)) := by
  subst hn
  rw [World.ownsRow.cellAt h i (by omega)]
  simp [hi]
theorem OwnV.free {w : World} {base g n cap : Nat} {e : TypeId} {xs : List Value} (h : OwnV w base e (.slice (some ⟨g, 0, none⟩) n cap) xs) (hn : xs.length = n) (j : Nat) : w.frozen? ⟨g, j, none⟩ = false := by
  subst hn
  exact World.ownsRow.frozenAt h j
theorem OwnV.store {w : World} {base g n cap : Nat} {e : TypeId} {xs : List Value} (h : OwnV w base e (.slice (some ⟨g, 0, none⟩) n cap) xs) (hn : xs.length = n) (i : Nat) (x : Value) :
    OwnV (w.setCell ⟨g, i, none⟩ x) base e (.slice (some ⟨g, 0, none⟩) n cap) (xs.set i x) := by
  subst hn
  unfold OwnV
  rw [List.length_set]
  exact (World.ownsRow.stored h i _).1
theorem OwnV.other {w w' : World} {base : Nat} {e : TypeId} {v : Value} {row : Option Nat} {xs : List Value} (h : OwnV w base e v xs) (k : w.grownBy w' row) (hne : v.ownBlock = none ∨ v.ownBlock ≠ row) : OwnV w' base e v xs := World.ownsRow.kept h k hne
theorem OwnV.lt {w : World} {base g n cap : Nat} {e : TypeId} {xs : List Value} (h : OwnV w base e (.slice (some ⟨g, 0, none⟩) n cap) xs) : base ≤ g ∧ g < w.heap.size := World.ownsRow.lt h g rfl
theorem ownV_drew {w : World} {base : Nat} {e : TypeId} {v : Value} {xs : List Value} (h : OwnV w base e v xs) (n : Nat) : OwnV (w.drewN n) base e v xs := h
theorem OwnV.low {w : World} {base b2 : Nat} {e : TypeId} {v : Value} {xs : List Value} (h : OwnV w base e v xs) (k : b2 ≤ base) : OwnV w b2 e v xs := by
  obtain ⟨h1, h2⟩ := h
  refine ⟨h1, ?_⟩
  rcases h2 with h2 | ⟨g, cap, cur, hv, hg, r⟩
  · exact .inl h2
  · exact .inr ⟨g, cap, cur, hv, Nat.le_trans k hg, r⟩
theorem madeV (x : Value) (n : Nat) : (madeCells #[x] (n * 1)).toList = List.replicate n x := by
  rw [Nat.mul_one]
  apply List.ext_getElem?
  intro j
  by_cases hj : j < n
  · simp [madeCells, hj, Nat.mod_one]
  · simp [madeCells, hj]
/-- flags -/
abbrev flg (bs : List Bool) : List Value := bs.map Value.bool
/-- the flags of the places of a list -/
def mks (n : Nat) (l : List Int) : List Bool := (List.range n).map fun j : Nat => decide ((j : Int) ∈ l)
theorem mks_length (n : Nat) (l : List Int) : (mks n l).length = n := by simp [mks]
theorem mks_nil (n : Nat) : mks n [] = List.replicate n false := by
  unfold mks
  simp [List.map_const']
theorem mks_get (n : Nat) (l : List Int) (x : Int) (h0 : 0 ≤ x) (h1 : x < n) : (flg (mks n l))[x.toNat]?.getD (.bool false) = .bool (decide (x ∈ l)) := by
  have hx : x.toNat < n := by omega
  have : ((x.toNat : Nat) : Int) = x := by omega
  simp [flg, mks, hx, this]
theorem mks_set (n : Nat) (l : List Int) (x : Int) (h0 : 0 ≤ x) (h1 : x < n) : (flg (mks n l)).set x.toNat (.bool true) = flg (mks n (l ++ [x])) := by
  have hx : x.toNat < n := by omega
  apply List.ext_getElem?
  intro j
  rw [List.getElem?_set]
  by_cases hj : x.toNat = j
  · subst hj
    have : ((x.toNat : Nat) : Int) = x := by omega
    simp [flg, mks, hx, this]
  · rw [if_neg hj]
    by_cases hjn : j < n
    · have hne : ¬ (j : Int) = x := by omega
      simp [flg, mks, hjn, hne]
    · simp [flg, mks, hjn]
end Go.Proofs.YtobdliefaaoefaaDoor
