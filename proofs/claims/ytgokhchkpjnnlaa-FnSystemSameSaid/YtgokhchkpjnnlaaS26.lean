/- The program's spareAt. -/
import Derived.Test.YtgokhchkpjnnlaaS25
import Derived.Test.YtgokhchkpjnnlaaR2
namespace Go.Proofs.Ytgokhchkpjnnlaa
open Go.RowKit Go.Shelf
attribute [local go_sem] Oper.semAt_some
theorem kept_below {w w' : World} (h : Below w.heap.size w w') : KeepsOthers w w' := ⟨h.size, fun k _ hk _ => (h.block k (Array.getElem?_eq_some_iff.1 hk).1).trans hk⟩
/-- the others cover what class i has below E -/
def spaB (zs : List Cl) (i : Nat) (E : Int) : Bool := (List.range 1001).all fun j => !decide (rAt zs i + (j : Int) * mAt zs i < E) || covB (zs.eraseIdx i) (rAt zs i + (j : Int) * mAt zs i)
theorem spaB_iff {zs : List Cl} {i : Nat} {E : Int} (h : inB (rAt zs i) (mAt zs i) = true) (hE : E ≤ 1000) : spaB zs i E = true ↔ ∀ j : Nat, rAt zs i + (j : Int) * mAt zs i < E → covB (zs.eraseIdx i) (rAt zs i + (j : Int) * mAt zs i) = true := by
  obtain ⟨m1, _, r1, _⟩ := inB_iff.1 h
  unfold spaB
  rw [List.all_eq_true]
  constructor
  · intro H j hj
    have hb := Int.mul_le_mul_of_nonneg_left m1 (Int.natCast_nonneg j)
    have := H j (List.mem_range.2 (by omega))
    simpa [hj] using this
  · intro H j _
    by_cases hj : rAt zs i + (j : Int) * mAt zs i < E
    · simp [hj, H j hj]
    · simp [hj]
theorem spa_all {zs : List Cl} {i : Nat} {E : Int} {ys : List Int} (h : inB (rAt zs i) (mAt zs i) = true) (hE : E ≤ 1000) (hy : NumAll (rAt zs i) (mAt zs i) 0 E ys) (hn : ∀ y ∈ ys, covB (zs.eraseIdx i) y = true) : spaB zs i E = true := by
  obtain ⟨m1, _, r1, r2⟩ := inB_iff.1 h
  obtain ⟨k, rfl, hk, hj⟩ := hy
  rw [spaB_iff h hE]
  intro j hjE
  simp only [numK0 r1 r2] at hk
  have hjk : j < k := by
    rcases Nat.lt_or_ge j k with h | h
    · exact h
    · have := Int.mul_le_mul_of_nonneg_right (show (k : Int) ≤ (j : Int) by omega) (show 0 ≤ mAt zs i by omega)
      omega
  have := hn (numK (rAt zs i) (mAt zs i) 0 j) (by simp only [seqTo, List.mem_map, List.mem_range]; exact ⟨j, hjk, rfl⟩)
  rwa [numK0 r1 r2] at this
theorem spa_part {zs : List Cl} {i : Nat} {E x : Int} {ys p : List Int} (h : inB (rAt zs i) (mAt zs i) = true) (hE : E ≤ 1000) (hy : NumPart (rAt zs i) (mAt zs i) 0 E ys) (hp : ys = p ++ [x]) (hx : covB (zs.eraseIdx i) x = false) : spaB zs i E = false := by
  obtain ⟨m1, _, r1, r2⟩ := inB_iff.1 h
  obtain ⟨k, rfl, hj⟩ := hy
  rw [seqTo_succ] at hp
  obtain ⟨rfl, h2⟩ := List.append_inj' hp rfl
  obtain rfl : numK (rAt zs i) (mAt zs i) 0 k = x := by simpa using h2
  have hk := hj k (by omega)
  rw [numK0 r1 r2] at hk hx
  cases hs : spaB zs i E
  · rfl
  · rw [(spaB_iff h hE).1 hs k hk] at hx; cases hx
theorem allB_erase {zs : List Cl} (h : allB zs = true) (i : Nat) : allB (zs.eraseIdx i) = true := by
  unfold allB at *
  rw [List.all_eq_true] at *
  exact fun c hc => h c (List.eraseIdx_subset hc)
end Go.Proofs.Ytgokhchkpjnnlaa
