/- The order of classes by modulus and rest: a sorted list is told by what stands in it. -/
import Derived.Test.YtobdliefaaoefaaDoorMathP
namespace Go.Proofs.YtobdliefaaoefaaDoor
open Go.RowKit
/-- c does not stand behind d -/
def leC (c d : Cl) : Prop := c.2 < d.2 ∨ (c.2 = d.2 ∧ c.1 ≤ d.1)
instance (c d : Cl) : Decidable (leC c d) := inferInstanceAs (Decidable (_ ∨ _))
theorem leC_trans {a b c : Cl} (h : leC a b) (k : leC b c) : leC a c := by unfold leC at *; omega
theorem leC_total (a b : Cl) : leC a b ∨ leC b a := by unfold leC; omega
theorem leC_anti {a b : Cl} (h : leC a b) (k : leC b a) : a = b := by
  unfold leC at *
  exact Prod.ext (by omega) (by omega)
theorem leC_refl (a : Cl) : leC a a := by unfold leC; omega
def Asc (l : List Cl) : Prop := l.Pairwise leC
theorem asc_unique : ∀ {l k : List Cl}, Asc l → Asc k → List.Perm l k → l = k := by
  intro l
  induction l with
  | nil => intro k _ _ h; exact h.nil_eq
  | cons a t ih =>
    intro k ha hk h
    cases k with
    | nil => exact absurd h.symm.nil_eq (by simp)
    | cons b u =>
      have e : a = b := by
        obtain ⟨h1, _⟩ := List.pairwise_cons.1 ha
        obtain ⟨h2, _⟩ := List.pairwise_cons.1 hk
        have ma : a ∈ b :: u := h.subset (List.mem_cons_self)
        have mb : b ∈ a :: t := h.symm.subset (List.mem_cons_self)
        rcases List.mem_cons.1 ma with e | ma
        · exact e
        · rcases List.mem_cons.1 mb with e | mb
          · exact e.symm
          · exact leC_anti (h1 b mb) (h2 a ma)
      subst e
      rw [ih (List.pairwise_cons.1 ha).2 (List.pairwise_cons.1 hk).2 (List.Perm.cons_inv h)]
/-- the place of c in the first k of a list, from behind -/
def posI (c : Cl) (l : List Cl) : Nat → Nat
  | 0 => 0
  | k + 1 => if leC (rAt l k, mAt l k) c then k + 1 else posI c l k
theorem posI_le (c : Cl) (l : List Cl) (k : Nat) : posI c l k ≤ k := by
  induction k with
  | zero => exact Nat.le_refl _
  | succ k ih => simp only [posI]; split <;> omega
def insC (c : Cl) (l : List Cl) : List Cl := l.take (posI c l l.length) ++ c :: l.drop (posI c l l.length)
theorem insC_perm (c : Cl) (l : List Cl) : List.Perm (insC c l) (c :: l) := by
  unfold insC
  have := List.perm_middle (a := c) (l₁ := l.take (posI c l l.length)) (l₂ := l.drop (posI c l l.length))
  rwa [List.take_append_drop] at this
theorem insC_length (c : Cl) (l : List Cl) : (insC c l).length = l.length + 1 := by simpa using (insC_perm c l).length_eq
theorem posI_behind {c : Cl} {l : List Cl} (k : Nat) : ∀ j, posI c l k ≤ j → j < k → ¬ leC (rAt l j, mAt l j) c := by
  induction k with
  | zero => intro j _ h; omega
  | succ k ih =>
    intro j h1 h2
    simp only [posI] at h1
    split at h1
    · omega
    · by_cases e : j = k
      · subst e; assumption
      · exact ih j h1 (by omega)
theorem posI_ahead {c : Cl} {l : List Cl} (k : Nat) (h : 0 < posI c l k) : leC (rAt l (posI c l k - 1), mAt l (posI c l k - 1)) c := by
  induction k with
  | zero => simp [posI] at h
  | succ k ih =>
    simp only [posI] at h ⊢
    by_cases hb : leC (rAt l k, mAt l k) c
    · rw [if_pos hb] at h ⊢
      exact hb
    · rw [if_neg hb] at h ⊢
      exact ih h
theorem at_eq {l : List Cl} {j : Nat} (h : j < l.length) : (rAt l j, mAt l j) = l[j] := by simp [rAt, mAt, h]
theorem asc_get {l : List Cl} (h : Asc l) {i j : Nat} (hij : i < j) (hj : j < l.length) : leC (l[i]'(by omega)) l[j] := List.pairwise_iff_getElem.1 h i j (by omega) hj hij
theorem insC_asc {c : Cl} {l : List Cl} (h : Asc l) : Asc (insC c l) := by
  unfold insC Asc
  have hp := posI_le c l l.length
  rw [List.pairwise_append]
  refine ⟨h.sublist (List.take_sublist _ _), ?_, ?_⟩
  · refine List.pairwise_cons.2 ⟨fun d hd => ?_, h.sublist (List.drop_sublist _ _)⟩
    obtain ⟨j, hj, rfl⟩ := List.mem_iff_getElem.1 hd
    rw [List.length_drop] at hj
    rw [List.getElem_drop]
    have := posI_behind (c := c) (l := l) l.length (posI c l l.length + j) (by omega) (by omega)
    rw [at_eq (by omega)] at this
    exact (leC_total _ _).resolve_left this
  · intro a ha d hd
    obtain ⟨i, hi, rfl⟩ := List.mem_iff_getElem.1 ha
    rw [List.length_take] at hi
    rw [List.getElem_take]
    have hac : leC (l[i]'(by omega)) c := by
      have := posI_ahead (c := c) (l := l) l.length (by omega)
      rw [at_eq (by omega)] at this
      by_cases e : i = posI c l l.length - 1
      · simp only [← e] at this; exact this
      · exact leC_trans (asc_get h (show i < posI c l l.length - 1 by omega) (by omega)) this
    rcases List.mem_cons.1 hd with rfl | hd
    · exact hac
    · obtain ⟨j, hj, rfl⟩ := List.mem_iff_getElem.1 hd
      rw [List.length_drop] at hj
      rw [List.getElem_drop]
      exact asc_get h (by omega) (by omega)
/-- the first i put in order, one after another -/
def srtK (zs : List Cl) : Nat → List Cl
  | 0 => []
  | i + 1 => insC (rAt zs i, mAt zs i) (srtK zs i)
def srtL (zs : List Cl) : List Cl := srtK zs zs.length
theorem srtK_asc (zs : List Cl) (i : Nat) : Asc (srtK zs i) := by
  induction i with
  | zero => exact List.Pairwise.nil
  | succ i ih => exact insC_asc ih
theorem srtK_perm (zs : List Cl) (i : Nat) (hi : i ≤ zs.length) : List.Perm (srtK zs i) (zs.take i) := by
  induction i with
  | zero => exact List.Perm.nil
  | succ i ih =>
    simp only [srtK]
    rw [List.take_succ_eq_append_getElem (by omega), ← at_eq (by omega)]
    refine (insC_perm _ _).trans ?_
    exact ((ih (by omega)).cons _).trans (List.perm_append_comm (l₁ := [_]))
theorem srtK_length (zs : List Cl) (i : Nat) (hi : i ≤ zs.length) : (srtK zs i).length = i := by
  rw [(srtK_perm zs i hi).length_eq, List.length_take]
  omega
theorem srtL_perm (zs : List Cl) : List.Perm (srtL zs) zs := by
  have := srtK_perm zs zs.length (Nat.le_refl _)
  rwa [List.take_length] at this
theorem srtL_asc (zs : List Cl) : Asc (srtL zs) := srtK_asc zs _
theorem srtL_length (zs : List Cl) : (srtL zs).length = zs.length := (srtL_perm zs).length_eq
theorem srtL_of {zs ys : List Cl} (h : List.Perm zs ys) (k : Asc ys) : ys = srtL zs := asc_unique k (srtL_asc zs) (h.symm.trans (srtL_perm zs).symm)
end Go.Proofs.YtobdliefaaoefaaDoor
