/- How often the greatest modulus stands in a list. -/
import Derived.Test.YtnmlljhgilpocaaDoorMgM
namespace Go.Proofs.YtnmlljhgilpocaaDoor
open Go.RowKit
def twF (zs : List Cl) : Nat → Int × Int
  | 0 => (0, 0)
  | k + 1 => if (twF zs k).1 < mAt zs k then (mAt zs k, 1) else if mAt zs k = (twF zs k).1 then ((twF zs k).1, (twF zs k).2 + 1) else twF zs k
theorem twF_facts {zs : List Cl} (ha : allB zs = true) (k : Nat) (hk : k ≤ zs.length) :
    (∀ j, j < k → mAt zs j ≤ (twF zs k).1) ∧ (twF zs k).2 = (((zs.take k).countP fun c => c.2 == (twF zs k).1 : Nat) : Int) ∧ (0 < k → ∃ j, j < k ∧ mAt zs j = (twF zs k).1) ∧ 0 ≤ (twF zs k).2 ∧ (twF zs k).2 ≤ k ∧ 0 ≤ (twF zs k).1 ∧ (twF zs k).1 ≤ 1000 := by
  induction k with
  | zero => exact ⟨fun j h => by omega, by simp [twF], fun h => by omega, by simp [twF], by simp [twF], by simp [twF], by simp [twF]⟩
  | succ k ih =>
    obtain ⟨h1, h2, h3, h4, h5, h6, h7⟩ := ih (by omega)
    obtain ⟨m1, m2, _, _⟩ := inB_iff.1 (allB_at ha k (by omega))
    have et : zs.take (k + 1) = zs.take k ++ [(rAt zs k, mAt zs k)] := by
      rw [List.take_succ_eq_append_getElem (by omega), ← at_eq (by omega)]
    simp only [twF]
    by_cases hlt : (twF zs k).1 < mAt zs k
    · rw [if_pos hlt]
      have hz : (zs.take k).countP (fun c => c.2 == mAt zs k) = 0 := by
        rw [List.countP_eq_zero]
        intro c hc
        obtain ⟨j, hj, rfl⟩ := List.mem_iff_getElem.1 hc
        rw [List.length_take] at hj
        have := h1 j (by omega)
        rw [List.getElem_take, ← at_eq (by omega)]
        simp
        omega
      refine ⟨fun j hj => ?_, ?_, fun _ => ⟨k, by omega, rfl⟩, by simp, by simp; omega, by simp; omega, by simpa using m2⟩
      · by_cases e : j = k
        · subst e; exact Int.le_refl _
        · have := h1 j (by omega)
          show mAt zs j ≤ mAt zs k
          omega
      · rw [et, List.countP_append, hz]
        simp
    · rw [if_neg hlt]
      by_cases he : mAt zs k = (twF zs k).1
      · rw [if_pos he]
        refine ⟨fun j hj => ?_, ?_, fun _ => ⟨k, by omega, he⟩, by simp; omega, by simp; omega, by simpa using h6, by simpa using h7⟩
        · by_cases e : j = k
          · subst e; exact Int.le_of_eq he
          · exact h1 j (by omega)
        · rw [et, List.countP_append, h2]
          simp [he]
      · rw [if_neg he]
        refine ⟨fun j hj => ?_, ?_, fun _ => ?_, h4, by omega, h6, h7⟩
        · by_cases e : j = k
          · subst e; omega
          · exact h1 j (by omega)
        · rw [et, List.countP_append, Int.natCast_add, ← h2]
          simp [he]
        · rcases Nat.eq_zero_or_pos k with h0 | h0
          · subst h0
            simp only [twF] at hlt
            omega
          · obtain ⟨j, hj, e⟩ := h3 h0
            exact ⟨j, by omega, e⟩
theorem first_yes {p : Nat → Prop} [DecidablePred p] : ∀ N : Nat, p N → ∃ x, x ≤ N ∧ p x ∧ ∀ j, j < x → ¬ p j := by
  intro N
  induction N using Nat.strongRecOn with
  | _ N ih =>
    intro h
    by_cases hx : ∃ j, j < N ∧ p j
    · obtain ⟨j, hj, hp⟩ := hx
      obtain ⟨x, h1, h2, h3⟩ := ih j hj hp
      exact ⟨x, by omega, h2, h3⟩
    · exact ⟨N, Nat.le_refl _, h, fun j hj hp => hx ⟨j, hj, hp⟩⟩
theorem asc_count {L : List Int} (hL : L.Pairwise (· ≤ ·)) (h0 : 0 < L.length) : ∃ i : Nat, i < L.length ∧ L.getD i 0 = L.getD (L.length - 1) 0 ∧ (∀ j, j < i → L.getD j 0 ≠ L.getD (L.length - 1) 0) ∧ (L.countP fun x => x == L.getD (L.length - 1) 0) = L.length - i := by
  generalize hM : L.getD (L.length - 1) 0 = M
  obtain ⟨i, h1, h2, h3⟩ := first_yes (p := fun j => L.getD j 0 = M) (L.length - 1) hM
  have hg : ∀ j (h : j < L.length), L.getD j 0 = L[j] := fun j h => by simp [h]
  refine ⟨i, by omega, h2, h3, ?_⟩
  have e : L.countP (fun x => x == M) = (L.take i).countP (fun x => x == M) + (L.drop i).countP (fun x => x == M) := by rw [← List.countP_append, List.take_append_drop]
  have z1 : (L.take i).countP (fun x => x == M) = 0 := by
    rw [List.countP_eq_zero]
    intro c hc
    obtain ⟨j, hj, rfl⟩ := List.mem_iff_getElem.1 hc
    rw [List.length_take] at hj
    rw [List.getElem_take, ← hg j (by omega)]
    simpa using h3 j (by omega)
  have z2 : (L.drop i).countP (fun x => x == M) = (L.drop i).length := by
    rw [List.countP_eq_length]
    intro c hc
    obtain ⟨j, hj, rfl⟩ := List.mem_iff_getElem.1 hc
    rw [List.length_drop] at hj
    rw [List.getElem_drop]
    have p := List.pairwise_iff_getElem.1 hL
    have a1 : M ≤ L[i + j] := by
      rcases Nat.eq_zero_or_pos j with hj0 | hj0
      · subst hj0
        have := hg i (by omega)
        simp only [Nat.add_zero]
        omega
      · have := p i (i + j) (by omega) (by omega) (by omega)
        have := hg i (by omega)
        omega
    have a2 : L[i + j] ≤ M := by
      rcases Nat.lt_or_ge (i + j) (L.length - 1) with hl | hl
      · have := p (i + j) (L.length - 1) (by omega) (by omega) hl
        have := hg (L.length - 1) (by omega)
        omega
      · have e2 : i + j = L.length - 1 := by omega
        have h7 := hg (i + j) (by omega)
        have h8 : L.getD (i + j) 0 = L.getD (L.length - 1) 0 := by rw [e2]
        omega
    have : L[i + j] = M := by omega
    simp [this]
  rw [e, z1, z2, List.length_drop]
  omega
end Go.Proofs.YtnmlljhgilpocaaDoor
