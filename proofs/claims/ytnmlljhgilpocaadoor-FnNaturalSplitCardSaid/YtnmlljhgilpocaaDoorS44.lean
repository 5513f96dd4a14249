/- Contracts of ExactTwins, in the program and in the model. -/
import Derived.Test.YtnmlljhgilpocaaDoorMz12
import Derived.Test.YtnmlljhgilpocaaDoorMathW
import Derived.Shelf.Slices.Turned
namespace Go.Proofs.YtnmlljhgilpocaaDoor
open Go.RowKit Go.Shelf
def twiI (zs : List Cl) : Int := selI (sysB zs) (twF zs zs.length).2
theorem twi_index {zs : List Cl} (hs : sysB zs = true) : ∃ i : Nat, i < zs.length ∧ Lib.idxOf ((modL zs).take zs.length) ((modL zs).getD (zs.length - 1) 0) = (i : Int) ∧ (twF zs zs.length).2 = (zs.length : Int) - i := by
  obtain ⟨l1, l2, ha, _⟩ := sysB_facts hs
  have hL : (modL zs).Pairwise (· ≤ ·) := by
    unfold modL
    rw [List.pairwise_map]
    refine (srtL_asc zs).imp fun {a b} h => ?_
    unfold leC at h
    omega
  have hlen := modL_length zs
  obtain ⟨i, h1, h2, h3, h4⟩ := asc_count hL (by omega)
  rw [hlen] at h1 h2 h3 h4
  refine ⟨i, h1, Lib.idxOf_hit _ _ _ _ h1 (by omega) h2 h3, ?_⟩
  obtain ⟨f1, f2, f3, _⟩ := twF_facts ha zs.length (Nat.le_refl _)
  have hM : (modL zs).getD (zs.length - 1) 0 = (twF zs zs.length).1 := by
    have hmem : ∀ j, j < zs.length → ∃ q, q < zs.length ∧ (modL zs).getD q 0 = mAt zs j := by
      intro j hj
      have : mAt zs j ∈ modL zs := by
        unfold modL
        refine List.mem_map.2 ⟨zs[j], (srtL_perm zs).symm.subset (List.getElem_mem hj), by simp [mAt, hj]⟩
      obtain ⟨q, hq, e⟩ := List.mem_iff_getElem.1 this
      exact ⟨q, by omega, by simp [hq, e]⟩
    have hmem2 : ∀ q, q < zs.length → ∃ j, j < zs.length ∧ (modL zs).getD q 0 = mAt zs j := by
      intro q hq
      have : (modL zs)[q]'(by omega) ∈ modL zs := List.getElem_mem _
      unfold modL at this
      obtain ⟨c, hc, e⟩ := List.mem_map.1 this
      obtain ⟨j, hj, e2⟩ := List.mem_iff_getElem.1 ((srtL_perm zs).subset hc)
      refine ⟨j, hj, ?_⟩
      have e3 : (modL zs).getD q 0 = (modL zs)[q]'(by omega) := by simp [show q < (modL zs).length by omega]
      rw [e3]
      show (modL zs)[q]'(by omega) = mAt zs j
      unfold modL
      rw [← e, ← e2]
      simp [mAt, hj]
    have hmax : ∀ q, q < zs.length → (modL zs).getD q 0 ≤ (modL zs).getD (zs.length - 1) 0 := by
      intro q hq
      rcases Nat.lt_or_ge q (zs.length - 1) with h | h
      · have := List.pairwise_iff_getElem.1 hL q (zs.length - 1) (by omega) (by omega) h
        simpa [show q < (modL zs).length by omega, show zs.length - 1 < (modL zs).length by omega] using this
      · rw [show q = zs.length - 1 by omega]; exact Int.le_refl _
    obtain ⟨j, hj, e⟩ := hmem2 (zs.length - 1) (by omega)
    obtain ⟨j2, hj2, e2⟩ := f3 (by omega)
    obtain ⟨q, hq, e3⟩ := hmem j2 hj2
    have a1 := f1 j hj
    have a2 := hmax q hq
    omega
  rw [hM] at h4
  have hcnt : ((modL zs).countP fun x => x == (twF zs zs.length).1) = (zs.countP fun c => c.2 == (twF zs zs.length).1) := by
    unfold modL
    rw [List.countP_map, (srtL_perm zs).countP_eq]
    rfl
  rw [List.take_length] at f2
  rw [f2, ← hcnt, h4]
  exact (fun (a b : Nat) (h : b < a) => show ((a - b : Nat) : Int) = (a : Int) - b by omega) _ _ h1
end Go.Proofs.YtnmlljhgilpocaaDoor
