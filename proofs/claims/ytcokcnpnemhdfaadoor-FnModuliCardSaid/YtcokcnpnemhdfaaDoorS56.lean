/- Moduli in order, and how often the greatest stands. -/
import Derived.Test.YtcokcnpnemhdfaaDoorS44
namespace Go.Proofs.YtcokcnpnemhdfaaDoor
open Go.RowKit
theorem modL_asc (zs : List Cl) : (modL zs).Pairwise (· ≤ ·) := by
  unfold modL
  rw [List.pairwise_map]
  refine (srtL_asc zs).imp fun {a b} h => ?_
  unfold leC at h
  omega
theorem modL_le (zs : List Cl) (k j : Nat) (h : k < j) (hj : j < zs.length) : (modL zs)[k]?.getD 0 ≤ (modL zs)[j]?.getD 0 := by
  have hl := modL_length zs
  have := List.pairwise_iff_getElem.1 (modL_asc zs) k j (by omega) (by omega) h
  simpa [show k < (modL zs).length by omega, show j < (modL zs).length by omega] using this
/-- how many of the first k are M -/
def cntM (L : List Int) (M : Int) (k : Nat) : Int := (((L.take k).countP fun x => x == M : Nat) : Int)
theorem cntM_succ (L : List Int) (M : Int) (k : Nat) (hk : k < L.length) : cntM L M (k + 1) = cntM L M k + (bif L[k]?.getD 0 == M then 1 else 0) := by
  unfold cntM
  rw [List.take_succ_eq_append_getElem hk, List.countP_append]
  have e : L[k]?.getD 0 = L[k] := by simp [hk]
  rw [e]
  cases h : (L[k] == M) <;> simp [h]
theorem cntM_bd (L : List Int) (M : Int) (k : Nat) : 0 ≤ cntM L M k ∧ cntM L M k ≤ k := by
  unfold cntM
  have h1 : (L.take k).countP (fun x => x == M) ≤ (L.take k).length := List.countP_le_length
  rw [List.length_take] at h1
  omega
theorem twi_count {zs : List Cl} (hs : sysB zs = true) : cntM (modL zs) ((modL zs)[zs.length - 1]?.getD 0) zs.length = twiI zs := by
  have hlen := modL_length zs
  obtain ⟨l1, _, _⟩ := sysB_facts hs
  obtain ⟨i, h1, h2, h3⟩ := twi_index hs
  obtain ⟨j, g1, g2, g3, g4⟩ := asc_count (modL_asc zs) (by omega)
  rw [hlen] at g1 g2 g3 g4
  have hj := Lib.idxOf_hit _ _ _ _ g1 (by omega) g2 g3
  have hij : i = j := by
    have : ((i : Int)) = (j : Int) := h2.symm.trans hj
    omega
  unfold cntM twiI
  rw [hs, show (modL zs)[zs.length - 1]?.getD 0 = (modL zs).getD (zs.length - 1) 0 by simp, List.take_of_length_le (by omega)]
  show _ = (twF zs zs.length).2
  rw [h3, g4, hij]
  omega
end Go.Proofs.YtcokcnpnemhdfaaDoor
