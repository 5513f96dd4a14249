/- The model's holes. -/
import Derived.Test.YtnmlljhgilpocaaDoorMgD
import Derived.Test.YtnmlljhgilpocaaDoorMathA
namespace Go.Proofs.YtnmlljhgilpocaaDoor
open Go.RowKit
/-- the holes below k -/
def holK (zs : List Cl) : Nat → List Int
  | 0 => []
  | k + 1 => bif cntN zs k == 0 then holK zs k ++ [(k : Int)] else holK zs k
def holL (zs : List Cl) : List Int := holK zs (perI zs).toNat
def holR (zs : List Cl) : List Int := bif sysB zs then holL zs else []
theorem holR_t {zs : List Cl} (h : sysB zs = true) : holR zs = holL zs := by simp [holR, h]
theorem holR_f {zs : List Cl} (h : sysB zs = false) : holR zs = [] := by simp [holR, h]
theorem holK_le (zs : List Cl) (k : Nat) : (holK zs k).length ≤ k := by
  induction k with
  | zero => simp [holK]
  | succ k ih =>
    simp only [holK]
    cases cntN zs k == 0
    · simp only [cond_false]; omega
    · simp only [cond_true, List.length_append, List.length_singleton]; omega
theorem holR_le (zs : List Cl) : (holR zs).length ≤ 1000 := by
  cases h : sysB zs
  · simp [holR_f h]
  · rw [holR_t h]
    obtain ⟨_, _, _, _, _, h2⟩ := sysB_facts h
    have := holK_le zs (perI zs).toNat
    unfold holL
    omega
end Go.Proofs.YtnmlljhgilpocaaDoor
namespace Go.Proofs.YtnmlljhgilpocaaDoor
open Go.RowKit
def MaxPost (zs : List Int) (n : Nat) (w : World) (e : Ending) (w' : World) : Prop := ∃ M, e = .returned (.int .i64 M) ∧ (M ≤ 1 ↔ ∀ j, j < n → zs[j]?.getD 0 ≤ 1) ∧ w = w'
theorem max_step {zs : List Int} {k : Nat} {M : Int} (h : M ≤ 1 ↔ ∀ j, j < k → zs[j]?.getD 0 ≤ 1) : ((if M < zs[k]?.getD 0 then zs[k]?.getD 0 else M) ≤ 1 ↔ ∀ j, j < k + 1 → zs[j]?.getD 0 ≤ 1) := by
  constructor
  · intro hm j hj
    by_cases e : j = k
    · subst e; split at hm <;> omega
    · exact h.1 (by split at hm <;> omega) j (by omega)
  · intro hj
    have h1 := h.2 fun j hjk => hj j (by omega)
    have h2 := hj k (by omega)
    split <;> omega
theorem timL_get {zs : List Cl} {P : Nat} (hP : perI zs = (P : Int)) (j : Nat) (h : j < P) : (timL zs)[j]?.getD 0 = cntN zs j := by simp [timL, hP, h]
theorem apa_no {zs : List Cl} {i j : Nat} (hi : i < zs.length) (hj : j < i) (h : pairB zs i j = true) : apaB zs = false := by
  cases ha : apaB zs
  · rfl
  · have := of_decide_eq_true (show decide _ = true from ha) i hi j hj
    rw [h] at this; cases this
end Go.Proofs.YtnmlljhgilpocaaDoor
