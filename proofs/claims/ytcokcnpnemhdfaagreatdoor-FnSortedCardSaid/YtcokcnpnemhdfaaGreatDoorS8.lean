/- Contracts of SystemApart, in the program (by the greatest count) and in the model (by each two classes). -/
import Derived.Test.YtcokcnpnemhdfaaGreatDoorS7
import Derived.Test.YtcokcnpnemhdfaaGreatDoorMathA
namespace Go.Proofs.YtcokcnpnemhdfaaGreatDoor
open Go.RowKit
def MaxPost (zs : List Int) (n : Nat) (w : World) (e : Ending) (w' : World) : Prop := ∃ M, e = .returned (.int .i64 M) ∧ (M ≤ 1 ↔ ∀ j, j < n → zs[j]?.getD 0 ≤ 1) ∧ w = w'
theorem max_step {zs : List Int} {k : Nat} {M : Int} (h : M ≤ 1 ↔ ∀ j, j < k → zs[j]?.getD 0 ≤ 1) : ((if M < zs[k]?.getD 0 then zs[k]?.getD 0 else M) ≤ 1 ↔ ∀ j, j < k + 1 → zs[j]?.getD 0 ≤ 1) := by
  constructor
  · intro hm j hj
    by_cases e : j = k
    · subst e; split at hm <;> omega
    · exact h.1 (by split at hm <;> omega) j (by omega)
  · intro hj
    have h1 := h.2 fun j hjk => hj j (by omega)
    have h2 := hj k (by omega)
    split <;> omega
theorem timL_get {zs : List Cl} {P : Nat} (hP : perI zs = (P : Int)) (j : Nat) (h : j < P) : (timL zs)[j]?.getD 0 = cntN zs j := by simp [timL, hP, h]
theorem apa_no {zs : List Cl} {i j : Nat} (hi : i < zs.length) (hj : j < i) (h : pairB zs i j = true) : apaB zs = false := by
  cases ha : apaB zs
  · rfl
  · have := of_decide_eq_true (show decide _ = true from ha) i hi j hj
    rw [h] at this; cases this
end Go.Proofs.YtcokcnpnemhdfaaGreatDoor
