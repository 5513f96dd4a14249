/- Chapter 7 in plain: the classes of a second tile are a system, and apart. -/
import Derived.Test.YtlgekggbanjmaaaMathTa
import Derived.Test.YtlgekggbanjmaaaMathA
import Derived.Test.YtlgekggbanjmaaaS2
namespace Go.Proofs.Ytlgekggbanjmaaa
open Go.RowKit
theorem lcmI_self {n : Int} (h : 1 ≤ n) : lcmI n n = n := by
  obtain ⟨x, rfl⟩ := Int.eq_ofNat_of_zero_le (show 0 ≤ n by omega)
  rw [lcmI_nat, Nat.lcm_self]
theorem lcmI_one {n : Int} (h : 1 ≤ n) : lcmI 1 n = n := by
  obtain ⟨x, rfl⟩ := Int.eq_ofNat_of_zero_le (show 0 ≤ n by omega)
  have := lcmI_nat 1 x
  rw [Nat.lcm_one_left] at this
  exact this
theorem inB_tsy {n x : Int} (n1 : 1 ≤ n) (n2 : n ≤ 24) (h : 0 ≤ x ∧ x ≤ n - 1) : inB x n = true := inB_iff.2 ⟨n1, by omega, h.1, by omega⟩
theorem perO_same {n : Int} (n1 : 1 ≤ n) (n2 : n ≤ 24) : ∀ b : List Int, (∀ x ∈ b, 0 ≤ x ∧ x ≤ n - 1) → perO n (tsyL n b) = some n
  | [], _ => rfl
  | x :: t, h => by
    show (if inB x n = true ∧ lcmI n n ≤ 1000 then perO (lcmI n n) (tsyL n t) else none) = some n
    rw [lcmI_self n1, if_pos ⟨inB_tsy n1 n2 (h x (by simp)), by omega⟩]
    exact perO_same n1 n2 t fun y hy => h y (by simp [hy])
theorem perO_tsy {n : Int} {b : List Int} (hT : Til n b) : perO 1 (tsyL n b) = some n := by
  obtain ⟨n1, n2, hne, _, hx⟩ := hT
  cases b with
  | nil => exact absurd rfl hne
  | cons x t =>
    show (if inB x n = true ∧ lcmI 1 n ≤ 1000 then perO (lcmI 1 n) (tsyL n t) else none) = some n
    rw [lcmI_one n1, if_pos ⟨inB_tsy n1 n2 (hx x (by simp)), by omega⟩]
    exact perO_same n1 n2 t fun y hy => hx y (by simp [hy])
theorem tsyL_length (n : Int) (b : List Int) : (tsyL n b).length = b.length := by simp [tsyL]
theorem sysB_tsy {n : Int} {b : List Int} (hT : Til n b) (h8 : b.length ≤ 8) : sysB (tsyL n b) = true :=
  sysB_t (q := n) (by rw [tsyL_length]; exact ⟨hT.len.1, h8⟩) (perO_tsy hT)
theorem perI_tsy {n : Int} {b : List Int} (hT : Til n b) : perI (tsyL n b) = n := by simp [perI, perO_tsy hT]
theorem rAt_tsy {n : Int} {b : List Int} (i : Nat) (hi : i < b.length) : rAt (tsyL n b) i = gZ b i ∧ mAt (tsyL n b) i = n := by
  simp [rAt, mAt, tsyL, gZ, hi]
theorem shrI_tsy {n : Int} {b : List Int} (hT : Til n b) : shrI (tsyL n b) = (b.length : Int) := by
  unfold shrI
  rw [perI_tsy hT, tsyL_length]
  have : ∀ k, k ≤ b.length → shrK n (tsyL n b) k = (k : Int) := by
    intro k
    induction k with
    | zero => intro _; rfl
    | succ k ih =>
      intro hk
      rw [shrK, ih (by omega), (rAt_tsy k (by omega)).2, Int.ediv_self (by have := hT.1; omega)]
      omega
  exact this _ (Nat.le_refl _)
theorem aprB_tsy {n : Int} {b : List Int} (hT : Til n b) (h8 : b.length ≤ 8) : aprB (tsyL n b) = true := by
  unfold aprB
  rw [sysB_tsy hT h8, Bool.true_and]
  unfold apaB
  refine decide_eq_true fun i hi j hj => ?_
  cases hp : pairB (tsyL n b) i j
  · rfl
  · obtain ⟨x, _, h1, h2⟩ := (pair_iff (sysB_tsy hT h8) hi (by omega)).1 hp
    rw [tsyL_length] at hi
    rw [(rAt_tsy i hi).1, (rAt_tsy i hi).2] at h1
    rw [(rAt_tsy j (by omega)).1, (rAt_tsy j (by omega)).2] at h2
    have := asc_lt hT.2.2.2.1 hj hi
    omega
end Go.Proofs.Ytlgekggbanjmaaa
