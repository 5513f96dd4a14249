/- Facts of numbers that go back, at small moduli (own text). -/
import Derived.Test.YtfgipjgjehjijaaMsb
namespace Go.Proofs.Ytfgipjgjehjijaa
open Go

def bkP (m r z : Int) : Bool := (r * z - 1) % m == 0
def bkX (m r : Int) : Int := fndX (bkP m r) (m / gcdI r m).toNat 0
def bkB (m r : Int) : Bool := fndB (bkP m r) (m / gcdI r m).toNat 0
def bkO (m r : Int) : Int := ordN m r m.toNat (1 % m) 1
def bkCk (m r : Int) : Bool :=
  !bkB m r || (decide (0 ≤ bkX m r) && decide (bkX m r < m) && bkB m (bkX m r) && bkX m (bkX m r) == r && bkO m r == bkO m (bkX m r) && bkO m r != 0 && r * bkX m r % m == 1 % m)
theorem bkCk_all : ((List.range 21).all fun m => m == 0 || (List.range m).all fun r => bkCk (m : Int) (r : Int)) = true := by decide +kernel
theorem lin_bk (a m : Int) : linB a 1 m = bkB m (a % m) ∧ linX a 1 m = bkX m (a % m) ∧ ordX a m = bkO m (a % m) := ⟨rfl, rfl, rfl⟩
theorem back_facts {a m : Int} (h1 : 1 ≤ m) (hm : m ≤ 20) (h : linB a 1 m = true) : 0 ≤ linX a 1 m ∧ linX a 1 m < m ∧ linB (linX a 1 m) 1 m = true ∧ linX (linX a 1 m) 1 m = a % m ∧ ordX a m = ordX (linX a 1 m) m ∧ ordX a m ≠ 0 ∧ a * linX a 1 m % m = 1 % m := by
  obtain ⟨M, rfl⟩ := Int.eq_ofNat_of_zero_le (show 0 ≤ m by omega)
  obtain ⟨r, hr⟩ := Int.eq_ofNat_of_zero_le (Int.emod_nonneg a (show ((M : Nat) : Int) ≠ 0 by omega))
  have hlt := Int.emod_lt_of_pos a (show 0 < ((M : Nat) : Int) by omega)
  have k1 := List.all_eq_true.1 bkCk_all M (List.mem_range.2 (by omega))
  have k2 : (List.range M).all (fun r => bkCk (M : Int) (r : Int)) = true := by
    have : (M == 0) = false := by simp; omega
    simpa [this] using k1
  have k3 := List.all_eq_true.1 k2 r (List.mem_range.2 (by omega))
  have hmul : a * linX a 1 (M : Int) % (M : Int) = (a % (M : Int)) * linX a 1 (M : Int) % (M : Int) := (Int.mul_emod a _ _).trans (by rw [Int.mul_emod (a % (M : Int)) (linX a 1 (M : Int)) (M : Int), Int.emod_emod])
  rw [hmul]
  obtain ⟨e1, e2, e3⟩ := lin_bk a (M : Int)
  rw [e1] at h
  rw [e2, e3]
  obtain ⟨f1, f2, f3⟩ := lin_bk (bkX (M : Int) (a % (M : Int))) (M : Int)
  rw [f1, f2, f3]
  rw [hr] at h ⊢
  unfold bkCk at k3
  simp only [h, Bool.not_true, Bool.false_or, Bool.and_eq_true, decide_eq_true_eq, beq_iff_eq, bne_iff_ne] at k3
  obtain ⟨⟨⟨⟨⟨⟨a1, a2⟩, a3⟩, a4⟩, a5⟩, a6⟩, a7⟩ := k3
  have hmod : bkX (M : Int) (r : Int) % (M : Int) = bkX (M : Int) (r : Int) := Int.emod_eq_of_lt a1 a2
  rw [hmod]
  exact ⟨a1, a2, a3, a4, a5, a6, a7⟩
/-- what Go's remainder of the product is -/
theorem prod_rem {z m : Int} (h1 : 1 < m) (h : z % m = 1) : z.tmod m = 1 ∨ z.tmod m = 1 - m := by
  rcases Int.le_total 0 z with hz | hz
  · left
    rw [Int.tmod_eq_emod_of_nonneg hz, h]
  · right
    have e : z.tmod m = -((-z).tmod m) := by rw [Int.neg_tmod]; simp
    rw [e, Int.tmod_eq_emod_of_nonneg (show 0 ≤ -z by omega)]
    have h2 := Int.emod_nonneg (-z) (show m ≠ 0 by omega)
    have h3 := Int.emod_lt_of_pos (-z) (show 0 < m by omega)
    have h4 := Int.emod_add_mul_ediv (-z) m
    have h5 := Int.emod_add_mul_ediv z m
    have h6 : m ∣ (-z) % m + 1 := by
      refine ⟨- (z / m) - (-z) / m, ?_⟩
      rw [Int.mul_sub, Int.mul_neg]
      omega
    obtain ⟨q, hq⟩ := h6
    have h7 : (-z) % m + 1 = m := by
      have q1 : 0 < m * q := by omega
      have q2 : m * q ≤ m := by omega
      have q3 : 0 < q := by
        rcases Int.lt_or_le 0 q with h' | h'
        · exact h'
        · have := Int.mul_le_mul_of_nonneg_left h' (show 0 ≤ m by omega)
          rw [Int.mul_zero] at this
          omega
      have q4 : m * 1 ≤ m * q := Int.mul_le_mul_of_nonneg_left (by omega) (by omega)
      omega
    omega
end Go.Proofs.Ytfgipjgjehjijaa
