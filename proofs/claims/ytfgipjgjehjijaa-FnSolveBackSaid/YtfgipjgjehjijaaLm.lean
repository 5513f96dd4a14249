/- Who has an order has no common divisor with the modulus (own text). -/
import Derived.Test.YtfgipjgjehjijaaKw
namespace Go.Proofs.Ytfgipjgjehjijaa
open Go

theorem ordN_some (m f : Int) : ∀ (n : Nat) (q k : Int), 1 ≤ k → ordN m f n q k ≠ 0 → ∃ y : Int, y * f % m = 1 % m
  | 0, _, _, _, h => absurd rfl h
  | n + 1, q, k, hk, h => by
    simp only [ordN] at h
    split at h
    · rename_i e
      exact ⟨q, e⟩
    · exact ordN_some m f n _ (k + 1) (by omega) h
theorem ord_gcd {a m : Int} (ha : 0 ≤ a) (hm : 1 ≤ m) (h : ordX a m ≠ 0) : gcdI a m = 1 := by
  obtain ⟨y, hy⟩ := ordN_some m (a % m) m.toNat (1 % m) 1 (by omega) h
  have d1 : gcdI a m ∣ a := by
    have := Nat.gcd_dvd_left a.toNat m.toNat
    have e : (a.toNat : Int) = a := Int.toNat_of_nonneg ha
    have h2 : gcdI a m ∣ (a.toNat : Int) := Int.ofNat_dvd.2 this
    rw [e] at h2
    exact h2
  have d2 : gcdI a m ∣ m := by
    have := Nat.gcd_dvd_right a.toNat m.toNat
    have e : (m.toNat : Int) = m := Int.toNat_of_nonneg (by omega)
    have h2 : gcdI a m ∣ (m.toNat : Int) := Int.ofNat_dvd.2 this
    rw [e] at h2
    exact h2
  have d3 : gcdI a m ∣ a % m := by
    rw [Int.emod_def]
    exact Int.dvd_sub d1 (Int.dvd_mul_of_dvd_left d2)
  have d4 : m ∣ y * (a % m) - 1 := Int.dvd_of_emod_eq_zero (Int.emod_eq_emod_iff_emod_sub_eq_zero.1 hy)
  have d5 : gcdI a m ∣ 1 := by
    have h1 : gcdI a m ∣ y * (a % m) := Int.dvd_mul_of_dvd_right d3
    have h2 : gcdI a m ∣ y * (a % m) - 1 := Int.dvd_trans d2 d4
    have := Int.dvd_sub h1 h2
    have e : y * (a % m) - (y * (a % m) - 1) = 1 := by omega
    rwa [e] at this
  have h0 : 0 ≤ gcdI a m := by simp [gcdI]
  exact Int.eq_one_of_dvd_one h0 d5
theorem unQ_pos {m : Int} (hm : 1 ≤ m) : 1 ≤ unQ m := by
  obtain ⟨k, hk⟩ : ∃ k, m.toNat = k + 1 := ⟨m.toNat - 1, by omega⟩
  have h1 : ∀ k : Nat, 1 ≤ unK m (k + 1) := by
    intro k
    induction k with
    | zero =>
      have : gcdI 1 m = 1 := by simp [gcdI]
      simp [unK, this]
    | succ k ih =>
      rw [unK]
      split <;> omega
  unfold unQ
  rw [hk]
  exact h1 k
/-- what the program's search finds: its test asks for the order alone -/
theorem rootA_ord {m : Int} (hm : 1 ≤ m) (x : Int) (hx : 0 ≤ x) : (gcdI x m = 1 ∧ ordX x m = unQ m) ↔ ordX x m = unQ m :=
  ⟨fun h => h.2, fun h => ⟨ord_gcd hx hm (by have := unQ_pos hm; omega), h⟩⟩
end Go.Proofs.Ytfgipjgjehjijaa
