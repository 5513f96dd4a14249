/- Numbers told by rests: digits, one by one; no function of the program is named here. -/
import Derived.Test.YtnbejgbkabaleaaMathB
namespace Go.Proofs.Ytnbejgbkabaleaa
open Go.RowKit
/-- a modulus at a place -/
def MB (a : Int) : Prop := 1 ≤ a ∧ a ≤ 30
theorem mulb {x y B C : Int} (h1 : 0 ≤ x) (h2 : x ≤ B) (h3 : 0 ≤ y) (h4 : y ≤ C) : 0 ≤ x * y ∧ x * y ≤ B * C :=
  ⟨Int.mul_nonneg h1 h3, Int.mul_le_mul h2 h4 h3 (by omega)⟩
theorem mulb1 {x y B C : Int} (h1 : 1 ≤ x) (h2 : x ≤ B) (h3 : 1 ≤ y) (h4 : y ≤ C) : 1 ≤ x * y ∧ x * y ≤ B * C :=
  ⟨Int.mul_pos (by omega) (by omega), Int.mul_le_mul h2 h4 (by omega) (by omega)⟩
theorem size_bd {a b c d : Int} (ha : MB a) (hb : MB b) (hc : MB c) (hd : MB d) : (1 ≤ a * b ∧ a * b ≤ 900) ∧ (1 ≤ a * b * c ∧ a * b * c ≤ 27000) ∧ (1 ≤ a * b * c * d ∧ a * b * c * d ≤ 810000) := by
  have h1 := mulb1 ha.1 ha.2 hb.1 hb.2
  have h2 := mulb1 h1.1 h1.2 hc.1 hc.2
  have h3 := mulb1 h2.1 h2.2 hd.1 hd.2
  omega
/-- the product of the first k -/
def pK (a b c d : Int) : Nat → Int
  | 0 => 1
  | 1 => a
  | 2 => a * b
  | 3 => a * b * c
  | _ => a * b * c * d
/-- one of four -/
def at4 (a b c d : Int) : Nat → Int
  | 0 => a
  | 1 => b
  | 2 => c
  | _ => d
theorem pK_succ (a b c d : Int) (k : Nat) (hk : k < 4) : pK a b c d (k + 1) = pK a b c d k * at4 a b c d k := by
  rcases (show k = 0 ∨ k = 1 ∨ k = 2 ∨ k = 3 by omega) with rfl | rfl | rfl | rfl
  · simp [pK, at4]
  · rfl
  · rfl
  · rfl
theorem pK_bd {a b c d : Int} (ha : MB a) (hb : MB b) (hc : MB c) (hd : MB d) (k : Nat) (hk : k ≤ 4) : 1 ≤ pK a b c d k ∧ pK a b c d k ≤ 810000 := by
  obtain ⟨h1, h2, h3⟩ := size_bd ha hb hc hd
  obtain ⟨h4, h5⟩ := ha
  rcases (show k = 0 ∨ k = 1 ∨ k = 2 ∨ k = 3 ∨ k = 4 by omega) with rfl | rfl | rfl | rfl | rfl
  · simp [pK]
  · simp only [pK]; omega
  · simp only [pK]; omega
  · simp only [pK]; omega
  · simp only [pK]; omega
theorem at4_mb {a b c d : Int} (ha : MB a) (hb : MB b) (hc : MB c) (hd : MB d) (k : Nat) : MB (at4 a b c d k) := by
  unfold at4
  split <;> assumption
/-- the first of k numbers from t on that leads to the rest r -/
def digS (v p m r : Int) : Nat → Int → Int
  | 0, t => t
  | k + 1, t => bif (v + t * p) % m == r then t else digS v p m r k (t + 1)
def dig (v p m r : Int) : Int := digS v p m r m.toNat 0
theorem digS_spec {v p m r t0 : Int} (h0 : (v + t0 * p) % m = r) (k : Nat) (t : Int) (h1 : t ≤ t0) (h2 : t0 < t + k) :
    t ≤ digS v p m r k t ∧ digS v p m r k t ≤ t0 ∧ (v + digS v p m r k t * p) % m = r ∧ ∀ s, t ≤ s → s < digS v p m r k t → (v + s * p) % m ≠ r := by
  induction k generalizing t with
  | zero => omega
  | succ k ih =>
    simp only [digS]
    by_cases h : (v + t * p) % m = r
    · simp only [h, beq_self_eq_true, cond_true]
      exact ⟨Int.le_refl _, h1, by trivial, fun s a b => by omega⟩
    · have hb : ((v + t * p) % m == r) = false := by simpa using h
      simp only [hb, cond_false]
      have hne : t ≠ t0 := fun e => h (e ▸ h0)
      obtain ⟨i1, i2, i3, i4⟩ := ih (t + 1) (by omega) (by omega)
      refine ⟨by omega, i2, i3, fun s a b => ?_⟩
      by_cases e : s = t
      · rw [e]; exact h
      · exact i4 s (by omega) b
theorem inv30 : ∀ m < 31, ∀ p < 31, 1 ≤ m → Nat.gcd p m = 1 → ∃ u < 31, u * p % m = 1 % m := by decide +kernel
theorem dig_ok {v p m r : Int} (hm : MB m) (hp : 0 ≤ p) (hg : Nat.gcd p.toNat m.toNat = 1) (h0 : 0 ≤ r) (h1 : r < m) :
    (0 ≤ dig v p m r ∧ dig v p m r < m) ∧ (v + dig v p m r * p) % m = r ∧ ∀ s, 0 ≤ s → s < dig v p m r → (v + s * p) % m ≠ r := by
  obtain ⟨m1, m2⟩ := hm
  obtain ⟨M, rfl⟩ := Int.eq_ofNat_of_zero_le (show 0 ≤ m by omega)
  obtain ⟨P, rfl⟩ := Int.eq_ofNat_of_zero_le hp
  simp only [Int.toNat_natCast] at hg
  have hg2 : Nat.gcd (P % M) M = 1 := by rw [← Nat.gcd_rec, Nat.gcd_comm]; exact hg
  obtain ⟨u, _, hu⟩ := inv30 M (by omega) (P % M) (by have := Nat.mod_lt P (show 0 < M by omega); omega) (by omega) hg2
  have hu2 : ((u : Int) * P) % M = 1 % M := by
    rw [← Int.natCast_mul, ← Int.natCast_emod, Nat.mul_mod]
    rw [Nat.mul_mod] at hu
    rw [Nat.mod_mod] at hu
    rw [hu]; rfl
  have hs : (v + ((r - v) * u) % M * P) % M = r := by
    have e1 : (v + ((r - v) * u) % M * P) % M = (v + (r - v) * u * P) % M := by
      rw [Int.add_emod, Int.mul_emod, Int.emod_emod_of_dvd _ (Int.dvd_refl _), ← Int.mul_emod, ← Int.add_emod]
    have e2 : (v + (r - v) * u * P) % M = (v + (r - v)) % M := by
      rw [Int.mul_assoc, Int.add_emod, Int.mul_emod, hu2, ← Int.mul_emod, ← Int.add_emod, Int.mul_one]
    rw [e1, e2, show v + (r - v) = r by omega]
    exact Int.emod_eq_of_lt h0 h1
  have hb := emod_bd ((r - v) * u) M m1
  obtain ⟨a1, a2, a3, a4⟩ := digS_spec (p := (P : Int)) hs M 0 hb.1 (by omega)
  unfold dig
  rw [Int.toNat_natCast]
  exact ⟨⟨a1, by omega⟩, a3, a4⟩
/-- the number of the first k digits -/
def numK (a b c d p q r t : Int) : Nat → Int
  | 0 => 0
  | k + 1 => numK a b c d p q r t k + dig (numK a b c d p q r t k) (pK a b c d k) (at4 a b c d k) (at4 p q r t k) * pK a b c d k
/-- a digit -/
def digK (a b c d p q r t : Int) (k : Nat) : Int := dig (numK a b c d p q r t k) (pK a b c d k) (at4 a b c d k) (at4 p q r t k)
theorem numK_succ (a b c d p q r t : Int) (k : Nat) : numK a b c d p q r t (k + 1) = numK a b c d p q r t k + digK a b c d p q r t k * pK a b c d k := rfl
/-- no two have a common divisor -/
def Cop (a b c d : Int) : Prop := ∀ k, k < 4 → Nat.gcd (pK a b c d k).toNat (at4 a b c d k).toNat = 1
/-- rests of them -/
def Rts (a b c d p q r t : Int) : Prop := ∀ k, k < 4 → 0 ≤ at4 p q r t k ∧ at4 p q r t k < at4 a b c d k
structure Sys (a b c d p q r t : Int) : Prop where
  ha : MB a
  hb : MB b
  hc : MB c
  hd : MB d
  cop : Cop a b c d
  rts : Rts a b c d p q r t
theorem Sys.dig {a b c d p q r t : Int} (h : Sys a b c d p q r t) (k : Nat) (hk : k < 4) :
    (0 ≤ digK a b c d p q r t k ∧ digK a b c d p q r t k < at4 a b c d k) ∧ (numK a b c d p q r t k + digK a b c d p q r t k * pK a b c d k) % at4 a b c d k = at4 p q r t k ∧
      ∀ s, 0 ≤ s → s < digK a b c d p q r t k → (numK a b c d p q r t k + s * pK a b c d k) % at4 a b c d k ≠ at4 p q r t k := by
  have hp := pK_bd h.ha h.hb h.hc h.hd k (by omega)
  exact dig_ok (at4_mb h.ha h.hb h.hc h.hd k) (by omega) (h.cop k hk) (h.rts k hk).1 (h.rts k hk).2
theorem Sys.num {a b c d p q r t : Int} (h : Sys a b c d p q r t) (k : Nat) (hk : k ≤ 4) : 0 ≤ numK a b c d p q r t k ∧ numK a b c d p q r t k < pK a b c d k := by
  induction k with
  | zero => simp [numK, pK]
  | succ k ih =>
    obtain ⟨i1, i2⟩ := ih (by omega)
    obtain ⟨⟨d1, d2⟩, _⟩ := h.dig k (by omega)
    have hp := pK_bd h.ha h.hb h.hc h.hd k (by omega)
    rw [numK_succ, pK_succ a b c d k (by omega)]
    have h1 := Int.mul_nonneg d1 (show 0 ≤ pK a b c d k by omega)
    have h2 : digK a b c d p q r t k * pK a b c d k ≤ (at4 a b c d k - 1) * pK a b c d k := Int.mul_le_mul_of_nonneg_right (by omega) (by omega)
    rw [Int.sub_mul, Int.one_mul, Int.mul_comm (at4 a b c d k)] at h2
    omega
theorem Sys.split {a b c d p q r t : Int} (h : Sys a b c d p q r t) (j k : Nat) (hk : k + j = 4) :
    numK a b c d p q r t 4 = numK a b c d p q r t k + pK a b c d k * (numK a b c d p q r t 4 / pK a b c d k) := by
  have hq : ∀ k, k ≤ 4 → ∀ X : Int, (numK a b c d p q r t k + pK a b c d k * X) / pK a b c d k = X := fun k hk X => by
    have hp := pK_bd h.ha h.hb h.hc h.hd k hk
    have hn := h.num k hk
    rw [Int.add_mul_ediv_left _ _ (by omega), Int.ediv_eq_zero_of_lt hn.1 hn.2, Int.zero_add]
  induction j generalizing k with
  | zero =>
    obtain rfl : k = 4 := by omega
    have hn := h.num 4 (by omega)
    rw [Int.ediv_eq_zero_of_lt hn.1 hn.2, Int.mul_zero, Int.add_zero]
  | succ j ih =>
    have i := ih (k + 1) (by omega)
    rw [numK_succ a b c d p q r t k, pK_succ a b c d k (by omega)] at i
    generalize numK a b c d p q r t 4 / (pK a b c d k * at4 a b c d k) = X at i
    have e : numK a b c d p q r t 4 = numK a b c d p q r t k + pK a b c d k * (digK a b c d p q r t k + at4 a b c d k * X) := by
      rw [i, Int.mul_add, Int.mul_comm (pK a b c d k) (digK a b c d p q r t k), Int.mul_assoc, Int.add_assoc]
    generalize numK a b c d p q r t 4 = Z at *
    rw [e, hq k (by omega)]
theorem Sys.quo {a b c d p q r t : Int} (h : Sys a b c d p q r t) (k : Nat) (hk : k < 4) :
    numK a b c d p q r t 4 / pK a b c d k % at4 a b c d k = digK a b c d p q r t k ∧ numK a b c d p q r t 4 / pK a b c d k / at4 a b c d k = numK a b c d p q r t 4 / pK a b c d (k + 1) := by
  have i := h.split (4 - (k + 1)) (k + 1) (by omega)
  have hp := pK_bd h.ha h.hb h.hc h.hd k (by omega)
  have hn := h.num k (by omega)
  obtain ⟨⟨d1, d2⟩, _⟩ := h.dig k hk
  have hm := at4_mb h.ha h.hb h.hc h.hd k
  generalize hX : numK a b c d p q r t 4 / pK a b c d (k + 1) = X at *
  rw [numK_succ a b c d p q r t k, pK_succ a b c d k hk] at i
  have e : numK a b c d p q r t 4 / pK a b c d k = digK a b c d p q r t k + at4 a b c d k * X := by
    rw [i, show numK a b c d p q r t k + digK a b c d p q r t k * pK a b c d k + pK a b c d k * at4 a b c d k * X = numK a b c d p q r t k + pK a b c d k * (digK a b c d p q r t k + at4 a b c d k * X) by
      rw [Int.mul_add, Int.mul_comm (pK a b c d k) (digK a b c d p q r t k), Int.mul_assoc, Int.add_assoc], Int.add_mul_ediv_left _ _ (by omega), Int.ediv_eq_zero_of_lt hn.1 hn.2, Int.zero_add]
  rw [e, Int.add_mul_emod_self_left, Int.emod_eq_of_lt d1 d2, Int.add_mul_ediv_left _ _ (by have := hm.1; omega), Int.ediv_eq_zero_of_lt d1 d2, Int.zero_add]
  exact ⟨rfl, rfl⟩
end Go.Proofs.Ytnbejgbkabaleaa
