/- Chapter 6, plain facts: the first number with a property, lines, squares, powers. -/
import Derived.Test.YtcfkppfnkecnjaaE1
namespace Go.Proofs.Ytcfkppfnkecnjaa
open Go.RowKit
/-- is there one with p among the n numbers from x on -/
def fndB (p : Int → Bool) : Nat → Int → Bool
  | 0, _ => false
  | n + 1, x => p x || fndB p n (x + 1)
/-- the first of them -/
def fndX (p : Int → Bool) : Nat → Int → Int
  | 0, _ => 0
  | n + 1, x => bif p x then x else fndX p n (x + 1)
theorem fndB_hit {p : Int → Bool} {n : Nat} {x : Int} (h : p x = true) : fndB p (n + 1) x = true := by simp [fndB, h]
theorem fndX_hit {p : Int → Bool} {n : Nat} {x : Int} (h : p x = true) : fndX p (n + 1) x = x := by simp [fndX, h]
theorem fndB_miss {p : Int → Bool} {n : Nat} {x : Int} (h : p x = false) : fndB p (n + 1) x = fndB p n (x + 1) := by simp [fndB, h]
theorem fndX_miss {p : Int → Bool} {n : Nat} {x : Int} (h : p x = false) : fndX p (n + 1) x = fndX p n (x + 1) := by simp [fndX, h]
theorem fnd_yes {p : Int → Bool} : ∀ (n : Nat) (x : Int), fndB p n x = true → p (fndX p n x) = true ∧ x ≤ fndX p n x ∧ fndX p n x < x + n ∧ ∀ y, x ≤ y → y < fndX p n x → p y = false
  | 0, _, h => by simp [fndB] at h
  | n + 1, x, h => by
    cases hp : p x with
    | true =>
      rw [fndX_hit hp]
      exact ⟨hp, by omega, by omega, fun y h1 h2 => by omega⟩
    | false =>
      rw [fndB_miss hp] at h
      rw [fndX_miss hp]
      obtain ⟨a, b, c, d⟩ := fnd_yes n (x + 1) h
      refine ⟨a, by omega, by omega, fun y h1 h2 => ?_⟩
      by_cases e : y = x
      · rw [e]; exact hp
      · exact d y (by omega) h2
theorem fnd_no {p : Int → Bool} : ∀ (n : Nat) (x : Int), fndB p n x = false → ∀ y, x ≤ y → y < x + n → p y = false
  | 0, _, _, y, h1, h2 => by omega
  | n + 1, x, h, y, h1, h2 => by
    cases hp : p x with
    | true => rw [fndB_hit hp] at h; cases h
    | false =>
      rw [fndB_miss hp] at h
      by_cases e : y = x
      · rw [e]; exact hp
      · exact fnd_no n (x + 1) h y (by omega) (by omega)
/-- what is left to be looked through: the search from x on, up to N -/
theorem fnd_of {p : Int → Bool} {n : Nat} {x : Int} (h : fndB p n x = false) : fndX p n x = 0 := by
  induction n generalizing x with
  | zero => rfl
  | succ n ih =>
    cases hp : p x with
    | true => rw [fndB_hit hp] at h; cases h
    | false =>
      rw [fndB_miss hp] at h
      rw [fndX_miss hp]
      exact ih h
/-! a line -/
def linN (a m : Int) : Int := m / gcdI (a % m) m
def linP (a b m x : Int) : Bool := (a % m * x - b) % m == 0
def linB (a b m : Int) : Bool := fndB (linP a b m) (linN a m).toNat 0
def linX (a b m : Int) : Int := fndX (linP a b m) (linN a m).toNat 0
theorem gcd_bd2 {a b : Int} (ha : 0 ≤ a) (hb : 1 ≤ b) : 1 ≤ gcdI a b ∧ gcdI a b ≤ b ∧ gcdI a b ∣ a ∧ gcdI a b ∣ b := by
  obtain ⟨x, rfl⟩ := Int.eq_ofNat_of_zero_le ha
  obtain ⟨y, rfl⟩ := Int.eq_ofNat_of_zero_le (show 0 ≤ b by omega)
  unfold gcdI
  simp only [Int.toNat_natCast]
  have h1 := Nat.gcd_pos_of_pos_right x (show 0 < y by omega)
  have h2 := Nat.gcd_le_right x (show 0 < y by omega)
  exact ⟨by omega, by omega, Int.natCast_dvd_natCast.2 (Nat.gcd_dvd_left _ _), Int.natCast_dvd_natCast.2 (Nat.gcd_dvd_right _ _)⟩
theorem lin_bd {a m : Int} (m1 : 1 ≤ m) : 0 ≤ a % m ∧ a % m < m ∧ 1 ≤ gcdI (a % m) m ∧ gcdI (a % m) m ≤ m ∧ 1 ≤ linN a m ∧ linN a m ≤ m := by
  obtain ⟨h1, h2⟩ := emod_bd a m m1
  obtain ⟨g1, g2, _, g4⟩ := gcd_bd2 h1 m1
  have h6 : 1 ≤ linN a m := Int.le_ediv_of_mul_le (by omega) (by omega)
  have h7 := Int.ediv_le_self (gcdI (a % m) m) (show 0 ≤ m by omega)
  exact ⟨h1, h2, g1, g2, h6, h7⟩
def linO (a b m : Int) : Bool := numB a && modB m && numB b && linB a b m
theorem linO_cases (a b m : Int) : numB a = false ∨ (numB a = true ∧ modB m = false) ∨ (numB a = true ∧ modB m = true ∧ numB b = false) ∨ (numB a = true ∧ modB m = true ∧ numB b = true) := by
  cases numB a <;> cases modB m <;> cases numB b <;> simp
theorem linO_0 {a b m : Int} (h : numB a = false) : linO a b m = false := by simp [linO, h]
theorem linO_1 {a b m : Int} (h : modB m = false) : linO a b m = false := by simp [linO, h]
theorem linO_2 {a b m : Int} (h : numB b = false) : linO a b m = false := by simp [linO, h]
theorem linO_3 {a b m : Int} (h1 : numB a = true) (h2 : modB m = true) (h3 : numB b = true) : linO a b m = linB a b m := by simp [linO, h1, h2, h3]
/-- what the search over a line has still to do -/
theorem lin_go {a b m : Int} {n : Nat} {x : Int} (h : fndB (linP a b m) n x = linB a b m ∧ fndX (linP a b m) n x = linX a b m) (hn : n ≠ 0) :
    (linP a b m x = true → linB a b m = true ∧ linX a b m = x) ∧ (linP a b m x = false → fndB (linP a b m) (n - 1) (x + 1) = linB a b m ∧ fndX (linP a b m) (n - 1) (x + 1) = linX a b m) := by
  obtain ⟨k, rfl⟩ : ∃ k, n = k + 1 := ⟨n - 1, by omega⟩
  simp only [Nat.add_sub_cancel]
  refine ⟨fun hp => ?_, fun hp => ?_⟩
  · rw [fndB_hit hp, fndX_hit hp] at h
    exact ⟨h.1.symm, h.2.symm⟩
  · rw [fndB_miss hp, fndX_miss hp] at h
    exact h
theorem lin_end {a b m : Int} {x : Int} (h : fndB (linP a b m) 0 x = linB a b m ∧ fndX (linP a b m) 0 x = linX a b m) : linB a b m = false := h.1.symm
/-- a product of a rest and a number below a modulus stays in range -/
theorem lin_wrap {c x m : Int} (m2 : m ≤ 1000) (c0 : 0 ≤ c) (c1 : c < m) (x0 : 0 ≤ x) (x1 : x < m) : 0 ≤ c * x ∧ c * x ≤ 1000000 := by
  have h1 := Int.mul_nonneg c0 x0
  have h2 := Int.mul_le_mul (show c ≤ 1000 by omega) (show x ≤ 1000 by omega) x0 (by omega)
  omega
/-- what the two programs ask of a line's numbers -/
def nmsB (m a b : Int) : Bool := modB m && numB a && numB b
theorem nmsB_t {m a b : Int} (h1 : modB m = true) (h2 : numB a = true) (h3 : numB b = true) : nmsB m a b = true := by simp [nmsB, h1, h2, h3]
theorem nmsB_of {m a b : Int} (h : nmsB m a b = true) : modB m = true ∧ numB a = true ∧ numB b = true := by simpa [nmsB, and_assoc] using h
theorem nmsB_f {m a b : Int} (h : (numB a && modB m) = false) : nmsB m a b = false := by unfold nmsB; rw [Bool.and_comm (modB m), h]; rfl
/-! squares -/
def sqP (a m x : Int) : Bool := x * x % m == a % m
/-- the numbers from 0 to k - 1 with the square wanted -/
def sqL (a m : Int) (k : Nat) : List Int := ((List.range k).map (fun j : Nat => (j : Int))).filter (sqP a m)
theorem sqL_succ (a m : Int) (k : Nat) : sqL a m (k + 1) = sqL a m k ++ (bif sqP a m k then [(k : Int)] else []) := by
  simp only [sqL, List.range_succ, List.map_append, List.filter_append]
  cases h : sqP a m k <;> simp [h]
theorem sqL_yes {a m : Int} {k : Nat} (h : sqP a m k = true) : sqL a m (k + 1) = sqL a m k ++ [(k : Int)] := by rw [sqL_succ, h]; rfl
theorem sqL_no {a m : Int} {k : Nat} (h : sqP a m k = false) : sqL a m (k + 1) = sqL a m k := by rw [sqL_succ, h]; simp
theorem sqL_le (a m : Int) (k : Nat) : (sqL a m k).length ≤ k := by
  have := List.length_filter_le (sqP a m) ((List.range k).map (fun j : Nat => (j : Int)))
  simpa [sqL] using this
def sqB (a m : Int) : Bool := numB a && modB m
def sqR (a m : Int) : List Int := bif sqB a m then sqL a m m.toNat else []
theorem sq_rest {a m x : Int} (_m1 : 1 ≤ m) : ((x * x - a) % m == 0) = sqP a m x := by
  have : (x * x - a) % m = 0 ↔ x * x % m = a % m := (Int.emod_eq_emod_iff_emod_sub_eq_zero).symm
  unfold sqP
  rw [Bool.eq_iff_iff]
  simp [this]
/-! powers -/
theorem pow_emod {a m : Int} : ∀ k : Nat, (a % m) ^ k % m = a ^ k % m
  | 0 => by rw [Int.pow_zero, Int.pow_zero]
  | k + 1 => by rw [Int.pow_succ, Int.pow_succ, Int.mul_emod, pow_emod k, ← Int.mul_emod, Int.mul_emod (a ^ k) (a % m), Int.emod_emod, ← Int.mul_emod]
/-- what the rounds keep: out times square to the power of k is as said -/
def powK (out sq m r : Int) (k : Nat) : Prop := out * sq ^ k % m = r
theorem pow_even {out sq m r : Int} {k : Nat} (h : powK out sq m r (2 * k)) : powK out (sq * sq % m) m r k := by
  unfold powK at *
  rw [← h, Int.mul_emod, pow_emod, ← Int.mul_emod, Int.pow_mul, show sq ^ 2 = sq * sq by rw [Int.pow_succ, Int.pow_succ, Int.pow_zero, Int.one_mul]]
theorem pow_odd {out sq m r : Int} {k : Nat} (h : powK out sq m r (2 * k + 1)) : powK (out * sq % m) (sq * sq % m) m r k := by
  refine pow_even (out := out * sq % m) ?_
  unfold powK at *
  rw [← h, Int.pow_succ, Int.mul_emod, Int.emod_emod, ← Int.mul_emod, Int.mul_assoc, Int.mul_comm sq (sq ^ (2 * k))]
theorem pow_zero' {out sq m r : Int} (h : powK out sq m r 0) (h0 : 0 ≤ out) (h1 : out < m) : out = r := by
  unfold powK at h
  rw [Int.pow_zero, Int.mul_one, Int.emod_eq_of_lt h0 h1] at h
  exact h
def powB (a k m : Int) : Bool := numB a && modB m && l6B k 0 1000000
def powR (a k m : Int) : Int := selI (powB a k m) (a ^ k.toNat % m)
end Go.Proofs.Ytcfkppfnkecnjaa
