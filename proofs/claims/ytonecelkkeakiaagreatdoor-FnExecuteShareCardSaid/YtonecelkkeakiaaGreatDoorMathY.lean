/- Chapter 6, plain facts: the first number with a property, lines, squares, powers. -/
import Derived.Test.YtonecelkkeakiaaGreatDoorMz2
namespace Go.Proofs.YtonecelkkeakiaaGreatDoor
open Go.RowKit
/-- is there one with p among the n numbers from x on -/
def fndB (p : Int → Bool) : Nat → Int → Bool
  | 0, _ => false
  | n + 1, x => p x || fndB p n (x + 1)
/-- the first of them -/
def fndX (p : Int → Bool) : Nat → Int → Int
  | 0, _ => 0
  | n + 1, x => bif p x then x else fndX p n (x + 1)
theorem fndB_hit {p : Int → Bool} {n : Nat} {x : Int} (h : p x = true) : fndB p (n + 1) x = true := by simp [fndB, h]
theorem fndX_hit {p : Int → Bool} {n : Nat} {x : Int} (h : p x = true) : fndX p (n + 1) x = x := by simp [fndX, h]
theorem fndB_miss {p : Int → Bool} {n : Nat} {x : Int} (h : p x = false) : fndB p (n + 1) x = fndB p n (x + 1) := by simp [fndB, h]
theorem fndX_miss {p : Int → Bool} {n : Nat} {x : Int} (h : p x = false) : fndX p (n + 1) x = fndX p n (x + 1) := by simp [fndX, h]
theorem fnd_yes {p : Int → Bool} : ∀ (n : Nat) (x : Int), fndB p n x = true → p (fndX p n x) = true ∧ x ≤ fndX p n x ∧ fndX p n x < x + n ∧ ∀ y, x ≤ y → y < fndX p n x → p y = false
  | 0, _, h => by simp [fndB] at h
  | n + 1, x, h => by
    cases hp : p x with
    | true =>
      rw [fndX_hit hp]
      exact ⟨hp, by omega, by omega, fun y h1 h2 => by omega⟩
    | false =>
      rw [fndB_miss hp] at h
      rw [fndX_miss hp]
      obtain ⟨a, b, c, d⟩ := fnd_yes n (x + 1) h
      refine ⟨a, by omega, by omega, fun y h1 h2 => ?_⟩
      by_cases e : y = x
      · rw [e]; exact hp
      · exact d y (by omega) h2
theorem fnd_no {p : Int → Bool} : ∀ (n : Nat) (x : Int), fndB p n x = false → ∀ y, x ≤ y → y < x + n → p y = false
  | 0, _, _, y, h1, h2 => by omega
  | n + 1, x, h, y, h1, h2 => by
    cases hp : p x with
    | true => rw [fndB_hit hp] at h; cases h
    | false =>
      rw [fndB_miss hp] at h
      by_cases e : y = x
      · rw [e]; exact hp
      · exact fnd_no n (x + 1) h y (by omega) (by omega)
/-- what is left to be looked through: the search from x on, up to N -/
theorem fnd_of {p : Int → Bool} {n : Nat} {x : Int} (h : fndB p n x = false) : fndX p n x = 0 := by
  induction n generalizing x with
  | zero => rfl
  | succ n ih =>
    cases hp : p x with
    | true => rw [fndB_hit hp] at h; cases h
    | false =>
      rw [fndB_miss hp] at h
      rw [fndX_miss hp]
      exact ih h
/-! a line -/
def linN (a m : Int) : Int := m / gcdI (a % m) m
def linP (a b m x : Int) : Bool := (a % m * x - b) % m == 0
def linB (a b m : Int) : Bool := fndB (linP a b m) (linN a m).toNat 0
def linX (a b m : Int) : Int := fndX (linP a b m) (linN a m).toNat 0
theorem gcd_bd2 {a b : Int} (ha : 0 ≤ a) (hb : 1 ≤ b) : 1 ≤ gcdI a b ∧ gcdI a b ≤ b ∧ gcdI a b ∣ a ∧ gcdI a b ∣ b := by
  obtain ⟨x, rfl⟩ := Int.eq_ofNat_of_zero_le ha
  obtain ⟨y, rfl⟩ := Int.eq_ofNat_of_zero_le (show 0 ≤ b by omega)
  unfold gcdI
  simp only [Int.toNat_natCast]
  have h1 := Nat.gcd_pos_of_pos_right x (show 0 < y by omega)
  have h2 := Nat.gcd_le_right x (show 0 < y by omega)
  exact ⟨by omega, by omega, Int.natCast_dvd_natCast.2 (Nat.gcd_dvd_left _ _), Int.natCast_dvd_natCast.2 (Nat.gcd_dvd_right _ _)⟩
theorem lin_bd {a m : Int} (m1 : 1 ≤ m) : 0 ≤ a % m ∧ a % m < m ∧ 1 ≤ gcdI (a % m) m ∧ gcdI (a % m) m ≤ m ∧ 1 ≤ linN a m ∧ linN a m ≤ m := by
  obtain ⟨h1, h2⟩ := emod_bd a m m1
  obtain ⟨g1, g2, _, g4⟩ := gcd_bd2 h1 m1
  have h6 : 1 ≤ linN a m := Int.le_ediv_of_mul_le (by omega) (by omega)
  have h7 := Int.ediv_le_self (gcdI (a % m) m) (show 0 ≤ m by omega)
  exact ⟨h1, h2, g1, g2, h6, h7⟩
def linO (a b m : Int) : Bool := numB a && modB m && numB b && linB a b m
theorem linO_cases (a b m : Int) : numB a = false ∨ (numB a = true ∧ modB m = false) ∨ (numB a = true ∧ modB m = true ∧ numB b = false) ∨ (numB a = true ∧ modB m = true ∧ numB b = true) := by
  cases numB a <;> cases modB m <;> cases numB b <;> simp
theorem linO_0 {a b m : Int} (h : numB a = false) : linO a b m = false := by simp [linO, h]
theorem linO_1 {a b m : Int} (h : modB m = false) : linO a b m = false := by simp [linO, h]
theorem linO_2 {a b m : Int} (h : numB b = false) : linO a b m = false := by simp [linO, h]
theorem linO_3 {a b m : Int} (h1 : numB a = true) (h2 : modB m = true) (h3 : numB b = true) : linO a b m = linB a b m := by simp [linO, h1, h2, h3]
/-- what the search over a line has still to do -/
theorem lin_go {a b m : Int} {n : Nat} {x : Int} (h : fndB (linP a b m) n x = linB a b m ∧ fndX (linP a b m) n x = linX a b m) (hn : n ≠ 0) :
    (linP a b m x = true → linB a b m = true ∧ linX a b m = x) ∧ (linP a b m x = false → fndB (linP a b m) (n - 1) (x + 1) = linB a b m ∧ fndX (linP a b m) (n - 1) (x + 1) = linX a b m) := by
  obtain ⟨k, rfl⟩ : ∃ k, n = k + 1 := ⟨n - 1, by omega⟩
  simp only [Nat.add_sub_cancel]
  refine ⟨fun hp => ?_, fun hp => ?_⟩
  · rw [fndB_hit hp, fndX_hit hp] at h
    exact ⟨h.1.symm, h.2.symm⟩
  · rw [fndB_miss hp, fndX_miss hp] at h
    exact h
theorem lin_end {a b m : Int} {x : Int} (h : fndB (linP a b m) 0 x = linB a b m ∧ fndX (linP a b m) 0 x = linX a b m) : linB a b m = false := h.1.symm
/-- a product of a rest and a number below a modulus stays in range -/
theorem lin_wrap {c x m : Int} (m2 : m ≤ 1000) (c0 : 0 ≤ c) (c1 : c < m) (x0 : 0 ≤ x) (x1 : x < m) : 0 ≤ c * x ∧ c * x ≤ 1000000 := by
  have h1 := Int.mul_nonneg c0 x0
  have h2 := Int.mul_le_mul (show c ≤ 1000 by omega) (show x ≤ 1000 by omega) x0 (by omega)
  omega
/-- what the two programs ask of a line's numbers -/
def nmsB (m a b : Int) : Bool := modB m && numB a && numB b
theorem nmsB_t {m a b : Int} (h1 : modB m = true) (h2 : numB a = true) (h3 : numB b = true) : nmsB m a b = true := by simp [nmsB, h1, h2, h3]
theorem nmsB_of {m a b : Int} (h : nmsB m a b = true) : modB m = true ∧ numB a = true ∧ numB b = true := by simpa [nmsB, and_assoc] using h
theorem nmsB_f {m a b : Int} (h : (numB a && modB m) = false) : nmsB m a b = false := by unfold nmsB; rw [Bool.and_comm (modB m), h]; rfl
/-! squares -/
def sqP (a m x : Int) : Bool := x * x % m == a % m
/-- the numbers from 0 to k - 1 with the square wanted -/
def sqL (a m : Int) (k : Nat) : List Int := ((List.range k).map (fun j : Nat => (j : Int))).filter (sqP a m)
theorem sqL_succ (a m : Int) (k : Nat) : sqL a m (k + 1) = sqL a m k ++ (bif sqP a m k then [(k : Int)] else []) := by
  simp only [sqL, List.range_succ, List.map_append, List.filter_append]
  cases h : sqP a m k <;> simp [h]
theorem sqL_yes {a m : Int} {k : Nat} (h : sqP a m k = true) : sqL a m (k + 1) = sqL a m k ++ [(k : Int)] := by rw [sqL_succ, h]; rfl
theorem sqL_no {a m : Int} {k : Nat} (h : sqP a m k = false) : sqL a m (k + 1) = sqL a m k := by rw [sqL_succ, h]; simp
theorem sqL_le (a m : Int) (k : Nat) : (sqL a m k).length ≤ k := by
  have := List.length_filter_le (sqP a m) ((List.range k).map (fun j : Nat => (j : Int)))
  simpa [sqL] using this
def sqB (a m : Int) : Bool := numB a && modB m
def sqR (a m : Int) : List Int := bif sqB a m then sqL a m m.toNat else []
theorem sq_rest {a m x : Int} (_m1 : 1 ≤ m) : ((x * x - a) % m == 0) = sqP a m x := by
  have : (x * x - a) % m = 0 ↔ x * x % m = a % m := (Int.emod_eq_emod_iff_emod_sub_eq_zero).symm
  unfold sqP
  rw [Bool.eq_iff_iff]
  simp [this]
/-! powers -/
theorem pow_emod {a m : Int} : ∀ k : Nat, (a % m) ^ k % m = a ^ k % m
  | 0 => by rw [Int.pow_zero, Int.pow_zero]
  | k + 1 => by rw [Int.pow_succ, Int.pow_succ, Int.mul_emod, pow_emod k, ← Int.mul_emod, Int.mul_emod (a ^ k) (a % m), Int.emod_emod, ← Int.mul_emod]
/-- what the rounds keep: out times square to the power of k is as said -/
def powK (out sq m r : Int) (k : Nat) : Prop := out * sq ^ k % m = r
theorem pow_even {out sq m r : Int} {k : Nat} (h : powK out sq m r (2 * k)) : powK out (sq * sq % m) m r k := by
  unfold powK at *
  rw [← h, Int.mul_emod, pow_emod, ← Int.mul_emod, Int.pow_mul, show sq ^ 2 = sq * sq by rw [Int.pow_succ, Int.pow_succ, Int.pow_zero, Int.one_mul]]
theorem pow_odd {out sq m r : Int} {k : Nat} (h : powK out sq m r (2 * k + 1)) : powK (out * sq % m) (sq * sq % m) m r k := by
  refine pow_even (out := out * sq % m) ?_
  unfold powK at *
  rw [← h, Int.pow_succ, Int.mul_emod, Int.emod_emod, ← Int.mul_emod, Int.mul_assoc, Int.mul_comm sq (sq ^ (2 * k))]
theorem pow_zero' {out sq m r : Int} (h : powK out sq m r 0) (h0 : 0 ≤ out) (h1 : out < m) : out = r := by
  unfold powK at h
  rw [Int.pow_zero, Int.mul_one, Int.emod_eq_of_lt h0 h1] at h
  exact h
def powB (a k m : Int) : Bool := numB a && modB m && l6B k 0 1000000
def powR (a k m : Int) : Int := selI (powB a k m) (a ^ k.toNat % m)
/-! what the promises say -/
theorem tmod_zero {x m : Int} (h : m ∣ x) : x.tmod m = 0 := by
  obtain ⟨k, rfl⟩ := h
  exact Int.mul_tmod_right m k
theorem dvd_gcd_a {a m : Int} (m1 : 1 ≤ m) : gcdI (a % m) m ∣ a := by
  obtain ⟨h1, _⟩ := emod_bd a m m1
  obtain ⟨_, _, g3, g4⟩ := gcd_bd2 h1 m1
  have := Int.dvd_add g3 (Int.dvd_mul_of_dvd_left (c := a / m) g4)
  rwa [Int.emod_add_mul_ediv] at this
/-- what a line's solutions are -/
theorem linO_facts {a b m : Int} (h : linO a b m = true) : numB a = true ∧ modB m = true ∧ numB b = true ∧ 0 ≤ linX a b m ∧ linX a b m < linN a m ∧ 1 ≤ linN a m ∧ linN a m ≤ m ∧ linN a m ∣ m ∧ m ∣ a * linX a b m - b ∧ m ∣ a * linN a m := by
  obtain ⟨⟨⟨ha, hm⟩, hb⟩, hl⟩ : ((numB a = true ∧ modB m = true) ∧ numB b = true) ∧ linB a b m = true := by simpa [linO] using h
  obtain ⟨m1, m2⟩ := modB_iff.1 hm
  obtain ⟨c0, c1, g1, g2, n1, n2⟩ := lin_bd (a := a) m1
  obtain ⟨p1, p2, p3, _⟩ := fnd_yes _ _ hl
  obtain ⟨_, _, g3, g4⟩ := gcd_bd2 c0 m1
  have hX : linX a b m = fndX (linP a b m) (linN a m).toNat 0 := rfl
  rw [← hX] at p1 p2 p3
  have hq : (a % m * linX a b m - b) % m = 0 := by simpa [linP] using p1
  have h5 : linN a m * gcdI (a % m) m = m := Int.ediv_mul_cancel g4
  refine ⟨ha, hm, hb, p2, by omega, n1, n2, ⟨_, h5.symm⟩, ?_, ?_⟩
  · have d1 := Int.dvd_of_emod_eq_zero hq
    have d2 : m ∣ (a - a % m) * linX a b m := Int.dvd_mul_of_dvd_left Int.dvd_self_sub_emod
    have := Int.dvd_add d2 d1
    rw [Int.sub_mul] at this
    have e : a * linX a b m - a % m * linX a b m + (a % m * linX a b m - b) = a * linX a b m - b := by omega
    rwa [e] at this
  · obtain ⟨k, hk⟩ := dvd_gcd_a (a := a) m1
    refine ⟨k, ?_⟩
    calc a * linN a m = gcdI (a % m) m * k * linN a m := by rw [← hk]
      _ = linN a m * gcdI (a % m) m * k := by rw [Int.mul_comm (gcdI (a % m) m * k), Int.mul_assoc]
      _ = m * k := by rw [h5]
/-- a number within a million times one within a thousand -/
theorem big_mul {a x : Int} (a1 : -1000000 ≤ a) (a2 : a ≤ 1000000) (x1 : 0 ≤ x) (x2 : x ≤ 1000) : -1000000000 ≤ a * x ∧ a * x ≤ 1000000000 := by
  have h1 := Int.mul_le_mul_of_nonneg_right a2 x1
  have h2 := Int.mul_le_mul_of_nonneg_right a1 x1
  have h3 : 1000000 * x ≤ 1000000000 := by omega
  omega
/-- a power and the next one -/
theorem pow_next {a k m : Int} (h : powB a k m = true) (hk : k ≠ 1000000) : powB a (k + 1) m = true ∧ m ∣ powR a k m * a - powR a (k + 1) m := by
  obtain ⟨⟨ha, hm⟩, hl⟩ : (numB a = true ∧ modB m = true) ∧ l6B k 0 1000000 = true := by simpa [powB] using h
  obtain ⟨k1, k2⟩ : 0 ≤ k ∧ k ≤ 1000000 := by simpa [l6B] using hl
  have hl' : l6B (k + 1) 0 1000000 = true := l6B_t ⟨by omega, by omega⟩
  have hB : powB a (k + 1) m = true := by simp [powB, ha, hm, hl']
  refine ⟨hB, ?_⟩
  unfold powR
  rw [h, hB, selI_t, selI_t]
  have e : (k + 1).toNat = k.toNat + 1 := by omega
  rw [e, Int.pow_succ]
  have d1 : m ∣ a ^ k.toNat * a - a ^ k.toNat * a % m := Int.dvd_self_sub_emod
  have d2 : m ∣ (a ^ k.toNat - a ^ k.toNat % m) * a := Int.dvd_mul_of_dvd_left Int.dvd_self_sub_emod
  have := Int.dvd_sub d1 d2
  rw [Int.sub_mul] at this
  have e2 : a ^ k.toNat * a - a ^ k.toNat * a % m - (a ^ k.toNat * a - a ^ k.toNat % m * a) = a ^ k.toNat % m * a - a ^ k.toNat * a % m := by omega
  rwa [e2] at this
theorem powR_bd {a k m : Int} (h : powB a k m = true) : numB a = true ∧ modB m = true ∧ 0 ≤ k ∧ k ≤ 1000000 ∧ 0 ≤ powR a k m ∧ powR a k m < m := by
  obtain ⟨⟨ha, hm⟩, hl⟩ : (numB a = true ∧ modB m = true) ∧ l6B k 0 1000000 = true := by simpa [powB] using h
  obtain ⟨m1, _⟩ := modB_iff.1 hm
  obtain ⟨k1, k2⟩ : 0 ≤ k ∧ k ≤ 1000000 := by simpa [l6B] using hl
  unfold powR
  rw [h, selI_t]
  have := emod_bd (a ^ k.toNat) m m1
  exact ⟨ha, hm, k1, k2, this.1, this.2⟩
theorem powR_f {a k m : Int} (h : powB a k m = false) : powR a k m = 0 := by simp [powR, h, selI]
theorem sqL_mem {a m : Int} {k : Nat} {x : Int} : x ∈ sqL a m k ↔ 0 ≤ x ∧ x < k ∧ sqP a m x = true := by
  simp only [sqL, List.mem_filter, List.mem_map, List.mem_range]
  constructor
  · rintro ⟨⟨j, hj, rfl⟩, h⟩
    exact ⟨by omega, by omega, h⟩
  · rintro ⟨h1, h2, h3⟩
    exact ⟨⟨x.toNat, by omega, by omega⟩, h3⟩
/-- a square root, and the opposite one -/
theorem sq_turn {a m x : Int} (m1 : 1 ≤ m) (h : x ∈ sqL a m m.toNat) : m ∣ x * x - a ∧ 0 ≤ x ∧ x < m ∧ (x = 0 ∨ m - x ∈ sqL a m m.toNat) := by
  obtain ⟨h1, h2, h3⟩ := sqL_mem.1 h
  have hq : x * x % m = a % m := by simpa [sqP] using h3
  refine ⟨Int.dvd_of_emod_eq_zero (Int.emod_eq_emod_iff_emod_sub_eq_zero.1 hq), h1, by omega, ?_⟩
  by_cases hx : x = 0
  · exact .inl hx
  · refine .inr (sqL_mem.2 ⟨by omega, by omega, ?_⟩)
    have e : (m - x) * (m - x) = x * x + m * (m - 2 * x) := by
      rw [Int.sub_mul, Int.mul_sub, Int.mul_sub, Int.mul_sub, Int.mul_comm x m, show m * (2 * x) = 2 * (m * x) by rw [← Int.mul_assoc, Int.mul_comm m 2, Int.mul_assoc]]
      omega
    unfold sqP
    rw [e, Int.add_mul_emod_self_left, hq]
    simp
end Go.Proofs.YtonecelkkeakiaaGreatDoor
