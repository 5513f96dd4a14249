/- Least prime divisors, and the sum of those less 1. -/
import Derived.Test.YtjempdnbbghnlaaDoorMath
namespace Go.Proofs.YtjempdnbbghnlaaDoor
open Go.RowKit
def lpF : Nat → Nat → Nat → Nat
  | 0, p, _ => p
  | f + 1, p, n => bif n % p == 0 then p else lpF f (p + 1) n
def lpd (n : Nat) : Nat := lpF n 2 n
theorem lpF_eq : ∀ (f p q n : Nat), p ≤ q → q < p + f → n % q = 0 → (∀ d, p ≤ d → d < q → n % d ≠ 0) → lpF f p n = q := by
  intro f
  induction f with
  | zero => intro p q n h1 h2; omega
  | succ f ih =>
    intro p q n h1 h2 h3 h4
    simp only [lpF]
    by_cases e : p = q
    · subst e; simp [h3]
    · have := h4 p (Nat.le_refl _) (by omega)
      have hb : (n % p == 0) = false := by simpa using this
      rw [hb, cond_false]
      exact ih (p + 1) q n (by omega) (by omega) h3 fun d hd hq => h4 d (by omega) hq
theorem lpd_eq {n q : Nat} (hn : 1 ≤ n) (h2 : 2 ≤ q) (h3 : n % q = 0) (h4 : ∀ d, 2 ≤ d → d < q → n % d ≠ 0) : lpd n = q := by
  have := Nat.le_of_dvd hn (Nat.dvd_of_mod_eq_zero h3)
  exact lpF_eq n 2 q n h2 (by omega) h3 h4
theorem lpd_ex {n : Nat} (hn : 2 ≤ n) : 2 ≤ lpd n ∧ lpd n ≤ n ∧ n % lpd n = 0 ∧ ∀ d, 2 ≤ d → d < lpd n → n % d ≠ 0 := by
  have key : ∀ f p, 2 ≤ p → p + f = n → (∀ d, 2 ≤ d → d < p → n % d ≠ 0) → ∃ q, 2 ≤ q ∧ q ≤ n ∧ n % q = 0 ∧ ∀ d, 2 ≤ d → d < q → n % d ≠ 0 := by
    intro f
    induction f with
    | zero =>
      intro p hp hf h
      exact ⟨p, hp, by omega, by rw [show p = n by omega]; exact Nat.mod_self n, h⟩
    | succ f ih =>
      intro p hp hf h
      by_cases e : n % p = 0
      · exact ⟨p, hp, by omega, e, h⟩
      · refine ih (p + 1) (by omega) (by omega) fun d h1 h2 => ?_
        by_cases e2 : d = p
        · rw [e2]; exact e
        · exact h d h1 (by omega)
  obtain ⟨q, h1, h2, h3, h4⟩ := key (n - 2) 2 (Nat.le_refl _) (by omega) fun d h1 h2 => by omega
  rw [lpd_eq (by omega) h1 h3 h4]
  exact ⟨h1, h2, h3, h4⟩
def leaF : Nat → Nat → Nat
  | 0, _ => 0
  | f + 1, n => bif Nat.ble n 1 then 0 else (lpd n - 1) + leaF f (n / lpd n)
def leaS (n : Nat) : Nat := leaF n n
theorem div_lt_self' {n : Nat} (hn : 2 ≤ n) : n / lpd n < n ∧ 1 ≤ n / lpd n := by
  obtain ⟨h1, h2, h3, _⟩ := lpd_ex hn
  exact ⟨Nat.div_lt_self (by omega) (by omega), Nat.div_pos h2 (by omega)⟩
theorem leaF_fuel : ∀ (f g n : Nat), n ≤ f → n ≤ g → leaF f n = leaF g n := by
  intro f
  induction f with
  | zero =>
    intro g n h1 h2
    obtain rfl : n = 0 := by omega
    cases g <;> rfl
  | succ f ih =>
    intro g n h1 h2
    cases g with
    | zero =>
      obtain rfl : n = 0 := by omega
      rfl
    | succ g =>
      simp only [leaF]
      by_cases hn : n ≤ 1
      · rw [Nat.ble_eq_true_of_le hn]
        rfl
      · have := div_lt_self' (show 2 ≤ n by omega)
        rw [ih g (n / lpd n) (by omega) (by omega)]
theorem leaS_one {n : Nat} (h : n ≤ 1) : leaS n = 0 := by
  unfold leaS
  cases n with
  | zero => rfl
  | succ n => simp only [leaF]; rw [Nat.ble_eq_true_of_le h]; rfl
theorem leaS_step {n : Nat} (h : 2 ≤ n) : leaS n = (lpd n - 1) + leaS (n / lpd n) := by
  have hd := div_lt_self' h
  unfold leaS
  cases n with
  | zero => omega
  | succ n =>
    have hb : Nat.ble (n + 1) 1 = false := by
      cases hh : Nat.ble (n + 1) 1
      · rfl
      · have := Nat.le_of_ble_eq_true hh; omega
    conv => lhs; simp only [leaF]
    rw [hb, cond_false, leaF_fuel n ((n + 1) / lpd (n + 1)) _ (by omega) (Nat.le_refl _)]
theorem leaS_le : ∀ (f n : Nat), n ≤ f → 1 ≤ n → leaS n + 1 ≤ n := by
  intro f
  induction f with
  | zero => intro n h1 h2; omega
  | succ f ih =>
    intro n h1 h2
    by_cases hn : n ≤ 1
    · rw [leaS_one hn]; omega
    · have hd := div_lt_self' (show 2 ≤ n by omega)
      obtain ⟨h3, h4, h5, _⟩ := lpd_ex (show 2 ≤ n by omega)
      rw [leaS_step (by omega)]
      have := ih (n / lpd n) (by omega) hd.2
      have e : lpd n * (n / lpd n) = n := Nat.mul_div_cancel' (Nat.dvd_of_mod_eq_zero h5)
      obtain ⟨a, ha⟩ : ∃ a, lpd n = a + 1 := ⟨lpd n - 1, by omega⟩
      obtain ⟨b, hb⟩ : ∃ b, n / lpd n = b + 1 := ⟨n / lpd n - 1, by omega⟩
      rw [hb] at this e
      rw [ha, Nat.add_mul, Nat.mul_add, Nat.one_mul] at e
      rw [hb]
      have := Nat.zero_le (a * b)
      omega
def leaI (x : Int) : Int := bif modB x then 1 + (leaS x.toNat : Int) else 0
end Go.Proofs.YtjempdnbbghnlaaDoor
