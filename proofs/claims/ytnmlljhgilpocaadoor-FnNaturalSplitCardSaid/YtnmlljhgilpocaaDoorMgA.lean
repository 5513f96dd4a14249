/- Least prime divisors, and the sum of those less 1. -/
import Derived.Test.YtnmlljhgilpocaaDoorMath
import Derived.Test.YtnmlljhgilpocaaDoorMathS
namespace Go.Proofs.YtnmlljhgilpocaaDoor
open Go.RowKit
def lpF : Nat → Nat → Nat → Nat
  | 0, p, _ => p
  | f + 1, p, n => bif n % p == 0 then p else lpF f (p + 1) n
def lpd (n : Nat) : Nat := lpF n 2 n
theorem lpF_eq : ∀ (f p q n : Nat), p ≤ q → q < p + f → n % q = 0 → (∀ d, p ≤ d → d < q → n % d ≠ 0) → lpF f p n = q := by
  intro f
  induction f with
  | zero => intro p q n h1 h2; omega
  | succ f ih =>
    intro p q n h1 h2 h3 h4
    simp only [lpF]
    by_cases e : p = q
    · subst e; simp [h3]
    · have := h4 p (Nat.le_refl _) (by omega)
      have hb : (n % p == 0) = false := by simpa using this
      rw [hb, cond_false]
      exact ih (p + 1) q n (by omega) (by omega) h3 fun d hd hq => h4 d (by omega) hq
theorem lpd_eq {n q : Nat} (hn : 1 ≤ n) (h2 : 2 ≤ q) (h3 : n % q = 0) (h4 : ∀ d, 2 ≤ d → d < q → n % d ≠ 0) : lpd n = q := by
  have := Nat.le_of_dvd hn (Nat.dvd_of_mod_eq_zero h3)
  exact lpF_eq n 2 q n h2 (by omega) h3 h4
theorem lpd_ex {n : Nat} (hn : 2 ≤ n) : 2 ≤ lpd n ∧ lpd n ≤ n ∧ n % lpd n = 0 ∧ ∀ d, 2 ≤ d → d < lpd n → n % d ≠ 0 := by
  have key : ∀ f p, 2 ≤ p → p + f = n → (∀ d, 2 ≤ d → d < p → n % d ≠ 0) → ∃ q, 2 ≤ q ∧ q ≤ n ∧ n % q = 0 ∧ ∀ d, 2 ≤ d → d < q → n % d ≠ 0 := by
    intro f
    induction f with
    | zero =>
      intro p hp hf h
      exact ⟨p, hp, by omega, by rw [show p = n by omega]; exact Nat.mod_self n, h⟩
    | succ f ih =>
      intro p hp hf h
      by_cases e : n % p = 0
      · exact ⟨p, hp, by omega, e, h⟩
      · refine ih (p + 1) (by omega) (by omega) fun d h1 h2 => ?_
        by_cases e2 : d = p
        · rw [e2]; exact e
        · exact h d h1 (by omega)
  obtain ⟨q, h1, h2, h3, h4⟩ := key (n - 2) 2 (Nat.le_refl _) (by omega) fun d h1 h2 => by omega
  rw [lpd_eq (by omega) h1 h3 h4]
  exact ⟨h1, h2, h3, h4⟩
def leaF : Nat → Nat → Nat
  | 0, _ => 0
  | f + 1, n => bif Nat.ble n 1 then 0 else (lpd n - 1) + leaF f (n / lpd n)
def leaS (n : Nat) : Nat := leaF n n
theorem div_lt_self' {n : Nat} (hn : 2 ≤ n) : n / lpd n < n ∧ 1 ≤ n / lpd n := by
  obtain ⟨h1, h2, h3, _⟩ := lpd_ex hn
  exact ⟨Nat.div_lt_self (by omega) (by omega), Nat.div_pos h2 (by omega)⟩
theorem leaF_fuel : ∀ (f g n : Nat), n ≤ f → n ≤ g → leaF f n = leaF g n := by
  intro f
  induction f with
  | zero =>
    intro g n h1 h2
    obtain rfl : n = 0 := by omega
    cases g <;> rfl
  | succ f ih =>
    intro g n h1 h2
    cases g with
    | zero =>
      obtain rfl : n = 0 := by omega
      rfl
    | succ g =>
      simp only [leaF]
      by_cases hn : n ≤ 1
      · rw [Nat.ble_eq_true_of_le hn]
        rfl
      · have := div_lt_self' (show 2 ≤ n by omega)
        rw [ih g (n / lpd n) (by omega) (by omega)]
theorem leaS_one {n : Nat} (h : n ≤ 1) : leaS n = 0 := by
  unfold leaS
  cases n with
  | zero => rfl
  | succ n => simp only [leaF]; rw [Nat.ble_eq_true_of_le h]; rfl
theorem leaS_step {n : Nat} (h : 2 ≤ n) : leaS n = (lpd n - 1) + leaS (n / lpd n) := by
  have hd := div_lt_self' h
  unfold leaS
  cases n with
  | zero => omega
  | succ n =>
    have hb : Nat.ble (n + 1) 1 = false := by
      cases hh : Nat.ble (n + 1) 1
      · rfl
      · have := Nat.le_of_ble_eq_true hh; omega
    conv => lhs; simp only [leaF]
    rw [hb, cond_false, leaF_fuel n ((n + 1) / lpd (n + 1)) _ (by omega) (Nat.le_refl _)]
theorem leaS_le : ∀ (f n : Nat), n ≤ f → 1 ≤ n → leaS n + 1 ≤ n := by
  intro f
  induction f with
  | zero => intro n h1 h2; omega
  | succ f ih =>
    intro n h1 h2
    by_cases hn : n ≤ 1
    · rw [leaS_one hn]; omega
    · have hd := div_lt_self' (show 2 ≤ n by omega)
      obtain ⟨h3, h4, h5, _⟩ := lpd_ex (show 2 ≤ n by omega)
      rw [leaS_step (by omega)]
      have := ih (n / lpd n) (by omega) hd.2
      have e : lpd n * (n / lpd n) = n := Nat.mul_div_cancel' (Nat.dvd_of_mod_eq_zero h5)
      obtain ⟨a, ha⟩ : ∃ a, lpd n = a + 1 := ⟨lpd n - 1, by omega⟩
      obtain ⟨b, hb⟩ : ∃ b, n / lpd n = b + 1 := ⟨n / lpd n - 1, by omega⟩
      rw [hb] at this e
      rw [ha, Nat.add_mul, Nat.mul_add, Nat.one_mul] at e
      rw [hb]
      have := Nat.zero_le (a * b)
      omega
def leaI (x : Int) : Int := bif modB x then 1 + (leaS x.toNat : Int) else 0
end Go.Proofs.YtnmlljhgilpocaaDoor
namespace Go.Proofs.YtnmlljhgilpocaaDoor
open Go.RowKit
/-- the classes with the rest r by d, seen from there -/
def pt (d r : Int) (s : List Cl) : List Cl := (s.filter fun c => c.1 % d == r).map fun c => ((c.1 - r) / d, c.2 / d)
/-- the common divisor of all moduli -/
def gcdL (s : List Cl) : Nat := s.foldl (fun g c => Nat.gcd g c.2.toNat) 0
def natF : Nat → List Cl → Bool
  | 0, _ => false
  | f + 1, s => bif s.length == 1 then (mAt s 0 == 1) else bif decide (gcdL s ≤ 1) then false else (List.range (lpd (gcdL s))).all fun r => natF f (pt (lpd (gcdL s)) r s)
/-- is a list natural -/
def nat (s : List Cl) : Bool := natF 1000 s
/-- classes, of moduli up to n -/
def Vl (n : Nat) (s : List Cl) : Prop := ∀ c ∈ s, 0 ≤ c.1 ∧ c.1 < c.2 ∧ c.2 ≤ n
theorem foldl_gcd (s : List Cl) : ∀ g : Nat, s.foldl (fun g c => Nat.gcd g c.2.toNat) g ∣ g ∧ ∀ c ∈ s, s.foldl (fun g c => Nat.gcd g c.2.toNat) g ∣ c.2.toNat := by
  induction s with
  | nil => intro g; exact ⟨Nat.dvd_refl _, fun c hc => by cases hc⟩
  | cons x t ih =>
    intro g
    obtain ⟨h1, h2⟩ := ih (Nat.gcd g x.2.toNat)
    refine ⟨Nat.dvd_trans h1 (Nat.gcd_dvd_left _ _), fun c hc => ?_⟩
    rcases List.mem_cons.1 hc with rfl | hc
    · exact Nat.dvd_trans h1 (Nat.gcd_dvd_right _ _)
    · exact h2 c hc
theorem dvd_foldl {d : Nat} (s : List Cl) : ∀ g : Nat, d ∣ g → (∀ c ∈ s, d ∣ c.2.toNat) → d ∣ s.foldl (fun g c => Nat.gcd g c.2.toNat) g := by
  induction s with
  | nil => intro g h _; exact h
  | cons x t ih =>
    intro g h1 h2
    exact ih _ (Nat.dvd_gcd h1 (h2 x List.mem_cons_self)) (fun c hc => h2 c (List.mem_cons_of_mem _ hc))
theorem gcdL_dvd {s : List Cl} {c : Cl} (h : c ∈ s) : gcdL s ∣ c.2.toNat := (foldl_gcd s 0).2 c h
theorem dvd_gcdL {d : Nat} {s : List Cl} (h : ∀ c ∈ s, d ∣ c.2.toNat) : d ∣ gcdL s := dvd_foldl s 0 (Nat.dvd_zero _) h
theorem gcdL_pos {n : Nat} {s : List Cl} (hs : s ≠ []) (hv : Vl n s) : 1 ≤ gcdL s := by
  obtain ⟨c, hc⟩ := List.exists_mem_of_ne_nil s hs
  have h := gcdL_dvd hc
  have := hv c hc
  exact Nat.pos_of_dvd_of_pos h (by omega)
theorem natF_nil (f : Nat) : natF f [] = false := by
  cases f with
  | zero => rfl
  | succ f => simp [natF, gcdL]
theorem pt_vl {n d : Nat} {r : Int} {s : List Cl} (hd : 2 ≤ d) (hv : Vl n s) (hm : ∀ c ∈ s, (d : Int) ∣ c.2) : Vl (n - 1) (pt d r s) := by
  intro c hc
  simp only [pt, List.mem_map, List.mem_filter, beq_iff_eq] at hc
  obtain ⟨x, ⟨hx, hr⟩, rfl⟩ := hc
  obtain ⟨h1, h2, h3⟩ := hv x hx
  obtain ⟨q, hq⟩ := hm x hx
  have hd0 : (0 : Int) < d := by omega
  have e1 : x.1 - r = (d : Int) * (x.1 / d) := by
    have := Int.mul_ediv_add_emod x.1 d
    omega
  have e2 : (x.1 - r) / d = x.1 / d := by rw [e1, Int.mul_ediv_cancel_left _ (by omega)]
  have e3 : x.2 / d = q := by rw [hq, Int.mul_ediv_cancel_left _ (by omega)]
  have hq0 : 0 < q := by
    rcases Int.lt_trichotomy q 0 with h | h | h
    · have := Int.mul_neg_of_pos_of_neg hd0 h; omega
    · subst h; simp at hq; omega
    · exact h
  have hle : q + 1 ≤ (d : Int) * q := by
    have : 2 * q ≤ (d : Int) * q := Int.mul_le_mul_of_nonneg_right (by omega) (by omega)
    omega
  refine ⟨?_, ?_, ?_⟩
  · show 0 ≤ (x.1 - r) / d
    rw [e2]; exact Int.ediv_nonneg h1 (by omega)
  · show (x.1 - r) / d < x.2 / d
    rw [e2, e3]
    exact Int.ediv_lt_of_lt_mul hd0 (by rw [Int.mul_comm]; omega)
  · show x.2 / d ≤ _
    rw [e3]; omega
theorem lpd_facts {n : Nat} {s : List Cl} (hs : 2 ≤ gcdL s) : 2 ≤ lpd (gcdL s) ∧ lpd (gcdL s) ∣ gcdL s ∧ ∀ c ∈ s, 0 ≤ c.1 ∧ c.1 < c.2 ∧ c.2 ≤ n → ((lpd (gcdL s) : Nat) : Int) ∣ c.2 := by
  obtain ⟨h1, _, h3, _⟩ := lpd_ex hs
  have hd := Nat.dvd_of_mod_eq_zero h3
  refine ⟨h1, hd, fun c hc hv => ?_⟩
  have := Nat.dvd_trans hd (gcdL_dvd hc)
  have := Int.natCast_dvd_natCast.2 this
  rwa [Int.toNat_of_nonneg (by omega)] at this
theorem all_cg {α : Type} {l : List α} {f g : α → Bool} (h : ∀ x ∈ l, f x = g x) : l.all f = l.all g := by
  induction l with
  | nil => rfl
  | cons x t ih => rw [List.all_cons, List.all_cons, h x List.mem_cons_self, ih fun y hy => h y (List.mem_cons_of_mem _ hy)]
theorem all_f {α : Type} {l : List α} {f : α → Bool} {x : α} (hx : x ∈ l) (h : f x = false) : l.all f = false := by
  cases hl : l.all f with
  | false => rfl
  | true => have := List.all_eq_true.1 hl x hx; rw [h] at this; cases this
theorem all_mul {F : Nat → Bool} {p e : Nat} (hp : 1 ≤ p) : ((List.range p).all fun r => (List.range e).all fun t => F (r + p * t)) = (List.range (p * e)).all F := by
  rw [Bool.eq_iff_iff]
  simp only [List.all_eq_true, List.mem_range]
  constructor
  · intro h u hu
    have := h (u % p) (Nat.mod_lt _ (by omega)) (u / p) (Nat.div_lt_of_lt_mul hu)
    rwa [Nat.mod_add_div] at this
  · intro h r hr t ht
    refine h _ ?_
    have : p * (t + 1) ≤ p * e := Nat.mul_le_mul_left p ht
    rw [Nat.mul_add, Nat.mul_one] at this
    omega
theorem nil_of {f : Nat} {s : List Cl} (h : Vl 0 s) (_ : f = f) : s = [] := by
  cases s with
  | nil => rfl
  | cons c t => have := h c List.mem_cons_self; omega
theorem natF_fuel : ∀ (f g : Nat) (s : List Cl), Vl f s → Vl g s → natF f s = natF g s := by
  intro f
  induction f with
  | zero =>
    intro g s h1 _
    rw [nil_of (f := 0) h1 rfl, natF_nil, natF_nil]
  | succ f ih =>
    intro g s h1 h2
    cases g with
    | zero => rw [nil_of (f := 0) h2 rfl, natF_nil, natF_nil]
    | succ g =>
      simp only [natF]
      congr 1
      cases hg : decide (gcdL s ≤ 1)
      · simp only [cond_false]
        have hg' : 2 ≤ gcdL s := by simp at hg; omega
        obtain ⟨p1, p2, p3⟩ := lpd_facts (n := f + 1) hg'
        refine all_cg fun r _ => ?_
        have hm : ∀ c ∈ s, ((lpd (gcdL s) : Nat) : Int) ∣ c.2 := fun c hc => p3 c hc (h1 c hc)
        exact ih g _ (pt_vl p1 h1 hm) (pt_vl p1 h2 hm)
      · rfl
theorem nat_unf {s : List Cl} (hv : Vl 1000 s) : nat s = bif s.length == 1 then (mAt s 0 == 1) else bif decide (gcdL s ≤ 1) then false else (List.range (lpd (gcdL s))).all fun r => nat (pt (lpd (gcdL s)) r s) := by
  unfold nat
  rw [natF]
  cases hl : (s.length == 1)
  · simp only [cond_false]
    cases hg : decide (gcdL s ≤ 1)
    · simp only [cond_false]
      have hg' : 2 ≤ gcdL s := by simp at hg; omega
      obtain ⟨p1, p2, p3⟩ := lpd_facts (n := 1000) hg'
      refine all_cg fun r _ => ?_
      have hm : ∀ c ∈ s, ((lpd (gcdL s) : Nat) : Int) ∣ c.2 := fun c hc => p3 c hc (hv c hc)
      have hv2 : Vl 999 (pt (lpd (gcdL s)) r s) := pt_vl p1 hv hm
      exact natF_fuel _ _ _ hv2 (fun c hc => by have := hv2 c hc; omega)
    · simp only [cond_true]
  · simp only [cond_true]
theorem nat_nil : nat [] = false := natF_nil _
/-- the digits of a number by d and by e -/
theorem dig2 (x : Int) {d e : Nat} (hd : 1 ≤ d) (he : 1 ≤ e) : x % ((d * e : Nat) : Int) = x % d + d * (x / d % e) := by
  have h1 := Int.emod_nonneg x (show (d : Int) ≠ 0 by omega)
  have h2 := Int.emod_lt_of_pos x (show (0 : Int) < d by omega)
  have h3 := Int.emod_nonneg (x / d) (show (e : Int) ≠ 0 by omega)
  have h4 := Int.emod_lt_of_pos (x / d) (show (0 : Int) < e by omega)
  have e1 := Int.mul_ediv_add_emod x d
  have e2 := Int.mul_ediv_add_emod (x / d) e
  have e3 : x = (x % d + d * (x / d % e)) + ((d * e : Nat) : Int) * (x / d / e) := by
    rw [Int.natCast_mul, Int.mul_assoc]
    have : (d : Int) * (x / d) = d * (e * (x / d / e)) + d * (x / d % e) := by rw [← Int.mul_add, e2]
    omega
  have h5 : (d : Int) * (x / d % e) ≤ d * (e - 1) := Int.mul_le_mul_of_nonneg_left (by omega) (by omega)
  have h6 : (0 : Int) ≤ d * (x / d % e) := Int.mul_nonneg (by omega) h3
  have h7 : (d : Int) * (e - 1) = ((d * e : Nat) : Int) - d := by rw [Int.mul_sub, Int.mul_one, Int.natCast_mul]
  calc x % ((d * e : Nat) : Int) = ((x % d + d * (x / d % e)) + ((d * e : Nat) : Int) * (x / d / e)) % ((d * e : Nat) : Int) := by rw [← e3]
    _ = x % d + d * (x / d % e) := by rw [Int.add_mul_emod_self_left, Int.emod_eq_of_lt (by omega) (by omega)]
theorem sub_mod_div (x n : Int) (hn : 0 < n) : (x - x % n) / n = x / n := by
  have h := Int.mul_ediv_add_emod x n
  have e : x - x % n = n * (x / n) := by omega
  rw [e, Int.mul_ediv_cancel_left _ (by omega)]
theorem pt_pt {d e r t : Nat} (hd : 1 ≤ d) (he : 1 ≤ e) (hr : r < d) (s : List Cl) : pt e t (pt d r s) = pt ((d * e : Nat) : Int) ((r + d * t : Nat) : Int) s := by
  induction s with
  | nil => rfl
  | cons c s ih =>
    have hD := dig2 c.1 hd he
    have h1 := Int.emod_nonneg c.1 (show (d : Int) ≠ 0 by omega)
    have h2 := Int.emod_lt_of_pos c.1 (show (0 : Int) < d by omega)
    have hde : (0 : Int) < ((d * e : Nat) : Int) := by
      have := Nat.mul_pos hd he
      omega
    simp only [pt, List.filter_cons]
    by_cases a : c.1 % d = r
    · have hq : (c.1 - r) / d = c.1 / d := by rw [← a]; exact sub_mod_div _ _ (by omega)
      by_cases b : c.1 / d % e = t
      · have hu : c.1 % ((d * e : Nat) : Int) = ((r + d * t : Nat) : Int) := by rw [hD, a, b]; simp
        have ha : (c.1 % (d : Int) == (r : Int)) = true := by simpa using a
        have hb : ((c.1 - (r : Int)) / (d : Int) % (e : Int) == (t : Int)) = true := by rw [hq]; simpa using b
        have hc : (c.1 % ((d * e : Nat) : Int) == ((r + d * t : Nat) : Int)) = true := by simpa using hu
        simp only [ha, hb, hc, if_true, List.map_cons, List.filter_cons]
        have ih' := ih
        simp only [pt] at ih'
        rw [ih']
        congr 1
        refine Prod.ext ?_ ?_
        · show ((c.1 - (r : Int)) / d - t) / e = (c.1 - ((r + d * t : Nat) : Int)) / ((d * e : Nat) : Int)
          rw [hq, ← hu, sub_mod_div _ _ hde, ← b, sub_mod_div _ _ (by omega), Int.natCast_mul, Int.ediv_ediv_of_nonneg (by omega)]
        · show c.2 / d / e = c.2 / ((d * e : Nat) : Int)
          rw [Int.natCast_mul, Int.ediv_ediv_of_nonneg (by omega)]
      · have hu : ¬ c.1 % ((d * e : Nat) : Int) = ((r + d * t : Nat) : Int) := by
          rw [hD, a]
          intro h
          have : (d : Int) * (c.1 / d % e) = d * t := by simp at h; omega
          exact b (Int.eq_of_mul_eq_mul_left (by omega) this)
        have ha : (c.1 % (d : Int) == (r : Int)) = true := by simpa using a
        have hb : ((c.1 - (r : Int)) / (d : Int) % (e : Int) == (t : Int)) = false := by rw [hq]; simpa using b
        have hc : (c.1 % ((d * e : Nat) : Int) == ((r + d * t : Nat) : Int)) = false := by simpa using hu
        simp only [ha, hc, if_true, List.map_cons, List.filter_cons, hb]
        simpa [pt] using ih
    · have hu : ¬ c.1 % ((d * e : Nat) : Int) = ((r + d * t : Nat) : Int) := by
        intro h
        apply a
        have h3 : c.1 % ((d * e : Nat) : Int) % d = c.1 % d := Int.emod_emod_of_dvd _ ⟨(e : Int), by rw [Int.natCast_mul]⟩
        rw [h] at h3
        rw [← h3]
        have : ((r + d * t : Nat) : Int) = (r : Int) + d * t := by simp
        rw [this, Int.add_mul_emod_self_left, Int.emod_eq_of_lt (by omega) (by omega)]
      have ha : (c.1 % (d : Int) == (r : Int)) = false := by simpa using a
      have hc : (c.1 % ((d * e : Nat) : Int) == ((r + d * t : Nat) : Int)) = false := by simpa using hu
      simp only [ha, hc]
      simpa [pt] using ih
theorem pt_dvd {d e : Nat} {r : Int} {s : List Cl} (hd : 1 ≤ d) (hm : ∀ c ∈ s, ((d * e : Nat) : Int) ∣ c.2) : ∀ c ∈ pt d r s, (e : Int) ∣ c.2 := by
  intro c hc
  simp only [pt, List.mem_map, List.mem_filter] at hc
  obtain ⟨x, ⟨hx, _⟩, rfl⟩ := hc
  obtain ⟨q, hq⟩ := hm x hx
  refine ⟨q, ?_⟩
  show x.2 / d = e * q
  rw [hq, Int.natCast_mul, Int.mul_assoc, Int.mul_ediv_cancel_left _ (by omega)]
/-- any common divisor of the moduli may be split off first -/
theorem nat_div : ∀ (n : Nat), n ≤ 1000 → ∀ (s : List Cl) (d : Nat), Vl n s → 2 ≤ d → (∀ c ∈ s, (d : Int) ∣ c.2) → nat s = (List.range d).all fun r => nat (pt d r s) := by
  intro n
  induction n using Nat.strongRecOn with
  | ind n ih =>
    intro hn s d hv hd hm
    have hv1000 : Vl 1000 s := fun c hc => by have := hv c hc; omega
    match s, hv, hm, hv1000 with
    | [], _, _, _ =>
      rw [nat_nil, all_f (x := 0) (List.mem_range.2 (by omega))]
      exact nat_nil
    | [c], hv, hm, hv1000 =>
      have hc := hv c (by simp)
      have hle := Int.le_of_dvd (by omega) (hm c (by simp))
      have hL : nat [c] = false := by
        rw [nat_unf hv1000]
        simp [mAt]
        omega
      rw [hL]
      have h2 := Int.emod_nonneg c.1 (show (d : Int) ≠ 0 by omega)
      have key : ∀ r : Nat, r < d → ¬ c.1 % d = r → ((List.range d).all fun r => nat (pt d r [c])) = false := fun r hr hne => by
        refine all_f (x := r) (List.mem_range.2 hr) ?_
        have : (c.1 % (d : Int) == (r : Int)) = false := by simpa using hne
        simp [pt, this, nat_nil]
      by_cases h0 : c.1 % d = 0
      · exact (key 1 (by omega) (by omega)).symm
      · exact (key 0 (by omega) (by omega)).symm
    | c1 :: c2 :: t, hv, hm, hv1000 =>
      generalize hs : c1 :: c2 :: t = s at *
      have hne : s ≠ [] := by rw [← hs]; simp
      have hlen : (s.length == 1) = false := by rw [← hs]; simp
      have hg1 := gcdL_pos hne hv
      have hmn : ∀ c ∈ s, d ∣ c.2.toNat := fun c hc => by
        have h := hm c hc
        have := hv c hc
        exact Int.natCast_dvd_natCast.1 (by rwa [Int.toNat_of_nonneg (by omega)])
      have hdg := dvd_gcdL hmn
      have hg : 2 ≤ gcdL s := Nat.le_trans hd (Nat.le_of_dvd hg1 hdg)
      obtain ⟨p1, p2, p3⟩ := lpd_facts (n := n) hg
      have pmin := (lpd_ex hg).2.2.2
      have hpm : ∀ c ∈ s, ((lpd (gcdL s) : Nat) : Int) ∣ c.2 := fun c hc => p3 c hc (hv c hc)
      have hn1 : 1 ≤ n := by
        have := hv c1 (by rw [← hs]; simp)
        omega
      rw [nat_unf hv1000, hlen, decide_eq_false (show ¬ gcdL s ≤ 1 by omega)]
      simp only [cond_false]
      generalize hp : lpd (gcdL s) = p at *
      by_cases hpd : p ∣ d
      · obtain ⟨e, rfl⟩ := hpd
        have he : 1 ≤ e := by
          rcases Nat.eq_zero_or_pos e with h | h
          · subst h; omega
          · exact h
        by_cases e1 : e = 1
        · subst e1
          rw [Nat.mul_one]
        · rw [← all_mul (F := fun u => nat (pt ((p * e : Nat) : Int) (u : Int) s)) (by omega)]
          refine all_cg fun r hr => ?_
          rw [ih (n - 1) (by omega) (by omega) (pt p r s) e (pt_vl p1 hv hpm) (by omega) (pt_dvd (by omega) hm)]
          refine all_cg fun u _ => ?_
          rw [pt_pt (by omega) he (List.mem_range.1 hr)]
      · have hcop : Nat.gcd p d = 1 := by
          have h1 := Nat.gcd_dvd_left p d
          have h2 := Nat.gcd_dvd_right p d
          have h3 := Nat.gcd_pos_of_pos_left d (show 0 < p by omega)
          rcases Nat.lt_or_ge (Nat.gcd p d) 2 with h | h
          · omega
          · exfalso
            have hle := Nat.le_of_dvd (by omega) h1
            rcases Nat.lt_or_ge (Nat.gcd p d) p with h4 | h4
            · exact pmin _ h h4 (Nat.mod_eq_zero_of_dvd (Nat.dvd_trans h2 hdg))
            · have : Nat.gcd p d = p := by omega
              rw [this] at h2
              exact hpd h2
        have hpdg : p * d ∣ gcdL s := Nat.Coprime.mul_dvd_of_dvd_of_dvd hcop p2 hdg
        have hpdm : ∀ c ∈ s, ((p * d : Nat) : Int) ∣ c.2 := fun c hc => by
          have := Int.natCast_dvd_natCast.2 (Nat.dvd_trans hpdg (gcdL_dvd hc))
          have h := hv c hc
          rwa [Int.toNat_of_nonneg (by omega)] at this
        have hdpm : ∀ c ∈ s, ((d * p : Nat) : Int) ∣ c.2 := fun c hc => by rw [Nat.mul_comm]; exact hpdm c hc
        have L : ((List.range p).all fun r => nat (pt p r s)) = (List.range (p * d)).all fun u => nat (pt ((p * d : Nat) : Int) (u : Int) s) := by
          rw [← all_mul (F := fun u => nat (pt ((p * d : Nat) : Int) (u : Int) s)) (by omega)]
          refine all_cg fun r hr => ?_
          rw [ih (n - 1) (by omega) (by omega) (pt p r s) d (pt_vl p1 hv hpm) hd (pt_dvd (by omega) hpdm)]
          refine all_cg fun u _ => ?_
          rw [pt_pt (by omega) (by omega) (List.mem_range.1 hr)]
        have R : ((List.range d).all fun r => nat (pt d r s)) = (List.range (d * p)).all fun u => nat (pt ((d * p : Nat) : Int) (u : Int) s) := by
          rw [← all_mul (F := fun u => nat (pt ((d * p : Nat) : Int) (u : Int) s)) (by omega)]
          refine all_cg fun r hr => ?_
          rw [ih (n - 1) (by omega) (by omega) (pt d r s) p (pt_vl hd hv hm) p1 (pt_dvd (by omega) hdpm)]
          refine all_cg fun u _ => ?_
          rw [pt_pt (by omega) (by omega) (List.mem_range.1 hr)]
        rw [L, R, Nat.mul_comm d p]
end Go.Proofs.YtnmlljhgilpocaaDoor
