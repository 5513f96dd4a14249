/- Towards twins: powers of a number whose differences are units (a sum of few of them that is nought at 1, 2, .. has no terms), and periodic parts struck out of a sum. -/
import Derived.Test.YtnmlljhgilpocaaDoorMathT
import Derived.Test.YtnmlljhgilpocaaDoorMgH
import Derived.Test.YtnmlljhgilpocaaDoorMathW
import Derived.Test.YtnmlljhgilpocaaDoorS44
namespace Go.Proofs.YtnmlljhgilpocaaDoor
open Go.RowKit
theorem expS_dvd {Q : Int} {l : List (Int × Int)} (h : ∀ p ∈ l, Q ∣ p.1) (x : Nat) : Q ∣ expS l x := by
  induction l with
  | nil => simp [expS]
  | cons p t ih =>
    simp only [expS]
    exact Int.dvd_add (Int.dvd_mul_of_dvd_left (h p List.mem_cons_self)) (ih fun q hq => h q (List.mem_cons_of_mem _ hq))
theorem vander {Q : Int} : ∀ (n : Nat) (l : List (Int × Int)), l.length = n → l.Pairwise (fun p q => Int.gcd Q (q.2 - p.2) = 1) → (∀ p ∈ l, Int.gcd Q p.2 = 1) → (∀ k, 1 ≤ k → k ≤ n → Q ∣ expS l k) → ∀ p ∈ l, Q ∣ p.1 := by
  intro n
  induction n with
  | zero =>
    intro l hl _ _ _ p hp
    have : l = [] := List.eq_nil_of_length_eq_zero hl
    subst this
    cases hp
  | succ n ih =>
    intro l hl hpw hu hk
    match l, hl with
    | (c, b) :: t, hl =>
      have hlt : t.length = n := by simpa using hl
      obtain ⟨hp1, hp2⟩ := List.pairwise_cons.1 hpw
      have h1 : ∀ p ∈ t.map (fun p => (p.1 * (p.2 - b), p.2)), Q ∣ p.1 := by
        refine ih _ (by simpa using hlt) ?_ ?_ ?_
        · rw [List.pairwise_map]
          exact hp2
        · intro p hp
          obtain ⟨q, hq, rfl⟩ := List.mem_map.1 hp
          exact hu q (List.mem_cons_of_mem _ hq)
        · intro k k1 k2
          have e := expS_step c b t k
          have d1 := hk (k + 1) (by omega) (by omega)
          have d2 := hk k k1 (by omega)
          have : expS (t.map fun p => (p.1 * (p.2 - b), p.2)) k = expS ((c, b) :: t) (k + 1) - b * expS ((c, b) :: t) k := by omega
          rw [this]
          exact Int.dvd_sub d1 (Int.dvd_mul_of_dvd_right d2)
      have h2 : ∀ p ∈ t, Q ∣ p.1 := by
        intro p hp
        have := h1 _ (List.mem_map.2 ⟨p, hp, rfl⟩)
        refine dvd_part (a := p.2 - b) ?_ (hp1 p hp)
        rw [Int.mul_comm]
        exact this
      have h3 := hk 1 (by omega) (by omega)
      simp only [expS, Int.pow_one] at h3
      have h4 := expS_dvd h2 1
      have h5 : Q ∣ b * c := by
        have := Int.dvd_sub h3 h4
        rw [Int.add_sub_cancel] at this
        rw [Int.mul_comm]
        exact this
      intro p hp
      rcases List.mem_cons.1 hp with rfl | hp
      · exact dvd_part h5 (hu (c, b) List.mem_cons_self)
      · exact h2 p hp
/-- a sequence that goes by the factor v, and periodic ones besides, whose sum is nought: it is nought itself -/
theorem kill {Q v : Int} : ∀ (bs : List (Nat × (Nat → Int))) (h : Nat → Int), (∀ x, Q ∣ v * h (x + 1) - h x) → (∀ b ∈ bs, ∀ x, b.2 (x + b.1) = b.2 x) → (∀ b ∈ bs, Int.gcd Q (v ^ b.1 - 1) = 1) → (∀ x, Q ∣ h x + (bs.map fun b => b.2 x).sum) → ∀ x, Q ∣ h x
  | [], h, _, _, _, hs, x => by simpa using hs x
  | (m, f) :: bs, h, hv, hp, hu, hs, x => by
    have hvm : ∀ (j x : Nat), Q ∣ v ^ j * h (x + j) - h x := by
      intro j
      induction j with
      | zero => intro x; simp
      | succ j ih =>
        intro x
        have d1 := ih x
        have d2 := hv (x + j)
        have e : v ^ (j + 1) * h (x + (j + 1)) - h x = v ^ j * (v * h (x + j + 1) - h (x + j)) + (v ^ j * h (x + j) - h x) := by
          rw [Int.mul_sub, Int.pow_succ, Int.mul_assoc, show x + (j + 1) = x + j + 1 by omega]
          omega
        rw [e]
        exact Int.dvd_add (Int.dvd_mul_of_dvd_right d2) d1
    have key : ∀ x, Q ∣ h (x + m) - h x := by
      refine kill (v := v) (bs.map fun b => (b.1, fun x => b.2 (x + m) - b.2 x)) (fun x => h (x + m) - h x) ?_ ?_ ?_ ?_
      · intro x
        have d1 := hv (x + m)
        have d2 := hv x
        have e : v * (h (x + 1 + m) - h (x + 1)) - (h (x + m) - h x) = (v * h (x + m + 1) - h (x + m)) - (v * h (x + 1) - h x) := by
          rw [Int.mul_sub, show x + 1 + m = x + m + 1 by omega]
          omega
        rw [e]
        exact Int.dvd_sub d1 d2
      · intro b hb x
        obtain ⟨b', hb', rfl⟩ := List.mem_map.1 hb
        have hq := hp b' (List.mem_cons_of_mem _ hb')
        show b'.2 (x + b'.1 + m) - b'.2 (x + b'.1) = b'.2 (x + m) - b'.2 x
        rw [show x + b'.1 + m = x + m + b'.1 by omega, hq, hq]
      · intro b hb
        obtain ⟨b', hb', rfl⟩ := List.mem_map.1 hb
        exact hu b' (List.mem_cons_of_mem _ hb')
      · intro x
        have d1 := hs (x + m)
        have d2 := hs x
        simp only [List.map_cons, List.sum_cons] at d1 d2
        have hf : f (x + m) = f x := hp (m, f) List.mem_cons_self x
        rw [hf] at d1
        have hsum : (List.map (fun b : Nat × (Nat → Int) => b.2 x) (bs.map fun b => (b.1, fun x => b.2 (x + m) - b.2 x))).sum = (bs.map fun b => b.2 (x + m)).sum - (bs.map fun b => b.2 x).sum := by
          clear d1 d2 hs hp hu hv hvm hf
          induction bs with
          | nil => simp
          | cons b t ih =>
            simp only [List.map_cons, List.sum_cons]
            rw [ih]
            omega
        rw [hsum]
        have := Int.dvd_sub d1 d2
        have e : h (x + m) + (f x + (bs.map fun b => b.2 (x + m)).sum) - (h x + (f x + (bs.map fun b => b.2 x).sum)) = h (x + m) - h x + ((bs.map fun b => b.2 (x + m)).sum - (bs.map fun b => b.2 x).sum) := by omega
        rw [← e]
        exact this
    have d1 := hvm m x
    have d2 := key x
    have e : (v ^ m - 1) * h x = (v ^ m * h (x + m) - h x) - v ^ m * (h (x + m) - h x) := by
      rw [Int.sub_mul, Int.one_mul, Int.mul_sub]
      omega
    refine dvd_part (a := v ^ m - 1) ?_ (hu (m, f) List.mem_cons_self)
    rw [e]
    exact Int.dvd_sub d1 (Int.dvd_mul_of_dvd_right d2)
  termination_by bs => bs.length
end Go.Proofs.YtnmlljhgilpocaaDoor
namespace Go.Proofs.YtnmlljhgilpocaaDoor
open Go.RowKit
def sgS (v : Int) (f : Nat → Int) (x : Nat) : Nat → Int
  | 0 => 0
  | n + 1 => sgS v f x n + v ^ n * f (x + n)
theorem sgS_next (v : Int) (f : Nat → Int) (x : Nat) : ∀ n, v * sgS v f (x + 1) n = sgS v f x n + v ^ n * f (x + n) - f x := by
  intro n
  induction n with
  | zero => simp [sgS]
  | succ n ih =>
    simp only [sgS]
    have e : v * v ^ n = v ^ (n + 1) := by rw [Int.pow_succ, Int.mul_comm]
    rw [Int.mul_add, ih, ← Int.mul_assoc, e, show x + 1 + n = x + (n + 1) by omega]
    show _ = sgS v f x n + v ^ n * f (x + n) + v ^ (n + 1) * f (x + (n + 1)) - f x
    omega
theorem sgS_per {v : Int} {f : Nat → Int} {m : Nat} (h : ∀ x, f (x + m) = f x) (x : Nat) : ∀ n, sgS v f (x + m) n = sgS v f x n := by
  intro n
  induction n with
  | zero => rfl
  | succ n ih =>
    simp only [sgS]
    rw [ih, show x + m + n = x + n + m by omega, h]
theorem sgS_add (v : Int) (f g : Nat → Int) (x : Nat) : ∀ n, sgS v (fun y => f y + g y) x n = sgS v f x n + sgS v g x n := by
  intro n
  induction n with
  | zero => rfl
  | succ n ih =>
    simp only [sgS]
    rw [ih, Int.mul_add]
    omega
theorem sgS_zero (v : Int) (x : Nat) : ∀ n, sgS v (fun _ => 0) x n = 0 := by
  intro n
  induction n with
  | zero => rfl
  | succ n ih => simp only [sgS]; rw [ih]; simp
def indC (c : Cl) (x : Nat) : Int := if (x : Int) % c.2 = c.1 then 1 else 0
theorem indC_per {c : Cl} (h : 0 ≤ c.2) (x : Nat) : indC c (x + c.2.toNat) = indC c x := by
  unfold indC
  have e : ((x + c.2.toNat : Nat) : Int) % c.2 = (x : Int) % c.2 := by
    rw [Int.natCast_add, Int.toNat_of_nonneg h, Int.add_emod_right]
  rw [e]
theorem ind_sum (zs : List Cl) (x : Nat) : (zs.map fun c => indC c x).sum = cntN zs x := by
  rw [cntN_countP]
  induction zs with
  | nil => rfl
  | cons c t ih =>
    rw [List.map_cons, List.sum_cons, ih, List.countP_cons]
    unfold indC
    by_cases h : (x : Int) % c.2 = c.1
    · simp [h]; omega
    · have hb : ((x : Int) % c.2 == c.1) = false := by simpa using h
      simp [h, hb]
theorem sgS_sum (v : Int) (n x : Nat) (zs : List Cl) : (zs.map fun c => sgS v (indC c) x n).sum = sgS v (fun y => (zs.map fun c => indC c y).sum) x n := by
  induction zs with
  | nil => exact (sgS_zero v x n).symm
  | cons c t ih =>
    rw [List.map_cons, List.sum_cons, ih]
    rw [← sgS_add]
    rfl
theorem sgS_ind {v : Int} {c : Cl} (h0 : 0 ≤ c.1) : ∀ n : Nat, (n : Int) ≤ c.2 → sgS v (indC c) 0 n = if c.1 < n then v ^ c.1.toNat else 0 := by
  intro n
  induction n with
  | zero => intro _; rw [if_neg (by omega)]; rfl
  | succ n ih =>
    intro hn
    simp only [sgS]
    rw [ih (by omega), Nat.zero_add]
    have e : (n : Int) % c.2 = n := Int.emod_eq_of_lt (by omega) (by omega)
    unfold indC
    rw [e]
    by_cases h : (n : Int) = c.1
    · rw [if_pos h, if_neg (by omega), if_pos (by omega), ← h]
      simp
    · rw [if_neg h]
      by_cases h2 : c.1 < (n : Int)
      · rw [if_pos h2, if_pos (by omega)]; simp
      · rw [if_neg h2, if_neg (by omega)]; simp
theorem sum_part (p : Cl → Bool) (f : Cl → Int) (zs : List Cl) : ((zs.filter p).map f).sum + ((zs.filter fun c => !p c).map f).sum = (zs.map f).sum := by
  induction zs with
  | nil => rfl
  | cons c t ih =>
    rw [List.map_cons, List.sum_cons, ← ih]
    cases h : p c
    · rw [List.filter_cons_of_neg (by simp [h]), List.filter_cons_of_pos (by simp [h]), List.map_cons, List.sum_cons]; omega
    · rw [List.filter_cons_of_pos h, List.filter_cons_of_neg (by simp [h]), List.map_cons, List.sum_cons]; omega
/-- the classes of modulus M -/
def mxL (zs : List Cl) (M : Nat) : List Cl := zs.filter fun c => c.2 == (M : Int)
def mxE (zs : List Cl) (M : Nat) : List (Int × Int) := (mxL zs M).map fun c => (1, ((wOf M : Nat) : Int) ^ c.1.toNat)
theorem wOf_pos (N : Nat) : 1 ≤ wOf N := by unfold wOf; cases (Nat.beq N 1 || Nat.beq N 6) <;> decide
theorem w_unit {M e : Nat} (h1 : 1 ≤ M) (h2 : M ≤ 1000) (he : ¬ M ∣ e) : Int.gcd (mOf M : Int) (((wOf M : Nat) : Int) ^ e - 1) = 1 := by
  have hu := unit_of (okN_all M h1 h2) h1 he
  have hp : 1 ≤ wOf M ^ e := Nat.one_le_pow _ _ (wOf_pos M)
  have e2 : ((wOf M : Nat) : Int) ^ e - 1 = ((wOf M ^ e - 1 : Nat) : Int) := by rw [Int.natCast_sub hp, Int.natCast_pow]; rfl
  rw [e2, Int.gcd_natCast_natCast]
  exact hu
theorem w_turn {M : Nat} (h1 : 1 ≤ M) (h2 : M ≤ 1000) (j : Nat) : (mOf M : Int) ∣ (((wOf M : Nat) : Int) ^ j) ^ M - 1 := by
  obtain ⟨_, hN, _⟩ := ok_facts (okN_all M h1 h2)
  have hp : 1 ≤ (wOf M ^ j) ^ M := Nat.one_le_pow _ _ (Nat.one_le_pow _ _ (wOf_pos M))
  have e2 : (((wOf M : Nat) : Int) ^ j) ^ M - 1 = (((wOf M ^ j) ^ M - 1 : Nat) : Int) := by rw [Int.natCast_sub hp, Int.natCast_pow, Int.natCast_pow]; rfl
  rw [e2]
  refine Int.natCast_dvd_natCast.2 (Nat.dvd_of_mod_eq_zero (Nat.sub_mod_eq_zero_of_mod_eq ?_))
  rw [← Nat.pow_mul, Nat.mul_comm j M, Nat.pow_mul, Nat.pow_mod, hN, ← Nat.pow_mod, Nat.one_pow]
theorem expS_mx (zs : List Cl) (M j : Nat) : expS (mxE zs M) j = ((mxL zs M).map fun c => (((wOf M : Nat) : Int) ^ j) ^ c.1.toNat).sum := by
  unfold mxE
  induction mxL zs M with
  | nil => rfl
  | cons c t ih =>
    simp only [List.map_cons, List.sum_cons, expS]
    rw [ih, Int.one_mul]
    congr 1
    have pm : ∀ (a : Nat) (x y : Nat), (((a : Nat) : Int) ^ x) ^ y = ((a ^ (x * y) : Nat) : Int) := fun a x y => by
      rw [Nat.pow_mul, Int.natCast_pow, Int.natCast_pow]
    rw [pm, pm, Nat.mul_comm]
/-- a power of w at which the sum over the greatest modulus' classes is nought -/
theorem mx_zero {zs : List Cl} {M : Nat} (h1 : 1 ≤ M) (h2 : M ≤ 1000) (hv : ∀ c ∈ zs, 1 ≤ c.2 ∧ c.2 ≤ (M : Int) ∧ 0 ≤ c.1 ∧ c.1 < c.2) (hone : ∀ x : Nat, cntN zs x = 1) (j : Nat) (hj1 : ¬ M ∣ j)
    (hj : ∀ m, 1 ≤ m → m < M → ¬ M ∣ j * m) : (mOf M : Int) ∣ expS (mxE zs M) j := by
  generalize hvv : ((wOf M : Nat) : Int) ^ j = v
  have hturn := w_turn h1 h2 j
  rw [hvv] at hturn
  have hpow : ∀ m, v ^ m = ((wOf M : Nat) : Int) ^ (j * m) := fun m => by
    rw [← hvv, Int.pow_mul]
  have key := kill (Q := (mOf M : Int)) (v := v) ((1, fun x => sgS v (fun _ => -1) x M) :: (zs.filter fun c => !(c.2 == (M : Int))).map fun c => (c.2.toNat, fun x => sgS v (indC c) x M)) (fun x => ((mxL zs M).map fun c => sgS v (indC c) x M).sum) ?_ ?_ ?_ ?_ 0
  · rw [expS_mx, hvv]
    have e : ((mxL zs M).map fun c => v ^ c.1.toNat) = (mxL zs M).map fun c => sgS v (indC c) 0 M := by
      refine List.map_congr_left fun c hc => ?_
      unfold mxL at hc
      obtain ⟨hc1, hc2⟩ := List.mem_filter.1 hc
      have hc2 : c.2 = (M : Int) := by simpa using hc2
      obtain ⟨a, b, d, e⟩ := hv c hc1
      rw [sgS_ind d M (by omega), if_pos (by omega)]
    rw [e]
    exact key
  · intro x
    have hall : ∀ c ∈ mxL zs M, c.2 = (M : Int) := fun c hc => by
      unfold mxL at hc
      simpa using (List.mem_filter.1 hc).2
    show (mOf M : Int) ∣ v * ((mxL zs M).map fun c => sgS v (indC c) (x + 1) M).sum - ((mxL zs M).map fun c => sgS v (indC c) x M).sum
    revert hall
    generalize mxL zs M = l
    intro hall
    induction l with
    | nil => simp
    | cons c t ih =>
      have i := ih fun c hc => hall c (List.mem_cons_of_mem _ hc)
      have hcM := hall c List.mem_cons_self
      simp only [List.map_cons, List.sum_cons]
      have e := sgS_next v (indC c) x M
      have hp : indC c (x + M) = indC c x := by
        have := indC_per (c := c) (by omega) x
        rwa [show c.2.toNat = M by omega] at this
      rw [hp] at e
      rw [Int.mul_add, e]
      have e2 : sgS v (indC c) x M + v ^ M * indC c x - indC c x + v * (List.map (fun c => sgS v (indC c) (x + 1) M) t).sum - (sgS v (indC c) x M + (List.map (fun c => sgS v (indC c) x M) t).sum) = (v ^ M - 1) * indC c x + (v * (List.map (fun c => sgS v (indC c) (x + 1) M) t).sum - (List.map (fun c => sgS v (indC c) x M) t).sum) := by
        rw [Int.sub_mul, Int.one_mul]
        omega
      rw [e2]
      exact Int.dvd_add (Int.dvd_mul_of_dvd_left hturn) i
  · intro b hb x
    rcases List.mem_cons.1 hb with rfl | hb
    · exact sgS_per (fun _ => rfl) x M
    · obtain ⟨c, hc, rfl⟩ := List.mem_map.1 hb
      obtain ⟨a, _⟩ := hv c (List.mem_filter.1 hc).1
      exact sgS_per (indC_per (by omega)) x M
  · intro b hb
    rcases List.mem_cons.1 hb with rfl | hb
    · rw [hpow, Nat.mul_one]
      exact w_unit h1 h2 hj1
    · obtain ⟨c, hc, rfl⟩ := List.mem_map.1 hb
      obtain ⟨hc1, hc2⟩ := List.mem_filter.1 hc
      obtain ⟨a, b, _⟩ := hv c hc1
      have hne : ¬ c.2 = (M : Int) := by simpa using hc2
      rw [hpow]
      exact w_unit h1 h2 (hj c.2.toNat (by omega) (by omega))
  · intro x
    have e := sum_part (fun c => c.2 == (M : Int)) (fun c => sgS v (indC c) x M) zs
    have e2 := sgS_sum v M x zs
    have e3 : (fun y : Nat => (zs.map fun c => indC c y).sum) = fun _ => 1 := by
      funext y
      rw [ind_sum, hone]
    rw [e3] at e2
    have e4 := sgS_add v (fun _ => 1) (fun _ => -1) x M
    have e5 := sgS_zero v x M
    have e6 : (fun _ : Nat => (1 : Int) + -1) = fun _ => 0 := by funext _; rfl
    rw [e6, e5] at e4
    rw [List.map_cons, List.sum_cons, List.map_map]
    have e7 : (mxL zs M).map (fun c => sgS v (indC c) x M) = (zs.filter fun c => c.2 == (M : Int)).map (fun c => sgS v (indC c) x M) := rfl
    rw [e7]
    have e8 : ((fun b : Nat × (Nat → Int) => b.2 x) ∘ fun c : Cl => (c.2.toNat, fun x => sgS v (indC c) x M)) = fun c => sgS v (indC c) x M := rfl
    rw [e8]
    have e9 : List.sum ((zs.filter fun c => c.2 == (M : Int)).map (fun c => sgS v (indC c) x M)) + (sgS v (fun _ => -1) x M + List.sum ((zs.filter fun c => !(c.2 == (M : Int))).map (fun c => sgS v (indC c) x M))) = 0 := by omega
    rw [e9]
    exact Int.dvd_zero _
theorem w_cop {w M q : Nat} (h0 : 0 < M) (h : w ^ M % q = 1 % q) : Nat.Coprime q w := by
  have h1 : Nat.Coprime q (w ^ M) := by
    show Nat.gcd q (w ^ M) = 1
    rw [Nat.gcd_rec, h, ← Nat.gcd_rec]
    exact Nat.gcd_one_right _
  exact Nat.Coprime.coprime_dvd_right ⟨w ^ (M - 1), by rw [← Nat.pow_succ', show (M - 1).succ = M by omega]⟩ h1
theorem w_differ {M a b : Nat} (h1 : 1 ≤ M) (h2 : M ≤ 1000) (ha : a < M) (hb : b < M) (hab : a ≠ b) : Int.gcd (mOf M : Int) (((wOf M : Nat) : Int) ^ b - ((wOf M : Nat) : Int) ^ a) = 1 := by
  have hw : ∀ e, Int.gcd (mOf M : Int) (((wOf M : Nat) : Int) ^ e) = 1 := fun e => by
    obtain ⟨_, hN, _⟩ := ok_facts (okN_all M h1 h2)
    rw [← Int.natCast_pow, Int.gcd_natCast_natCast]
    refine Nat.Coprime.pow_right e ?_
    exact w_cop (by omega) hN
  have main : ∀ a b, a < b → b < M → Int.gcd (mOf M : Int) (((wOf M : Nat) : Int) ^ b - ((wOf M : Nat) : Int) ^ a) = 1 := by
    intro a b hab hb
    have e : ((wOf M : Nat) : Int) ^ b - ((wOf M : Nat) : Int) ^ a = ((wOf M : Nat) : Int) ^ a * (((wOf M : Nat) : Int) ^ (b - a) - 1) := by
      rw [Int.mul_sub, Int.mul_one, ← Int.pow_add, show a + (b - a) = b by omega]
    rw [e]
    have hu := w_unit (e := b - a) h1 h2 fun hd => by have := Nat.le_of_dvd (by omega) hd; omega
    have hw := hw a
    rw [Int.gcd, Int.natAbs_mul]
    exact Nat.Coprime.mul_right hw hu
  rcases Nat.lt_or_ge a b with h | h
  · exact main a b h hb
  · have := main b a (by omega) ha
    rw [← Int.neg_sub, Int.gcd_neg]
    exact this
/-- the greatest modulus stands at least p times, p its least divisor from 2 on -/
theorem mx_many {zs : List Cl} {M p : Nat} (h1 : 2 ≤ M) (h2 : M ≤ 1000) (hv : ∀ c ∈ zs, 1 ≤ c.2 ∧ c.2 ≤ (M : Int) ∧ 0 ≤ c.1 ∧ c.1 < c.2) (hone : ∀ x : Nat, cntN zs x = 1)
    (hp : ∀ d, 2 ≤ d → d < p → ¬ d ∣ M) (hpM : p ≤ M) (hex : ∃ c ∈ zs, c.2 = (M : Int)) : p ≤ (mxL zs M).length := by
  refine Classical.byContradiction fun hlt => ?_
  have hlen : (mxE zs M).length = (mxL zs M).length := by unfold mxE; rw [List.length_map]
  have hQ := (ok_facts (okN_all M (by omega) h2)).1
  have hmem : ∀ c ∈ mxL zs M, c.2 = (M : Int) ∧ c ∈ zs := fun c hc => by
    unfold mxL at hc
    exact ⟨by simpa using (List.mem_filter.1 hc).2, (List.mem_filter.1 hc).1⟩
  have hz := vander (Q := (mOf M : Int)) (mxE zs M).length (mxE zs M) rfl ?_ ?_ ?_
  · obtain ⟨c, hc, hcM⟩ := hex
    have : c ∈ mxL zs M := List.mem_filter.2 ⟨hc, by simpa using hcM⟩
    have := hz _ (List.mem_map.2 ⟨c, this, rfl⟩)
    have := Int.natCast_dvd_natCast.1 (show ((mOf M : Nat) : Int) ∣ ((1 : Nat) : Int) from this)
    have := Nat.le_of_dvd (by omega) this
    omega
  · unfold mxE
    rw [List.pairwise_map, List.pairwise_iff_forall_sublist]
    intro a b hab
    have hA := hmem a (hab.subset List.mem_cons_self)
    have hB := hmem b (hab.subset (List.mem_cons_of_mem _ List.mem_cons_self))
    obtain ⟨_, _, a3, a4⟩ := hv a hA.2
    obtain ⟨_, _, b3, b4⟩ := hv b hB.2
    refine w_differ (by omega) h2 (by omega) (by omega) fun he => ?_
    have hsub : [a, b].Sublist zs := hab.trans List.filter_sublist
    have hc := hsub.countP_le (p := fun c => ((a.1.toNat : Nat) : Int) % c.2 == c.1)
    have h5 := hone a.1.toNat
    rw [cntN_countP] at h5
    have ea : ((a.1.toNat : Nat) : Int) % a.2 = a.1 := by rw [Int.toNat_of_nonneg a3, Int.emod_eq_of_lt a3 a4]
    have eb : ((a.1.toNat : Nat) : Int) % b.2 = b.1 := by
      have : a.1 = b.1 := by omega
      rw [Int.toNat_of_nonneg a3, this, Int.emod_eq_of_lt b3 b4]
    have h6 : [a, b].countP (fun c => ((a.1.toNat : Nat) : Int) % c.2 == c.1) = 2 := by
      rw [List.countP_cons, List.countP_cons, List.countP_nil, ea, eb]
      simp
    omega
  · intro q hq
    obtain ⟨c, hc, rfl⟩ := List.mem_map.1 hq
    obtain ⟨_, hN, _⟩ := ok_facts (okN_all M (by omega) h2)
    show Int.gcd (mOf M : Int) (((wOf M : Nat) : Int) ^ c.1.toNat) = 1
    rw [← Int.natCast_pow, Int.gcd_natCast_natCast]
    refine Nat.Coprime.pow_right _ ?_
    exact w_cop (by omega) hN
  · intro k k1 k2
    have hcop : Nat.Coprime M k := by
      refine Classical.byContradiction fun hnc => ?_
      have hg0 : 0 < Nat.gcd M k := Nat.gcd_pos_of_pos_left _ (by omega)
      have hg : Nat.gcd M k ≠ 1 := hnc
      have hgk := Nat.le_of_dvd (by omega) (Nat.gcd_dvd_right M k)
      exact hp _ (by omega) (by omega) (Nat.gcd_dvd_left M k)
    refine mx_zero (by omega) h2 hv hone k (fun hd => ?_) fun m m1 m2 hd => ?_
    · have := Nat.le_of_dvd (by omega) hd
      omega
    · have := Nat.le_of_dvd (by omega) (hcop.dvd_of_dvd_mul_left hd)
      omega
end Go.Proofs.YtnmlljhgilpocaaDoor
namespace Go.Proofs.YtnmlljhgilpocaaDoor
open Go.RowKit
theorem exa_one {zs : List Cl} (hs : sysB zs = true) (h : exaB zs = true) (x : Int) : cntN zs x = 1 := by
  unfold exaB at h
  rw [Bool.and_eq_true] at h
  obtain ⟨P, hP⟩ := per_nat hs
  obtain ⟨_, _, _, _, P1, _⟩ := sysB_facts hs
  have h1 := (al_iff hs P hP).1 h.1
  have h2 := (apa_int hs).1 h.2 x
  have h3 : 1 ≤ cntN zs x := by
    rw [cnt_modF hs x]
    have hb := emod_bd x (perI zs) P1
    obtain ⟨y, hy⟩ := Int.eq_ofNat_of_zero_le hb.1
    rw [hy]
    exact h1 y (by omega)
  omega
theorem mod_last {zs : List Cl} (hl : 1 ≤ zs.length) : (∃ c ∈ zs, c.2 = (modL zs).getD (zs.length - 1) 0) ∧ ∀ c ∈ zs, c.2 ≤ (modL zs).getD (zs.length - 1) 0 := by
  have hlen := modL_length zs
  have hg : ∀ j (h : j < (modL zs).length), (modL zs).getD j 0 = (modL zs)[j] := fun j h => by simp [h]
  have hL : (modL zs).Pairwise (· ≤ ·) := by
    unfold modL
    rw [List.pairwise_map]
    refine (srtL_asc zs).imp fun {a b} h => ?_
    unfold leC at h
    omega
  constructor
  · have hm : (modL zs)[zs.length - 1]'(by omega) ∈ modL zs := List.getElem_mem _
    rw [← hg] at hm
    generalize (modL zs).getD (zs.length - 1) 0 = M at *
    unfold modL at hm
    obtain ⟨c, hc, e⟩ := List.mem_map.1 hm
    exact ⟨c, (srtL_perm zs).subset hc, e⟩
  · intro c hc
    have hm : c.2 ∈ modL zs := List.mem_map.2 ⟨c, (srtL_perm zs).symm.subset hc, rfl⟩
    obtain ⟨q, hq, e⟩ := List.mem_iff_getElem.1 hm
    rw [← e, hg _ (by omega)]
    rcases Nat.lt_or_ge q (zs.length - 1) with h | h
    · exact List.pairwise_iff_getElem.1 hL q (zs.length - 1) (by omega) (by omega) h
    · have e2 : q = zs.length - 1 := by omega
      subst e2
      exact Int.le_refl _
theorem twn_one {zs : List Cl} (hs : sysB zs = true) : 1 ≤ twiI zs ∧ twiI zs ≤ 8 := by
  obtain ⟨i, h1, _, h3⟩ := twi_index hs
  obtain ⟨_, l2, _⟩ := sysB_facts hs
  unfold twiI
  rw [hs, selI_t, h3]
  omega
theorem twn_facts {zs : List Cl} (hs : sysB zs = true) (h : exaB zs = true) (hl : 2 ≤ zs.length) :
    ∃ M : Nat, 2 ≤ M ∧ M ≤ 1000 ∧ (modL zs).getD (zs.length - 1) 0 = (M : Int) ∧ ∀ q : Nat, 2 ≤ q → q ≤ M → (∀ d, 2 ≤ d → d < q → ¬ d ∣ M) → (q : Int) ≤ twiI zs := by
  obtain ⟨l1, l2, ha, _⟩ := sysB_facts hs
  have hone := exa_one hs h
  have hin : ∀ c ∈ zs, 1 ≤ c.2 ∧ c.2 ≤ 1000 ∧ 0 ≤ c.1 ∧ c.1 < c.2 := fun c hc => inB_iff.1 (List.all_eq_true.1 ha c hc)
  obtain ⟨⟨c, hc, hcM⟩, hmax⟩ := mod_last l1
  obtain ⟨f1, f2, f3, _⟩ := twF_facts ha zs.length (Nat.le_refl _)
  generalize hT : (modL zs).getD (zs.length - 1) 0 = T at *
  have hTb := hin c hc
  have hTW : T = (twF zs zs.length).1 := by
    obtain ⟨j, hj, e⟩ := f3 (by omega)
    have e2 : mAt zs j = zs[j].2 := by simp [mAt, hj]
    have a := hmax zs[j] (List.getElem_mem hj)
    obtain ⟨k, hk, e3⟩ := List.mem_iff_getElem.1 hc
    have b := f1 k hk
    have e4 : mAt zs k = zs[k].2 := by simp [mAt, hk]
    rw [e3] at e4
    omega
  obtain ⟨M, hM⟩ := Int.eq_ofNat_of_zero_le (show 0 ≤ T by omega)
  have hM : T = (M : Int) := hM
  have hcount : twiI zs = ((mxL zs M).length : Int) := by
    unfold twiI
    rw [hs, selI_t, f2, ← hTW, hM, List.take_length, List.countP_eq_length_filter]
    rfl
  refine ⟨M, ?_, by omega, hM, fun q q1 q2 hq => ?_⟩
  · refine Classical.byContradiction fun hlt => ?_
    have h0 := hone 0
    rw [cntN_countP] at h0
    have : zs.countP (fun c => (0 : Int) % c.2 == c.1) = zs.length := by
      rw [List.countP_eq_length]
      intro d hd
      have a := hin d hd
      have b := hmax d hd
      have : d.1 = 0 := by omega
      rw [this]
      simp
    omega
  · rw [hcount]
    have := mx_many (p := q) (by omega) (by omega) (fun d hd => by
      have a := hin d hd
      have b := hmax d hd
      omega) (fun x => hone x) hq q2 ⟨c, hc, by omega⟩
    omega
end Go.Proofs.YtnmlljhgilpocaaDoor
