/- k classes that cover 2 to the k numbers in a row cover all numbers (Crittenden and Vanden Eynden, for moduli whose least common multiple is at most 1000): a product of factors 1 - u v^x modulo a number that divides w^N - 1 and is prime to w^d - 1 for the smaller divisors d of N. -/
import Derived.Test.YtelgmmnjndinhaaMathE
namespace Go.Proofs.Ytelgmmnjndinhaa
def expS : List (Int × Int) → Nat → Int
  | [], _ => 0
  | p :: t, x => p.1 * p.2 ^ x + expS t x
theorem expS_append (l k : List (Int × Int)) (x : Nat) : expS (l ++ k) x = expS l x + expS k x := by
  induction l with
  | nil => simp [expS]
  | cons p t ih => simp [expS, ih, Int.add_assoc]
theorem expS_scale (l : List (Int × Int)) (c b : Int) (x : Nat) : expS (l.map fun p => (c * p.1, b * p.2)) x = c * b ^ x * expS l x := by
  induction l with
  | nil => simp [expS]
  | cons p t ih =>
    simp only [List.map_cons, expS, ih, Int.mul_add, Int.mul_pow]
    congr 1
    rw [Int.mul_assoc, Int.mul_assoc, Int.mul_left_comm p.1]
theorem expS_step (c b : Int) (t : List (Int × Int)) (x : Nat) : expS ((c, b) :: t) (x + 1) = b * expS ((c, b) :: t) x + expS (t.map fun p => (p.1 * (p.2 - b), p.2)) x := by
  have h : ∀ t : List (Int × Int), expS t (x + 1) = b * expS t x + expS (t.map fun p => (p.1 * (p.2 - b), p.2)) x := by
    intro t
    induction t with
    | nil => simp [expS]
    | cons p t ih =>
      simp only [List.map_cons, expS, ih, Int.mul_add, Int.mul_sub, Int.sub_mul, Int.pow_succ]
      have e1 : p.1 * (p.2 ^ x * p.2) = p.1 * p.2 * p.2 ^ x := by rw [Int.mul_comm (p.2 ^ x), Int.mul_assoc]
      have e2 : b * (p.1 * p.2 ^ x) = p.1 * b * p.2 ^ x := by rw [← Int.mul_assoc, Int.mul_comm b]
      rw [e1, e2]
      omega
  have h2 := h t
  simp only [expS, Int.mul_add, Int.pow_succ]
  rw [h2]
  have e2 : b * (c * b ^ x) = c * (b ^ x * b) := by rw [Int.mul_comm (b ^ x), ← Int.mul_assoc, ← Int.mul_assoc, Int.mul_comm b]
  rw [e2]
  omega
theorem expS_zero (M : Int) : ∀ (n : Nat) (l : List (Int × Int)), l.length = n → (∀ i, i < n → M ∣ expS l i) → ∀ x, M ∣ expS l x := by
  intro n
  induction n with
  | zero =>
    intro l hl _ x
    have : l = [] := List.eq_nil_of_length_eq_zero hl
    subst this
    exact Int.dvd_zero _
  | succ n ih =>
    intro l hl h x
    cases l with
    | nil => simp at hl
    | cons p t =>
      obtain ⟨c, b⟩ := p
      have hG := ih (t.map fun p => (p.1 * (p.2 - b), p.2)) (by simpa using hl) (fun i hi => by
        have h1 := h (i + 1) (by omega)
        have h2 := h i (by omega)
        rw [expS_step] at h1
        exact (Int.dvd_iff_dvd_of_dvd_add h1).1 (Int.dvd_mul_of_dvd_right h2))
      induction x with
      | zero => exact h 0 (by omega)
      | succ x ihx =>
        rw [expS_step]
        exact Int.dvd_add (Int.dvd_mul_of_dvd_right ihx) (hG x)
def prodL : List (Int × Int) → List (Int × Int)
  | [] => [(1, 1)]
  | f :: t => prodL t ++ (prodL t).map fun p => (-f.1 * p.1, f.2 * p.2)
def prodF : List (Int × Int) → Nat → Int
  | [], _ => 1
  | f :: t, x => (1 - f.1 * f.2 ^ x) * prodF t x
theorem prodL_length (fs : List (Int × Int)) : (prodL fs).length = 2 ^ fs.length := by
  induction fs with
  | nil => rfl
  | cons f t ih => simp [prodL, ih, Nat.pow_succ]; omega
theorem prodL_eq (fs : List (Int × Int)) (x : Nat) : expS (prodL fs) x = prodF fs x := by
  induction fs with
  | nil => simp [prodL, expS, prodF, Int.one_pow]
  | cons f t ih =>
    rw [prodL, expS_append, expS_scale, ih, prodF, Int.sub_mul, Int.one_mul, Int.neg_mul, Int.neg_mul]
    omega
theorem prod_zero {M : Int} {fs : List (Int × Int)} (h : ∀ i, i < 2 ^ fs.length → M ∣ prodF fs i) (x : Nat) : M ∣ prodF fs x := by
  rw [← prodL_eq]
  exact expS_zero M _ (prodL fs) (prodL_length fs) (fun i hi => by rw [prodL_eq]; exact h i hi) x
theorem prod_of {M : Int} {fs : List (Int × Int)} {x : Nat} {f : Int × Int} (hf : f ∈ fs) (h : M ∣ 1 - f.1 * f.2 ^ x) : M ∣ prodF fs x := by
  induction fs with
  | nil => cases hf
  | cons g t ih =>
    rw [prodF]
    rcases List.mem_cons.1 hf with rfl | hf
    · exact Int.dvd_mul_of_dvd_left h
    · exact Int.dvd_mul_of_dvd_right (ih hf)
theorem dvd_part {M a b : Int} (h : M ∣ a * b) (hg : Int.gcd M a = 1) : M ∣ b := by
  rw [← Int.natAbs_dvd_natAbs] at h ⊢
  rw [Int.natAbs_mul] at h
  exact Nat.Coprime.dvd_of_dvd_mul_left hg h
theorem prod_unit {M : Int} {fs : List (Int × Int)} {x : Nat} (h : ∀ f ∈ fs, Int.gcd M (1 - f.1 * f.2 ^ x) = 1) (hd : M ∣ prodF fs x) : M ∣ 1 := by
  induction fs with
  | nil => exact hd
  | cons g t ih =>
    rw [prodF] at hd
    exact ih (fun f hf => h f (List.mem_cons_of_mem _ hf)) (dvd_part hd (h g List.mem_cons_self))
/-! the modulus -/
def wOf (N : Nat) : Nat := bif Nat.beq N 1 || Nat.beq N 6 then 3 else 2
def strip : Nat → Nat → Nat → Nat
  | 0, m, _ => m
  | f + 1, m, h => strip f (Nat.div m (Nat.gcd m h)) h
def divs (N : Nat) : List Nat := (List.range (N / 2 + 1)).filter fun d => Nat.blt 0 d && Nat.beq (Nat.mod N d) 0
def mOf (N : Nat) : Nat := (divs N).foldr (fun d m => strip 8 m (Nat.sub (Nat.pow (wOf N) d) 1)) (Nat.sub (Nat.pow (wOf N) N) 1)
def okN (N : Nat) : Bool := Nat.blt 1 (mOf N) && Nat.beq (Nat.mod (Nat.sub (Nat.pow (wOf N) N) 1) (mOf N)) 0 && (divs N).all fun d => Nat.beq (Nat.gcd (mOf N) (Nat.sub (Nat.pow (wOf N) d) 1)) 1
def chk (lo n : Nat) : Bool := (List.range n).all fun i => okN (lo + i)
theorem chk0 : chk 1 250 = true := by decide +kernel
theorem chk1 : chk 251 250 = true := by decide +kernel
theorem chk2 : chk 501 250 = true := by decide +kernel
theorem chk3 : chk 751 250 = true := by decide +kernel

theorem strip_dvd : ∀ (f m h : Nat), strip f m h ∣ m := by
  intro f
  induction f with
  | zero => intro m h; exact Nat.dvd_refl _
  | succ f ih =>
    intro m h
    exact Nat.dvd_trans (ih _ _) (Nat.div_dvd_of_dvd (Nat.gcd_dvd_left m h))
theorem dvd_strip2 {w g a b : Nat} (ha : w ^ a % g = 1 % g) (hb : w ^ b % g = 1 % g) : w ^ (Nat.gcd a b) % g = 1 % g := by
  induction a, b using Nat.gcd.induction with
  | H0 n => simpa using hb
  | H1 m n hm ih =>
    rw [Nat.gcd_rec]
    refine ih ?_ ha
    have e : n = m * (n / m) + n % m := (Nat.div_add_mod n m).symm
    rw [e, Nat.pow_add, Nat.mul_mod, Nat.pow_mul, Nat.pow_mod, ha] at hb
    rw [← Nat.pow_mod] at hb
    simpa [Nat.mul_mod_mod, Nat.mod_mul_mod] using hb
theorem okN_all (N : Nat) (h1 : 1 ≤ N) (h2 : N ≤ 1000) : okN N = true := by
  have part : ∀ lo, chk lo 250 = true → lo ≤ N → N < lo + 250 → okN N = true := fun lo h a b => by
    have := List.all_eq_true.1 h (N - lo) (List.mem_range.2 (by omega))
    rwa [show lo + (N - lo) = N by omega] at this
  rcases Nat.lt_or_ge N 251 with h | h
  · exact part 1 chk0 h1 h
  rcases Nat.lt_or_ge N 501 with h' | h'
  · exact part 251 chk1 h h'
  rcases Nat.lt_or_ge N 751 with h'' | h''
  · exact part 501 chk2 h' h''
  · exact part 751 chk3 h'' (by omega)
theorem ok_facts {N : Nat} (h : okN N = true) : 1 < mOf N ∧ wOf N ^ N % mOf N = 1 % mOf N ∧ ∀ d, 0 < d → d < N → d ∣ N → Nat.gcd (mOf N) (wOf N ^ d - 1) = 1 := by
  unfold okN at h
  simp only [Bool.and_eq_true, Nat.blt_eq, List.all_eq_true] at h
  obtain ⟨⟨a, b⟩, c⟩ := h
  have hw : 1 ≤ wOf N := by unfold wOf; cases (Nat.beq N 1 || Nat.beq N 6) <;> decide
  have hp : 1 ≤ wOf N ^ N := Nat.one_le_pow _ _ hw
  refine ⟨a, ?_, fun d h0 hd hdv => ?_⟩
  · have hb : (wOf N ^ N - 1) % mOf N = 0 := Nat.eq_of_beq_eq_true b
    have e : wOf N ^ N = (wOf N ^ N - 1) + 1 := by omega
    rw [e, Nat.add_mod, hb, Nat.zero_add, Nat.mod_mod]
  · refine Nat.eq_of_beq_eq_true (c d ?_)
    unfold divs
    rw [List.mem_filter]
    refine ⟨List.mem_range.2 ?_, ?_⟩
    · obtain ⟨q, rfl⟩ := hdv
      have : 2 ≤ q := by
        rcases q with _ | _ | q
        · omega
        · omega
        · omega
      have := Nat.mul_le_mul_left d this
      have h3 : d ≤ d * q / 2 := by omega
      omega
    · simp only [Bool.and_eq_true, Nat.blt_eq]
      exact ⟨h0, (fun {a b : Nat} (h : a = b) => (by subst h; exact Nat.beq_refl a : Nat.beq a b = true)) (Nat.mod_eq_zero_of_dvd hdv)⟩
/-- an exponent that is no multiple of N -/
theorem unit_of {N e : Nat} (h : okN N = true) (h1 : 1 ≤ N) (he : ¬ N ∣ e) : Nat.gcd (mOf N) (wOf N ^ e - 1) = 1 := by
  obtain ⟨_, hN, hd⟩ := ok_facts h
  have hw : 1 ≤ wOf N := by unfold wOf; cases (Nat.beq N 1 || Nat.beq N 6) <;> decide
  generalize hg : Nat.gcd (mOf N) (wOf N ^ e - 1) = g
  have g1 : g ∣ mOf N := hg ▸ Nat.gcd_dvd_left _ _
  have g2 : g ∣ wOf N ^ e - 1 := hg ▸ Nat.gcd_dvd_right _ _
  have one_of : ∀ k, g ∣ wOf N ^ k - 1 → wOf N ^ k % g = 1 % g := fun k hk => by
    have hp : 1 ≤ wOf N ^ k := Nat.one_le_pow _ _ hw
    have e : wOf N ^ k = (wOf N ^ k - 1) + 1 := by omega
    rw [e, Nat.add_mod, Nat.mod_eq_zero_of_dvd hk, Nat.zero_add, Nat.mod_mod]
  have hN2 : wOf N ^ N % g = 1 % g := by
    have := congrArg (· % g) hN
    simpa [Nat.mod_mod_of_dvd _ g1] using this
  have hk := dvd_strip2 (one_of e g2) hN2
  have hdv : Nat.gcd e N ∣ N := Nat.gcd_dvd_right _ _
  have hle := Nat.le_of_dvd (by omega) hdv
  have hne : Nat.gcd e N ≠ N := fun h3 => he (h3 ▸ Nat.gcd_dvd_left e N)
  have hpos : 0 < Nat.gcd e N := Nat.gcd_pos_of_pos_right _ (by omega)
  have hu := hd (Nat.gcd e N) hpos (by omega) hdv
  have hp : 1 ≤ wOf N ^ Nat.gcd e N := Nat.one_le_pow _ _ hw
  have g3 : g ∣ wOf N ^ Nat.gcd e N - 1 := Nat.dvd_of_mod_eq_zero (Nat.sub_mod_eq_zero_of_mod_eq hk)
  have := Nat.dvd_gcd g1 g3
  rw [hu] at this
  exact Nat.dvd_one.1 this

def expo (N : Nat) (c : Nat × Nat) (x : Nat) : Nat := N / c.2 * (c.2 - c.1 + x)
theorem expo_dvd {N x : Nat} {c : Nat × Nat} (h1 : 1 ≤ N) (hc : c.1 < c.2) (hd : c.2 ∣ N) : N ∣ expo N c x ↔ x % c.2 = c.1 := by
  obtain ⟨a, m⟩ := c
  obtain ⟨e, rfl⟩ := hd
  simp only at hc
  have hm : 0 < m := by omega
  have he : 0 < e := Nat.pos_of_mul_pos_left (show 0 < m * e from h1)
  unfold expo
  simp only
  rw [Nat.mul_div_cancel_left _ hm, Nat.mul_comm m e]
  constructor
  · intro h
    obtain ⟨k, hk⟩ := Nat.dvd_of_mul_dvd_mul_left he h
    obtain ⟨j, rfl⟩ : ∃ j, k = j + 1 := ⟨k - 1, by
      rcases k with _ | k
      · rw [Nat.mul_zero] at hk; omega
      · omega⟩
    rw [Nat.mul_add, Nat.mul_one] at hk
    have : x = m * j + a := by omega
    rw [this, Nat.mul_add_mod, Nat.mod_eq_of_lt hc]
  · intro h
    refine Nat.mul_dvd_mul_left e ⟨x / m + 1, ?_⟩
    have := Nat.div_add_mod x m
    rw [Nat.mul_add, Nat.mul_one]
    omega
theorem pow_parts (w e a x : Nat) : w ^ (e * a) * (w ^ e) ^ x = w ^ (e * (a + x)) := by rw [← Nat.pow_mul, ← Nat.pow_add, ← Nat.mul_add]
/-- k classes that cover 2 to the k numbers in a row cover all -/
theorem cover_all {N : Nat} (ok : okN N = true) (h1 : 1 ≤ N) (zs : List (Nat × Nat)) (hz : ∀ c ∈ zs, c.1 < c.2 ∧ c.2 ∣ N) (h : ∀ i, i < 2 ^ zs.length → ∃ c ∈ zs, i % c.2 = c.1) (x : Nat) : ∃ c ∈ zs, x % c.2 = c.1 := by
  obtain ⟨hM1, hMN, _⟩ := ok_facts ok
  have hw : 1 ≤ wOf N := by unfold wOf; cases (Nat.beq N 1 || Nat.beq N 6) <;> decide
  refine Classical.byContradiction fun hx => ?_
  have key : ∀ (c : Nat × Nat) (y : Nat), (((wOf N ^ (N / c.2 * (c.2 - c.1)) : Nat) : Int)) * ((wOf N ^ (N / c.2) : Nat) : Int) ^ y = ((wOf N ^ expo N c y : Nat) : Int) := fun c y => by
    rw [← Int.natCast_pow, ← Int.natCast_mul, pow_parts]
    rfl
  have hz0 : ∀ i, i < 2 ^ (zs.map fun c => (((wOf N ^ (N / c.2 * (c.2 - c.1)) : Nat) : Int), ((wOf N ^ (N / c.2) : Nat) : Int))).length → (mOf N : Int) ∣ prodF (zs.map fun c => (((wOf N ^ (N / c.2 * (c.2 - c.1)) : Nat) : Int), ((wOf N ^ (N / c.2) : Nat) : Int))) i := fun i hi => by
    rw [List.length_map] at hi
    obtain ⟨c, hc, hi2⟩ := h i hi
    refine prod_of (List.mem_map.2 ⟨c, hc, rfl⟩) ?_
    simp only
    rw [key]
    obtain ⟨q, hq⟩ := (expo_dvd (x := i) h1 (hz c hc).1 (hz c hc).2).2 hi2
    have hp : 1 ≤ wOf N ^ expo N c i := Nat.one_le_pow _ _ hw
    have hm : wOf N ^ expo N c i % mOf N = 1 % mOf N := by
      rw [hq, Nat.pow_mul, Nat.pow_mod, hMN, ← Nat.pow_mod, Nat.one_pow]
    have := Nat.dvd_of_mod_eq_zero (Nat.sub_mod_eq_zero_of_mod_eq hm)
    have h3 := Int.natCast_dvd_natCast.2 this
    rw [Int.natCast_sub hp] at h3
    have h4 := Int.dvd_neg.2 h3
    rwa [Int.neg_sub] at h4
  have hd := prod_zero hz0 x
  have := prod_unit (fun f hf => by
    obtain ⟨c, hc, rfl⟩ := List.mem_map.1 hf
    simp only
    rw [key]
    have hne : ¬ N ∣ expo N c x := fun hh => hx ⟨c, hc, (expo_dvd h1 (hz c hc).1 (hz c hc).2).1 hh⟩
    have hu := unit_of ok h1 hne
    have hp : 1 ≤ wOf N ^ expo N c x := Nat.one_le_pow _ _ hw
    have e : (1 : Int) - ((wOf N ^ expo N c x : Nat) : Int) = -((wOf N ^ expo N c x - 1 : Nat) : Int) := by rw [Int.natCast_sub hp]; omega
    rw [e, Int.gcd_neg, Int.gcd_natCast_natCast]
    exact hu) hd
  have := Int.natCast_dvd_natCast.1 (show ((mOf N : Nat) : Int) ∣ ((1 : Nat) : Int) from this)
  have := Nat.le_of_dvd (by omega) this
  omega
theorem cov_all {P : Int} {zs : List Cl} (hD : Div P zs) (h : ∀ i : Nat, i < 2 ^ zs.length → covB zs (i : Int) = true) (x : Nat) : covB zs (x : Int) = true := by
  have hP := hD.1
  have hP2 := hD.2.1
  have h1 : 1 ≤ P.toNat := by omega
  have conv : ∀ (c : Cl), c ∈ zs → ∀ y : Nat, ((y : Int) % c.2 == c.1) = true ↔ y % c.2.toNat = c.1.toNat := fun c hc y => by
    obtain ⟨m1, _, r1, r2⟩ := inB_iff.1 (hD.2.2 c hc).1
    rw [beq_iff_eq]
    have e : ((y % c.2.toNat : Nat) : Int) = (y : Int) % c.2 := by rw [Int.natCast_emod, Int.toNat_of_nonneg (by omega)]
    omega
  obtain ⟨c', hc', hx⟩ := cover_all (okN_all P.toNat h1 (by omega)) h1 (zs.map fun c => (c.1.toNat, c.2.toNat)) (fun c' hc' => by
    obtain ⟨c, hc, rfl⟩ := List.mem_map.1 hc'
    obtain ⟨m1, _, r1, r2⟩ := inB_iff.1 (hD.2.2 c hc).1
    refine ⟨by simp only; omega, ?_⟩
    have hd := (hD.2.2 c hc).2
    obtain ⟨q, hq⟩ := hd
    have : 0 ≤ q := Int.nonneg_of_mul_nonneg_right (by omega) (show 0 < c.2 by omega)
    exact ⟨q.toNat, by simp only; rw [hq, Int.toNat_mul (by omega) this]⟩) (fun i hi => by
    rw [List.length_map] at hi
    have := h i hi
    rw [covB_any, List.any_eq_true] at this
    obtain ⟨c, hc, h2⟩ := this
    exact ⟨_, List.mem_map.2 ⟨c, hc, rfl⟩, (conv c hc i).1 h2⟩) x
  obtain ⟨c, hc, rfl⟩ := List.mem_map.1 hc'
  rw [covB_any, List.any_eq_true]
  exact ⟨c, hc, (conv c hc x).2 hx⟩
end Go.Proofs.Ytelgmmnjndinhaa
