/- The times of the numbers below the period add up to the share; what follows for systems that are apart, and for those that cover all. -/
import Derived.Test.YtgdpebnnmklbjaaMathA
import Derived.Test.YtgdpebnnmklbjaaS2
import Derived.Test.YtgdpebnnmklbjaaS15
namespace Go.Proofs.Ytgdpebnnmklbjaa
def sumF (f : Nat → Int) : Nat → Int
  | 0 => 0
  | n + 1 => sumF f n + f n
theorem sumF_zero (n : Nat) : sumF (fun _ => 0) n = 0 := by
  induction n with
  | zero => rfl
  | succ n ih => simp only [sumF, ih]; rfl
theorem sumF_add (f g : Nat → Int) (n : Nat) : sumF (fun x => f x + g x) n = sumF f n + sumF g n := by
  induction n with
  | zero => rfl
  | succ n ih => simp only [sumF, ih]; omega
theorem sumF_split (f : Nat → Int) (a b : Nat) : sumF f (a + b) = sumF f a + sumF (fun x => f (a + x)) b := by
  induction b with
  | zero => simp [sumF]
  | succ b ih =>
    rw [← Nat.add_assoc]
    simp only [sumF, ih]
    omega
theorem sumF_congr {f g : Nat → Int} {n : Nat} (h : ∀ x, x < n → f x = g x) : sumF f n = sumF g n := by
  induction n with
  | zero => rfl
  | succ n ih => simp only [sumF]; rw [ih fun x hx => h x (by omega), h n (by omega)]
theorem sumF_le {f : Nat → Int} {n : Nat} (h : ∀ x, x < n → f x ≤ 1) : sumF f n ≤ n := by
  induction n with
  | zero => simp [sumF]
  | succ n ih => simp only [sumF]; have := ih fun x hx => h x (by omega); have := h n (by omega); omega
theorem sumF_ge {f : Nat → Int} {n : Nat} (h : ∀ x, x < n → 1 ≤ f x) : (n : Int) ≤ sumF f n := by
  induction n with
  | zero => simp [sumF]
  | succ n ih => simp only [sumF]; have := ih fun x hx => h x (by omega); have := h n (by omega); omega
/-- at most 1 each, and the sum is the number of them: each is 1 -/
theorem sumF_tight {f : Nat → Int} {n : Nat} (h : ∀ x, x < n → f x ≤ 1) (hs : (n : Int) ≤ sumF f n) : ∀ x, x < n → 1 ≤ f x := by
  induction n with
  | zero => intro x hx; omega
  | succ n ih =>
    simp only [sumF] at hs
    have hl := sumF_le fun x (hx : x < n) => h x (by omega)
    have hn := h n (by omega)
    intro x hx
    by_cases e : x < n
    · exact ih (fun x hx => h x (by omega)) (by omega) x e
    · obtain rfl : x = n := by omega
      omega
theorem sumF_tight2 {f : Nat → Int} {n : Nat} (h : ∀ x, x < n → 1 ≤ f x) (hs : sumF f n ≤ n) : ∀ x, x < n → f x ≤ 1 := by
  induction n with
  | zero => intro x hx; omega
  | succ n ih =>
    simp only [sumF] at hs
    have hl := sumF_ge fun x (hx : x < n) => h x (by omega)
    have hn := h n (by omega)
    intro x hx
    by_cases e : x < n
    · exact ih (fun x hx => h x (by omega)) (by omega) x e
    · obtain rfl : x = n := by omega
      omega
def one1 (r m : Int) (x : Nat) : Int := if (x : Int) % m = r then 1 else 0
theorem one_part {r m : Int} (h0 : 0 ≤ r) (n : Nat) (hn : (n : Int) ≤ m) : sumF (one1 r m) n = if r < n then 1 else 0 := by
  induction n with
  | zero => simp [sumF]; omega
  | succ n ih =>
    simp only [sumF, one1]
    rw [ih (by omega), Int.emod_eq_of_lt (by omega) (by omega)]
    split <;> split <;> split <;> omega
theorem one_sum {r : Int} {m : Nat} (h0 : 0 ≤ r) (h1 : r < m) (q : Nat) : sumF (one1 r m) (m * q) = q := by
  induction q with
  | zero => simp [sumF]
  | succ q ih =>
    rw [Nat.mul_add, Nat.mul_one, sumF_split, ih]
    have : sumF (fun x => one1 r m (m * q + x)) m = sumF (one1 r m) m := sumF_congr fun x _ => by
      unfold one1
      rw [Int.natCast_add, Int.natCast_mul, Int.mul_add_emod_self_left]
    rw [this, one_part h0 m (Int.le_refl _), if_pos h1]
    omega
theorem cnt_sumK {zs : List Cl} (hs : sysB zs = true) (P : Nat) (hP : perI zs = P) (k : Nat) (hk : k ≤ zs.length) : sumF (fun x => cntK zs x k) P = shrK P zs k := by
  obtain ⟨_, _, ha, _, _, _⟩ := sysB_facts hs
  induction k with
  | zero =>
    exact sumF_zero P
  | succ k ih =>
    obtain ⟨m1, _, r1, r2⟩ := inB_iff.1 (allB_at ha k (by omega))
    obtain ⟨q, hq⟩ := sys_dvd hs k (by omega)
    have e : (fun x : Nat => cntK zs x (k + 1)) = fun x : Nat => cntK zs x k + one1 (rAt zs k) (mAt zs k) x := rfl
    rw [e, sumF_add, ih (by omega)]
    simp only [shrK]
    congr 1
    rw [hP] at hq
    obtain ⟨m, hm⟩ := Int.eq_ofNat_of_zero_le (show 0 ≤ mAt zs k by omega)
    have hq0 : 0 ≤ q := by
      have : 0 ≤ mAt zs k * q := by omega
      exact Int.nonneg_of_mul_nonneg_right this (show 0 < mAt zs k by omega)
    obtain ⟨qn, rfl⟩ := Int.eq_ofNat_of_zero_le hq0
    rw [hm] at hq m1 r2 ⊢
    have hPn : P = m * qn := by
      have : ((P : Nat) : Int) = ((m * qn : Nat) : Int) := by rw [hq, Int.natCast_mul]
      omega
    rw [hPn, one_sum r1 r2 qn, Int.natCast_mul, Int.mul_ediv_cancel_left _ (by omega)]
theorem cnt_sum {zs : List Cl} (hs : sysB zs = true) (P : Nat) (hP : perI zs = P) : sumF (fun x => cntN zs x) P = shrI zs := by
  have := cnt_sumK hs P hP zs.length (Nat.le_refl _)
  unfold shrI
  rw [hP]
  exact this
theorem holK_nil {zs : List Cl} {k : Nat} : holK zs k = [] ↔ ∀ x : Nat, x < k → 1 ≤ cntN zs x := by
  induction k with
  | zero => simp [holK]
  | succ k ih =>
    have hb := (cntK_bd zs (k : Int) zs.length).1
    have hb' : 0 ≤ cntN zs k := hb
    simp only [holK]
    cases he : (cntN zs k == 0)
    · have hne : ¬ cntN zs k = 0 := by simpa using he
      rw [cond_false, ih]
      constructor
      · intro h x hx
        by_cases e : x < k
        · exact h x e
        · obtain rfl : x = k := by omega
          omega
      · exact fun h x hx => h x (by omega)
    · have h0 : cntN zs k = 0 := by simpa using he
      rw [cond_true]
      constructor
      · intro h; simp at h
      · intro h
        have := h k (by omega)
        omega
theorem al_iff {zs : List Cl} (hs : sysB zs = true) (P : Nat) (hP : perI zs = P) : alB zs = true ↔ ∀ x : Nat, x < P → 1 ≤ cntN zs x := by
  unfold alB holL
  rw [hs, hP, Bool.true_and, List.isEmpty_iff, Int.toNat_natCast]
  exact holK_nil
theorem apr_iff {zs : List Cl} (hs : sysB zs = true) (P : Nat) (hP : perI zs = P) : aprB zs = true ↔ ∀ x : Nat, x < P → cntN zs x ≤ 1 := by
  unfold aprB
  rw [hs, Bool.true_and, apa_times hs, hP]
  exact ⟨fun h x hx => h x (by omega), fun h x hx => h x (by omega)⟩
theorem per_nat {zs : List Cl} (hs : sysB zs = true) : ∃ P : Nat, perI zs = P := by
  obtain ⟨_, _, _, _, P1, _⟩ := sysB_facts hs
  exact ⟨(perI zs).toNat, by omega⟩
/-- apart: the share is not greater than the period -/
theorem apr_share {zs : List Cl} (hs : sysB zs = true) (ha : aprB zs = true) : shrI zs ≤ perI zs := by
  obtain ⟨P, hP⟩ := per_nat hs
  rw [← cnt_sum hs P hP, hP]
  exact sumF_le ((apr_iff hs P hP).1 ha)
theorem al_share {zs : List Cl} (hs : sysB zs = true) (ha : alB zs = true) : perI zs ≤ shrI zs := by
  obtain ⟨P, hP⟩ := per_nat hs
  rw [← cnt_sum hs P hP, hP]
  exact sumF_ge ((al_iff hs P hP).1 ha)
/-- the share is the period: it covers all just if it is apart -/
theorem share_both {zs : List Cl} (hs : sysB zs = true) (he : shrI zs = perI zs) : alB zs = aprB zs := by
  obtain ⟨P, hP⟩ := per_nat hs
  have hsum := cnt_sum hs P hP
  rw [he, hP] at hsum
  rw [Bool.eq_iff_iff, al_iff hs P hP, apr_iff hs P hP]
  exact ⟨fun h => sumF_tight2 h (by omega), fun h => sumF_tight h (by omega)⟩
end Go.Proofs.Ytgdpebnnmklbjaa
