/- Chapter 7 in plain: sums of moved functions, their powers modulo a prime (the way to Tijdeman's theorem). -/
import Derived.Test.YtiplnfggiffngaaMathTa
namespace Go.Proofs.Ytiplnfggiffngaa
/-- the sum of a function moved by each of a list -/
def shS : List Int → (Int → Int) → Int → Int
  | [], _, _ => 0
  | a :: A, f, x => f (x + a) + shS A f x
def pwS (A : List Int) : Nat → (Int → Int) → Int → Int
  | 0, f => f
  | m + 1, f => shS A (pwS A m f)
theorem shS_add (A : List Int) (f g : Int → Int) (x : Int) : shS A (fun y => f y + g y) x = shS A f x + shS A g x := by
  induction A with
  | nil => rfl
  | cons a A ih => simp only [shS, ih]; omega
theorem shS_mov (A : List Int) (f : Int → Int) (c x : Int) : shS A (fun y => f (y + c)) x = shS A f (x + c) := by
  induction A with
  | nil => rfl
  | cons a A ih => simp only [shS, ih]; rw [show x + a + c = x + c + a by omega]
theorem shS_congr {A : List Int} {f g : Int → Int} (h : ∀ y, f y = g y) (x : Int) : shS A f x = shS A g x := by
  rw [show f = g from funext h]
theorem pwS_const (A : List Int) (c : Int) : ∀ (m : Nat) (x : Int), pwS A m (fun _ => c) x = (A.length : Int) ^ m * c
  | 0, x => by simp [pwS]
  | m + 1, x => by
    have hc : ∀ (B : List Int) (d y : Int), shS B (fun _ => d) y = (B.length : Int) * d := by
      intro B d y
      induction B with
      | nil => simp [shS]
      | cons b B ih => simp only [shS, ih, List.length_cons, Int.natCast_add, Int.add_mul]; simp; omega
    show shS A (pwS A m fun _ => c) x = _
    rw [shS_congr (fun y => pwS_const A c m y), hc, Int.pow_succ, ← Int.mul_assoc, Int.mul_comm ((A.length : Int) ^ m)]
theorem pwS_in (A : List Int) (f : Int → Int) : ∀ (m : Nat) (x : Int), pwS A (m + 1) f x = pwS A m (shS A f) x
  | 0, _ => rfl
  | m + 1, x => by
    show shS A (pwS A (m + 1) f) x = shS A (pwS A m (shS A f)) x
    exact shS_congr (fun y => pwS_in A f m y) x
/-- words of two letters, m of them -/
def wrd : Nat → (Nat → Nat → Int) → Int
  | 0, F => F 0 0
  | m + 1, F => wrd m (fun i j => F (i + 1) j) + wrd m (fun i j => F i (j + 1))
theorem shS_wrd (A : List Int) (x : Int) : ∀ (m : Nat) (F : Nat → Nat → Int → Int), shS A (fun y => wrd m fun i j => F i j y) x = wrd m fun i j => shS A (F i j) x
  | 0, _ => rfl
  | m + 1, F => by
    simp only [wrd]
    rw [shS_add, shS_wrd A x m, shS_wrd A x m]
theorem pwS_cons (a : Int) (A : List Int) (f : Int → Int) : ∀ (m : Nat) (x : Int), pwS (a :: A) m f x = wrd m fun i j => pwS A j f (x + i * a)
  | 0, x => by simp [pwS, wrd]
  | m + 1, x => by
    show pwS (a :: A) m f (x + a) + shS A (pwS (a :: A) m f) x = _
    rw [pwS_cons a A f m (x + a), shS_congr (fun y => pwS_cons a A f m y), shS_wrd A x m]
    simp only [wrd]
    congr 1
    · congr 1
      funext i j
      rw [show x + a + (i : Int) * a = x + ((i + 1 : Nat) : Int) * a by rw [Int.natCast_add, Int.add_mul]; simp; omega]
    · congr 1
      funext i j
      exact shS_mov A (pwS A j f) _ x
/-! binomials -/
def bin : Nat → Nat → Nat
  | _, 0 => 1
  | 0, _ + 1 => 0
  | m + 1, k + 1 => bin m k + bin m (k + 1)
theorem bin_gt : ∀ (m k : Nat), m < k → bin m k = 0
  | 0, k + 1, _ => rfl
  | m + 1, k + 1, h => by rw [bin, bin_gt m k (by omega), bin_gt m (k + 1) (by omega)]
theorem bin_self : ∀ m, bin m m = 1
  | 0 => rfl
  | m + 1 => by rw [bin, bin_self m, bin_gt m (m + 1) (by omega)]
theorem bin_mul : ∀ (m k : Nat), (k + 1) * bin (m + 1) (k + 1) = (m + 1) * bin m k
  | 0, 0 => rfl
  | 0, k + 1 => by simp [bin]
  | m + 1, 0 => by
    have := bin_mul m 0
    simp only [bin, Nat.mul_one, Nat.one_mul, Nat.zero_add] at this ⊢
    omega
  | m + 1, k + 1 => by
    have h1 := bin_mul m k
    have h2 := bin_mul m (k + 1)
    have e1 : bin (m + 1 + 1) (k + 1 + 1) = bin (m + 1) (k + 1) + bin (m + 1) (k + 1 + 1) := rfl
    have e2 : bin (m + 1) (k + 1) = bin m k + bin m (k + 1) := rfl
    rw [e1, Nat.mul_add, h2]
    have e3 : (k + 1 + 1) * bin (m + 1) (k + 1) = (m + 1) * bin m k + bin (m + 1) (k + 1) := by rw [← h1, Nat.succ_mul]
    rw [e3, e2, Nat.succ_mul (m + 1), Nat.mul_add]
    omega
/-- sums of the first m -/
def smF : Nat → (Nat → Int) → Int
  | 0, _ => 0
  | m + 1, F => smF m F + F m
theorem smF_first (F : Nat → Int) : ∀ m, smF (m + 1) F = F 0 + smF m fun i => F (i + 1)
  | 0 => by simp [smF]
  | m + 1 => by
    rw [smF, smF_first F m, smF]
    omega
theorem smF_add (F G : Nat → Int) : ∀ m, smF m (fun i => F i + G i) = smF m F + smF m G
  | 0 => rfl
  | m + 1 => by simp only [smF, smF_add F G m]; omega
theorem smF_congr {F G : Nat → Int} : ∀ {m : Nat}, (∀ i, i < m → F i = G i) → smF m F = smF m G
  | 0, _ => rfl
  | m + 1, h => by rw [smF, smF, smF_congr (fun i hi => h i (by omega)), h m (by omega)]
theorem wrd_bin : ∀ (m : Nat) (F : Nat → Nat → Int), wrd m F = smF (m + 1) fun i => (bin m i : Int) * F i (m - i)
  | 0, F => by simp [wrd, smF, bin]
  | m + 1, F => by
    rw [wrd, wrd_bin m, wrd_bin m, smF_first (fun i => (bin (m + 1) i : Int) * F i (m + 1 - i)) (m + 1)]
    have e1 : smF (m + 1) (fun i => (bin (m + 1) (i + 1) : Int) * F (i + 1) (m + 1 - (i + 1))) = smF (m + 1) (fun i => (bin m i : Int) * F (i + 1) (m - i)) + smF (m + 1) (fun i => (bin m (i + 1) : Int) * F (i + 1) (m - i)) := by
      rw [← smF_add]
      refine smF_congr fun i _ => ?_
      rw [show bin (m + 1) (i + 1) = bin m i + bin m (i + 1) from rfl, Int.natCast_add, Int.add_mul, show m + 1 - (i + 1) = m - i by omega]
    have e2 : smF (m + 1) (fun i => (bin m i : Int) * F i (m - i + 1)) = F 0 (m + 1) + smF m (fun i => (bin m (i + 1) : Int) * F (i + 1) (m - (i + 1) + 1)) := by
      rw [smF_first]
      simp [bin]
    have e3 : smF (m + 1) (fun i => (bin m (i + 1) : Int) * F (i + 1) (m - i)) = smF m (fun i => (bin m (i + 1) : Int) * F (i + 1) (m - (i + 1) + 1)) := by
      rw [smF, bin_gt m (m + 1) (by omega)]
      simp only [Int.natCast_zero, Int.zero_mul, Int.add_zero]
      refine smF_congr fun i hi => ?_
      rw [show m - (i + 1) + 1 = m - i by omega]
    rw [e1, e2, e3]
    simp only [bin, Nat.sub_zero]
    omega
/-! a prime divides the inner binomials -/
theorem bin_prime {p : Nat} (hp : ∀ d, d ∣ p → d = 1 ∨ d = p) {i : Nat} (h0 : 0 < i) (h1 : i < p) : p ∣ bin p i := by
  obtain ⟨q, rfl⟩ : ∃ q, p = q + 1 := ⟨p - 1, by omega⟩
  obtain ⟨j, rfl⟩ : ∃ j, i = j + 1 := ⟨i - 1, by omega⟩
  have hd : q + 1 ∣ (j + 1) * bin (q + 1) (j + 1) := ⟨bin q j, bin_mul q j⟩
  have hc : Nat.Coprime (q + 1) (j + 1) := by
    rcases hp _ (Nat.gcd_dvd_left (q + 1) (j + 1)) with h | h
    · exact h
    · have := Nat.le_of_dvd (by omega) (h ▸ Nat.gcd_dvd_right (q + 1) (j + 1) : q + 1 ∣ j + 1)
      omega
  exact hc.dvd_of_dvd_mul_left hd
theorem smF_dvd {d : Int} {F : Nat → Int} : ∀ {m : Nat}, (∀ i, i < m → d ∣ F i) → d ∣ smF m F
  | 0, _ => ⟨0, by simp [smF]⟩
  | m + 1, h => Int.dvd_add (smF_dvd fun i hi => h i (by omega)) (h m (by omega))
theorem pwS_prime {p : Nat} (hp : ∀ d, d ∣ p → d = 1 ∨ d = p) (h2 : 2 ≤ p) (f : Int → Int) : ∀ (A : List Int) (x : Int),
    (p : Int) ∣ pwS A p f x - shS (A.map fun a => (p : Int) * a) f x
  | [], x => by
    obtain ⟨q, rfl⟩ : ∃ q, p = q + 1 := ⟨p - 1, by omega⟩
    exact ⟨0, by simp [pwS, shS]⟩
  | a :: A, x => by
    have ih := pwS_prime hp h2 f A x
    obtain ⟨q, rfl⟩ : ∃ q, p = q + 1 := ⟨p - 1, by omega⟩
    rw [pwS_cons, wrd_bin, smF, smF_first]
    have hm : (((q + 1 : Nat) : Int)) ∣ smF q fun i => (bin (q + 1) (i + 1) : Int) * pwS A (q + 1 - (i + 1)) f (x + ((i + 1 : Nat) : Int) * a) :=
      smF_dvd fun i hi => Int.dvd_mul_of_dvd_left (Int.natCast_dvd_natCast.2 (bin_prime hp (by omega) (by omega)))
    have e0 : (bin (q + 1) 0 : Int) * pwS A (q + 1 - 0) f (x + ((0 : Nat) : Int) * a) = pwS A (q + 1) f x := by simp [bin]
    have e1 : (bin (q + 1) (q + 1) : Int) * pwS A (q + 1 - (q + 1)) f (x + ((q + 1 : Nat) : Int) * a) = f (x + ((q + 1 : Nat) : Int) * a) := by
      rw [bin_self]; simp [pwS]
    rw [e0, e1]
    simp only [List.map_cons, shS]
    obtain ⟨u, hu⟩ := ih
    obtain ⟨v, hv⟩ := hm
    exact ⟨u + v, by rw [hv, Int.mul_add, ← hu]; omega⟩
/-! sums over a period -/
theorem smF_per {n : Nat} {f : Int → Int} (hf : ∀ x, f (x + n) = f x) (a : Int) : smF n (fun i => f (i + a)) = smF n fun i => f i := by
  have h1 : ∀ a : Int, smF n (fun i => f (i + (a + 1))) = smF n fun i => f (i + a) := by
    intro a
    have e1 := smF_first (fun i => f (i + a)) n
    have e2 : smF (n + 1) (fun i => f (i + a)) = smF n (fun i => f (i + a)) + f (n + a) := rfl
    have e3 : smF n (fun i => f (((i + 1 : Nat) : Int) + a)) = smF n fun i => f (i + (a + 1)) :=
      smF_congr fun i _ => by rw [show ((i + 1 : Nat) : Int) + a = i + (a + 1) by omega]
    rw [e2, e3, show ((n : Int) + a) = a + n by omega, hf a, show (((0 : Nat) : Int) + a) = a by omega] at e1
    omega
  have hN : ∀ (k : Nat) (a : Int), smF n (fun i => f (i + (a + k))) = smF n fun i => f (i + a) := by
    intro k
    induction k with
    | zero => intro a; simp
    | succ k ih => intro a; rw [show a + ((k + 1 : Nat) : Int) = a + k + 1 by omega, h1, ih]
  have h0 : smF n (fun i => f i) = smF n fun i => f (i + 0) := by simp
  rw [h0]
  rcases Int.le_total 0 a with h | h
  · have := hN a.toNat 0
    rwa [show (0 : Int) + (a.toNat : Int) = a by omega] at this
  · have := hN (-a).toNat a
    rw [show a + ((-a).toNat : Int) = 0 by omega] at this
    exact this.symm
theorem shS_per {n : Nat} {f : Int → Int} (hf : ∀ x, f (x + n) = f x) (A : List Int) (x : Int) : shS A f (x + n) = shS A f x := by
  induction A with
  | nil => rfl
  | cons a A ih => simp only [shS, ih]; rw [show x + n + a = x + a + n by omega, hf]
theorem smF_shS {n : Nat} {f : Int → Int} (hf : ∀ x, f (x + n) = f x) : ∀ A : List Int, smF n (fun i => shS A f i) = (A.length : Int) * smF n fun i => f i
  | [] => by
    have : ∀ m, smF m (fun _ => (0 : Int)) = 0 := by
      intro m
      induction m with
      | zero => rfl
      | succ m ih => rw [smF, ih]; rfl
    simp [shS, this]
  | a :: A => by
    simp only [shS]
    rw [smF_add, smF_per hf, smF_shS hf A, List.length_cons, Int.natCast_add, Int.add_mul]
    simp
    omega
theorem smF_ones {F : Nat → Int} : ∀ {m : Nat}, (∀ i, i < m → 1 ≤ F i) → (m : Int) ≤ smF m F ∧ (smF m F = m → ∀ i, i < m → F i = 1)
  | 0, _ => ⟨by simp [smF], fun _ i hi => absurd hi (by omega)⟩
  | m + 1, h => by
    have ⟨h1, h2⟩ := smF_ones (m := m) fun i hi => h i (by omega)
    have h3 := h m (by omega)
    refine ⟨by rw [smF]; omega, fun he i hi => ?_⟩
    rw [smF] at he
    rcases Nat.lt_or_ge i m with h4 | h4
    · exact h2 (by omega) i h4
    · rw [show i = m by omega]; omega
theorem shS_nn {f : Int → Int} (h0 : ∀ x, 0 ≤ f x) (A : List Int) (x : Int) : 0 ≤ shS A f x := by
  induction A with
  | nil => exact Int.le_refl 0
  | cons a A ih => have := h0 (x + a); simp only [shS]; omega
theorem prime_pow {p : Nat} (hp : ∀ d, d ∣ p → d = 1 ∨ d = p) (h2 : 2 ≤ p) {a : Nat} (ha : ¬ p ∣ a) : ∀ m, ¬ p ∣ a ^ m
  | 0, h => by
    rw [Nat.pow_zero] at h
    have := Nat.le_of_dvd (by decide) h
    omega
  | m + 1, h => by
    have hc : Nat.Coprime p a := by
      rcases hp _ (Nat.gcd_dvd_left p a) with h3 | h3
      · exact h3
      · exact absurd (h3 ▸ Nat.gcd_dvd_right p a) ha
    exact prime_pow hp h2 ha m (hc.dvd_of_dvd_mul_right (by rwa [Nat.pow_succ] at h))
/-- a tile times a prime that does not divide how many it has -/
theorem tij_prime {n p : Nat} (hn : 0 < n) (hp : ∀ d, d ∣ p → d = 1 ∨ d = p) (h2 : 2 ≤ p) {A : List Int} (hA : ¬ p ∣ A.length) {g : Int → Int} (hg : ∀ x, g (x + n) = g x) (h0 : ∀ x, 0 ≤ g x) (h1 : ∀ x, shS A g x = 1) (x : Int) :
    shS (A.map fun a => (p : Int) * a) g x = 1 := by
  have hd : ∀ x, 1 ≤ shS (A.map fun a => (p : Int) * a) g x := by
    intro x
    have hz := shS_nn h0 (A.map fun a => (p : Int) * a) x
    have hq := pwS_prime hp h2 g A x
    obtain ⟨q, rfl⟩ : ∃ q, p = q + 1 := ⟨p - 1, by omega⟩
    rw [pwS_in, show shS A g = fun _ => (1 : Int) from funext h1, pwS_const, Int.mul_one] at hq
    have : shS (A.map fun a => ((q + 1 : Nat) : Int) * a) g x ≠ 0 := by
      intro he
      rw [he, Int.sub_zero] at hq
      have : ((q + 1 : Nat) : Int) ∣ ((A.length ^ q : Nat) : Int) := by simpa [Int.natCast_pow] using hq
      exact prime_pow hp h2 hA q (Int.natCast_dvd_natCast.1 this)
    omega
  have hs : smF n (fun i => shS (A.map fun a => (p : Int) * a) g i) = n := by
    rw [smF_shS hg, List.length_map, ← smF_shS hg A]
    have : ∀ m : Nat, smF m (fun i => shS A g (i : Int)) = m := by
      intro m
      induction m with
      | zero => rfl
      | succ m ih => rw [smF, ih, h1]; simp
    exact this n
  have hall := (smF_ones (m := n) fun i _ => hd i).2 hs
  have hP : ∀ x, shS (A.map fun a => (p : Int) * a) g (x + n) = shS (A.map fun a => (p : Int) * a) g x := fun x => shS_per hg _ x
  have hF : ∀ y : Int, 1 ≤ shS (A.map fun a => (p : Int) * a) g y := hd
  have hs2 : smF n (fun i => shS (A.map fun a => (p : Int) * a) g (i + x)) = n := by rw [smF_per hP, hs]
  have := (smF_ones (m := n) fun i _ => hd (i + x)).2 hs2 0 hn
  simpa using this
/-- a tile times a number without a common divisor with how many it has -/
theorem tij {n : Nat} (hn : 0 < n) {A : List Int} {g : Int → Int} (hg : ∀ x, g (x + n) = g x) (h0 : ∀ x, 0 ≤ g x) (h1 : ∀ x, shS A g x = 1) :
    ∀ (k : Nat), 0 < k → Nat.Coprime k A.length → ∀ x, shS (A.map fun a => (k : Int) * a) g x = 1 := by
  intro k
  induction k using Nat.strongRecOn with
  | ind k ih =>
    intro hk hc x
    rcases Nat.lt_or_ge k 2 with h | h
    · rw [show k = 1 by omega]
      simpa using h1 x
    · obtain ⟨p, h2, hpk, hp⟩ : ∃ p, 2 ≤ p ∧ p ∣ k ∧ ∀ d, d ∣ p → d = 1 ∨ d = p := by
        have : ∀ m, 2 ≤ m → ∃ p, 2 ≤ p ∧ p ∣ m ∧ ∀ d, d ∣ p → d = 1 ∨ d = p := by
          intro m
          induction m using Nat.strongRecOn with
          | ind m ihm =>
            intro hm
            rcases Classical.em (∀ d, d ∣ m → d = 1 ∨ d = m) with h | h
            · exact ⟨m, hm, Nat.dvd_refl m, h⟩
            · simp only [Classical.not_forall, not_or] at h
              obtain ⟨d, hd, h3, h4⟩ := h
              have h5 := Nat.le_of_dvd (by omega) hd
              have h6 : 0 < d := Nat.pos_of_dvd_of_pos hd (by omega)
              obtain ⟨p, q1, q2, q3⟩ := ihm d (by omega) (by omega)
              exact ⟨p, q1, Nat.dvd_trans q2 hd, q3⟩
        exact this k h
      obtain ⟨q, rfl⟩ := hpk
      have hq0 : 0 < q := by
        rcases Nat.eq_zero_or_pos q with h3 | h3
        · rw [h3] at h; omega
        · exact h3
      have hlt : q < p * q := by
        have := Nat.mul_le_mul_right q h2
        omega
      have hcq : Nat.Coprime q A.length := Nat.Coprime.coprime_dvd_left ⟨p, Nat.mul_comm p q⟩ hc
      have hcp : Nat.Coprime p A.length := Nat.Coprime.coprime_dvd_left ⟨q, rfl⟩ hc
      have hpA : ¬ p ∣ (A.map fun a => (q : Int) * a).length := by
        rw [List.length_map]
        intro hd
        have := Nat.dvd_gcd (Nat.dvd_refl p) hd
        rw [hcp] at this
        have := Nat.le_of_dvd (by decide) this
        omega
      have := tij_prime hn hp h2 hpA hg h0 (ih q hlt hq0 hcq) x
      rw [List.map_map] at this
      rw [← this]
      congr 1
      refine List.map_congr_left fun a _ => ?_
      simp [Int.mul_assoc]
end Go.Proofs.Ytiplnfggiffngaa
