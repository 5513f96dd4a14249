/- Two classes of a system have a common number just where some number of a period is counted twice; plain. -/
import Derived.Test.YtgdpebnnmklbjaaMathP
import Derived.Test.YtgdpebnnmklbjaaS5
namespace Go.Proofs.Ytgdpebnnmklbjaa
open Go.RowKit
theorem lcmI_dvd {a b c : Int} (ha : 0 ≤ a) (hb : 0 ≤ b) (h1 : a ∣ c) (h2 : b ∣ c) : lcmI a b ∣ c := by
  obtain ⟨x, rfl⟩ := Int.eq_ofNat_of_zero_le ha
  obtain ⟨y, rfl⟩ := Int.eq_ofNat_of_zero_le hb
  rw [lcmI_nat]
  rw [Int.ofNat_dvd_left] at h1 h2 ⊢
  exact Nat.lcm_dvd h1 h2
theorem dvd_lcmI {a b : Int} (ha : 0 ≤ a) (hb : 0 ≤ b) : a ∣ lcmI a b ∧ b ∣ lcmI a b := by
  obtain ⟨x, rfl⟩ := Int.eq_ofNat_of_zero_le ha
  obtain ⟨y, rfl⟩ := Int.eq_ofNat_of_zero_le hb
  rw [lcmI_nat]
  exact ⟨Int.natCast_dvd_natCast.2 (Nat.dvd_lcm_left x y), Int.natCast_dvd_natCast.2 (Nat.dvd_lcm_right x y)⟩
theorem perO_dvd {p q : Int} {zs : List Cl} (h : perO p zs = some q) (h1 : 1 ≤ p) : p ∣ q ∧ ∀ c ∈ zs, c.2 ∣ q := by
  induction zs generalizing p with
  | nil => cases h; exact ⟨Int.dvd_refl _, by simp⟩
  | cons c t ih =>
    unfold perO at h
    split at h
    · rename_i h3
      obtain ⟨m1, m2, _, _⟩ := inB_iff.1 h3.1
      obtain ⟨i1, i2⟩ := ih h (lcmI_pos h1 m1).1
      obtain ⟨d1, d2⟩ := dvd_lcmI (show 0 ≤ p by omega) (show 0 ≤ c.2 by omega)
      refine ⟨Int.dvd_trans d1 i1, fun x hx => ?_⟩
      rcases List.mem_cons.1 hx with rfl | hx
      · exact Int.dvd_trans d2 i1
      · exact i2 x hx
    · cases h
theorem sys_dvd {zs : List Cl} (h : sysB zs = true) (k : Nat) (hk : k < zs.length) : mAt zs k ∣ perI zs := by
  obtain ⟨_, _, _, hp, _, _⟩ := sysB_facts h
  have := (perO_dvd hp (by omega)).2 zs[k] (List.getElem_mem hk)
  simpa [mAt, hk] using this
theorem findX_sound {m s n M X : Int} (k : Nat) : ∀ x, findX m s n M k x = some X → X < M ∧ X % n = s ∧ ∃ j : Nat, X = x + (j : Int) * m := by
  induction k with
  | zero => intro x h; cases h
  | succ k ih =>
    intro x h
    unfold findX at h
    split at h
    · rename_i h1
      split at h
      · rename_i h2
        cases h
        exact ⟨h1, h2, 0, by simp⟩
      · obtain ⟨a, b, j, hj⟩ := ih _ h
        refine ⟨a, b, j + 1, ?_⟩
        rw [hj, Int.natCast_add, Int.add_mul]; simp; omega
    · cases h
theorem findX_complete {m s n M : Int} (m1 : 1 ≤ m) (k : Nat) : ∀ x (j : Nat), j < k → x + (j : Int) * m < M → (x + (j : Int) * m) % n = s → ∃ X, findX m s n M k x = some X := by
  induction k with
  | zero => intro x j h; omega
  | succ k ih =>
    intro x j hj h1 h2
    have hm : 0 ≤ (j : Int) * m := Int.mul_nonneg (by omega) (by omega)
    unfold findX
    rw [if_pos (by omega)]
    by_cases h3 : x % n = s
    · exact ⟨x, by rw [if_pos h3]⟩
    · rw [if_neg h3]
      cases j with
      | zero => simp at h2; exact absurd h2 h3
      | succ j =>
        have e : x + ((j + 1 : Nat) : Int) * m = x + m + (j : Int) * m := by rw [Int.natCast_add, Int.add_mul]; simp; omega
        rw [e] at h1 h2
        exact ih (x + m) j (by omega) h1 h2
theorem met_iff {r m s n : Int} (hc : inB r m = true) (hl : lcmI m n ≤ 1000) : metB m s n r = true ↔ ∃ X, 0 ≤ X ∧ X < lcmI m n ∧ X % m = r ∧ X % n = s := by
  obtain ⟨m1, m2, r1, r2⟩ := inB_iff.1 hc
  unfold metB metO
  simp only [hl, decide_true, Bool.true_and, Option.isSome_iff_exists]
  constructor
  · rintro ⟨X, hX⟩
    obtain ⟨a, b, j, hj⟩ := findX_sound _ _ hX
    have hm : 0 ≤ (j : Int) * m := Int.mul_nonneg (by omega) (by omega)
    refine ⟨X, by omega, a, ?_, b⟩
    rw [hj, Int.add_mul_emod_self_right]
    exact Int.emod_eq_of_lt r1 r2
  · rintro ⟨X, h0, h1, h2, h3⟩
    have hd := Int.mul_ediv_add_emod X m
    have hq : 0 ≤ X / m := Int.ediv_nonneg h0 (by omega)
    obtain ⟨j, hj⟩ := Int.eq_ofNat_of_zero_le hq
    have e : r + (j : Int) * m = X := by rw [← hj, Int.mul_comm, ← h2]; omega
    have hjl : (j : Int) ≤ (j : Int) * m := by
      have := Int.mul_le_mul_of_nonneg_left m1 (show 0 ≤ (j : Int) by omega); omega
    exact findX_complete m1 1001 r j (by omega) (by rw [e]; exact h1) (by rw [e]; exact h3)
theorem cntK_mono (zs : List Cl) (x : Int) (k : Nat) : cntK zs x k ≤ cntK zs x (k + 1) := by simp only [cntK]; split <;> omega
theorem cntK_le (zs : List Cl) (x : Int) {a b : Nat} (h : a ≤ b) : cntK zs x a ≤ cntK zs x b := by
  induction h with
  | refl => exact Int.le_refl _
  | step _ ih => exact Int.le_trans ih (cntK_mono zs x _)
theorem cntK_pos {zs : List Cl} {x : Int} {k : Nat} (h : 1 ≤ cntK zs x k) : ∃ j, j < k ∧ x % mAt zs j = rAt zs j := by
  induction k with
  | zero => simp [cntK] at h
  | succ k ih =>
    by_cases he : x % mAt zs k = rAt zs k
    · exact ⟨k, by omega, he⟩
    · simp only [cntK, if_neg he, Int.add_zero] at h
      obtain ⟨j, h1, h2⟩ := ih h
      exact ⟨j, by omega, h2⟩
theorem cntK_two {zs : List Cl} {x : Int} {k : Nat} (h : 2 ≤ cntK zs x k) : ∃ i j, j < i ∧ i < k ∧ x % mAt zs i = rAt zs i ∧ x % mAt zs j = rAt zs j := by
  induction k with
  | zero => simp [cntK] at h
  | succ k ih =>
    by_cases he : x % mAt zs k = rAt zs k
    · simp only [cntK, if_pos he] at h
      obtain ⟨j, h1, h2⟩ := cntK_pos (show 1 ≤ cntK zs x k by omega)
      exact ⟨k, j, h1, by omega, he, h2⟩
    · simp only [cntK, if_neg he, Int.add_zero] at h
      obtain ⟨i, j, h1, h2, h3, h4⟩ := ih h
      exact ⟨i, j, h1, by omega, h3, h4⟩
theorem cntK_ge2 {zs : List Cl} {x : Int} {i j k : Nat} (h1 : j < i) (h2 : i < k) (h3 : x % mAt zs i = rAt zs i) (h4 : x % mAt zs j = rAt zs j) : 2 ≤ cntK zs x k := by
  have a : cntK zs x (j + 1) = cntK zs x j + 1 := by simp [cntK, h4]
  have b : cntK zs x (i + 1) = cntK zs x i + 1 := by simp [cntK, h3]
  have c := (cntK_bd zs x j).1
  have d := cntK_le zs x (show j + 1 ≤ i by omega)
  have e := cntK_le zs x (show i + 1 ≤ k by omega)
  omega
/-- do the classes i and j have a common number -/
def pairB (zs : List Cl) (i j : Nat) : Bool := metB (mAt zs i) (rAt zs j) (mAt zs j) (rAt zs i)
theorem pair_lcm {zs : List Cl} (h : sysB zs = true) {i j : Nat} (hi : i < zs.length) (hj : j < zs.length) : lcmI (mAt zs i) (mAt zs j) ∣ perI zs ∧ lcmI (mAt zs i) (mAt zs j) ≤ perI zs ∧ 1 ≤ lcmI (mAt zs i) (mAt zs j) := by
  obtain ⟨_, _, ha, _, P1, _⟩ := sysB_facts h
  obtain ⟨m1, _, _, _⟩ := inB_iff.1 (allB_at ha i hi)
  obtain ⟨n1, _, _, _⟩ := inB_iff.1 (allB_at ha j hj)
  have hd := lcmI_dvd (show 0 ≤ mAt zs i by omega) (show 0 ≤ mAt zs j by omega) (sys_dvd h i hi) (sys_dvd h j hj)
  exact ⟨hd, Int.le_of_dvd (by omega) hd, (lcmI_pos m1 n1).1⟩
theorem pair_iff {zs : List Cl} (h : sysB zs = true) {i j : Nat} (hi : i < zs.length) (hj : j < zs.length) : pairB zs i j = true ↔ ∃ x : Nat, (x : Int) < perI zs ∧ (x : Int) % mAt zs i = rAt zs i ∧ (x : Int) % mAt zs j = rAt zs j := by
  obtain ⟨hd, hl, h1⟩ := pair_lcm h hi hj
  obtain ⟨_, _, ha, _, P1, P2⟩ := sysB_facts h
  have hbi := allB_at ha i hi
  obtain ⟨m1, _, _, _⟩ := inB_iff.1 hbi
  obtain ⟨n1, _, _, _⟩ := inB_iff.1 (allB_at ha j hj)
  obtain ⟨d1, d2⟩ := dvd_lcmI (show 0 ≤ mAt zs i by omega) (show 0 ≤ mAt zs j by omega)
  unfold pairB
  rw [met_iff hbi (by omega)]
  constructor
  · rintro ⟨X, a, b, c, d⟩
    obtain ⟨x, rfl⟩ := Int.eq_ofNat_of_zero_le a
    exact ⟨x, by omega, c, d⟩
  · rintro ⟨x, a, b, c⟩
    have hb := emod_bd (x : Int) (lcmI (mAt zs i) (mAt zs j)) h1
    refine ⟨(x : Int) % lcmI (mAt zs i) (mAt zs j), hb.1, hb.2, ?_, ?_⟩
    · rw [Int.emod_emod_of_dvd _ d1]; exact b
    · rw [Int.emod_emod_of_dvd _ d2]; exact c
/-- no two classes have a common number -/
def apaB (zs : List Cl) : Bool := decide (∀ i, i < zs.length → ∀ j, j < i → pairB zs i j = false)
def aprB (zs : List Cl) : Bool := sysB zs && apaB zs
theorem apa_times {zs : List Cl} (h : sysB zs = true) : apaB zs = true ↔ ∀ x : Nat, (x : Int) < perI zs → cntN zs x ≤ 1 := by
  unfold apaB
  rw [decide_eq_true_iff]
  constructor
  · intro ha x hx
    by_cases hc : cntN zs x ≤ 1
    · exact hc
    · have hc : 2 ≤ cntK zs x zs.length := by have : ¬ cntK zs x zs.length ≤ 1 := hc; omega
      obtain ⟨i, j, h1, h2, h3, h4⟩ := cntK_two hc
      have := (pair_iff h h2 (by omega)).2 ⟨x, hx, h3, h4⟩
      rw [ha i h2 j h1] at this; cases this
  · intro hx i hi j hj
    cases hp : pairB zs i j
    · rfl
    · obtain ⟨x, a, b, c⟩ := (pair_iff h hi (by omega)).1 hp
      have h2 := cntK_ge2 hj hi b c
      have h3 : cntK zs x zs.length ≤ 1 := hx x a
      omega
end Go.Proofs.Ytgdpebnnmklbjaa
