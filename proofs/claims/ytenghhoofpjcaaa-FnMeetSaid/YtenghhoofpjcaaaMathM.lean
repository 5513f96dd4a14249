/- The first common number of two classes: the same for both exchanged; plain. -/
import Derived.Test.YtenghhoofpjcaaaMathA
import Derived.Test.YtenghhoofpjcaaaR3
namespace Go.Proofs.Ytenghhoofpjcaaa
open Go.RowKit
theorem lcmI_comm {a b : Int} (ha : 0 ≤ a) (hb : 0 ≤ b) : lcmI a b = lcmI b a := by
  obtain ⟨x, rfl⟩ := Int.eq_ofNat_of_zero_le ha
  obtain ⟨y, rfl⟩ := Int.eq_ofNat_of_zero_le hb
  rw [lcmI_nat, lcmI_nat, Nat.lcm_comm]
theorem lcmI_self_dvd {a b : Int} (ha : 1 ≤ a) (hb : 1 ≤ b) : lcmI a b = a ↔ a % b = 0 := by
  have h := dvd_lcmI (show 0 ≤ a by omega) (show 0 ≤ b by omega)
  constructor
  · intro e
    rw [e] at h
    exact Int.emod_eq_zero_of_dvd h.2
  · intro e
    have hd := lcmI_dvd (show 0 ≤ a by omega) (show 0 ≤ b by omega) (Int.dvd_refl a) (Int.dvd_of_emod_eq_zero e)
    have h1 := Int.le_of_dvd (by omega) hd
    have h2 := (lcmI_pos ha hb).2.1
    omega
/-- what is found: the one number below the least common multiple that both have -/
theorem metX_facts {r m s n : Int} (h : mtB r m s n = true) : inB r m = true ∧ inB s n = true ∧ lcmI m n ≤ 1000 ∧ 1 ≤ lcmI m n ∧ 0 ≤ metX m s n r ∧ metX m s n r < lcmI m n ∧ metX m s n r % m = r ∧ metX m s n r % n = s := by
  have h' : inB r m = true ∧ inB s n = true ∧ metB m s n r = true := by simpa [mtB, and_assoc] using h
  obtain ⟨h1, h2, h3⟩ := h'
  obtain ⟨m1, m2, r1, r2⟩ := inB_iff.1 h1
  obtain ⟨n1, n2, s1, s2⟩ := inB_iff.1 h2
  have h4 : lcmI m n ≤ 1000 ∧ (metO m s n r).isSome = true := by simpa [metB] using h3
  obtain ⟨X, hX⟩ := Option.isSome_iff_exists.1 h4.2
  have hx : metX m s n r = X := by simp [metX, hX]
  obtain ⟨a, b, j, hj⟩ := findX_sound _ _ (show findX m s n (lcmI m n) 1001 r = some X from hX)
  have hm : 0 ≤ (j : Int) * m := Int.mul_nonneg (by omega) (by omega)
  rw [hx]
  refine ⟨h1, h2, h4.1, (lcmI_pos m1 n1).1, by omega, a, ?_, b⟩
  rw [hj, Int.add_mul_emod_self_right]
  exact Int.emod_eq_of_lt r1 r2
theorem met_unique {m n x y r s : Int} (hm : 1 ≤ m) (hn : 1 ≤ n) (x1 : 0 ≤ x) (x2 : x < lcmI m n) (y1 : 0 ≤ y) (y2 : y < lcmI m n) (hx : x % m = r) (hy : y % m = r) (kx : x % n = s) (ky : y % n = s) : x = y := by
  have d1 : m ∣ x - y := Int.dvd_of_emod_eq_zero (Int.emod_eq_emod_iff_emod_sub_eq_zero.1 (hx.trans hy.symm))
  have d2 : n ∣ x - y := Int.dvd_of_emod_eq_zero (Int.emod_eq_emod_iff_emod_sub_eq_zero.1 (kx.trans ky.symm))
  have hd := lcmI_dvd (show 0 ≤ m by omega) (show 0 ≤ n by omega) d1 d2
  have h1 := Int.emod_eq_emod_iff_emod_sub_eq_zero.2 (Int.emod_eq_zero_of_dvd hd)
  rw [Int.emod_eq_of_lt x1 x2, Int.emod_eq_of_lt y1 y2] at h1
  exact h1
theorem met_swap {r m s n : Int} (h : mtB r m s n = true) : mtB s n r m = true ∧ metX n r m s = metX m s n r ∧ lcmI n m = lcmI m n := by
  obtain ⟨h1, h2, h3, h4, h5, h6, h7, h8⟩ := metX_facts h
  obtain ⟨m1, m2, r1, r2⟩ := inB_iff.1 h1
  obtain ⟨n1, n2, s1, s2⟩ := inB_iff.1 h2
  have hc : lcmI n m = lcmI m n := lcmI_comm (by omega) (by omega)
  have hb : metB n r m s = true := (met_iff h2 (by omega)).2 ⟨_, h5, by omega, h8, h7⟩
  have hs : mtB s n r m = true := by simp [mtB, h1, h2, hb]
  refine ⟨hs, ?_, hc⟩
  obtain ⟨_, _, _, _, a1, a2, a3, a4⟩ := metX_facts hs
  exact met_unique m1 n1 a1 (by omega) h5 h6 a4 h7 a3 h8
theorem met_in {r m s n : Int} (h : mtB r m s n = true) : inB (metX m s n r) (lcmI m n) = true := by
  obtain ⟨h1, h2, h3, h4, h5, h6, h7, h8⟩ := metX_facts h
  exact inB_t ⟨h4, h3, h5, h6⟩
theorem met_bel {r m s n : Int} (h : mtB r m s n = true) : belB (metX m s n r) (lcmI m n) r m = true ∧ belB (metX m s n r) (lcmI m n) s n = true := by
  obtain ⟨h1, h2, h3, h4, h5, h6, h7, h8⟩ := metX_facts h
  obtain ⟨m1, m2, r1, r2⟩ := inB_iff.1 h1
  obtain ⟨n1, n2, s1, s2⟩ := inB_iff.1 h2
  obtain ⟨d1, d2⟩ := dvd_lcmI (show 0 ≤ m by omega) (show 0 ≤ n by omega)
  simp [belB, met_in h, h1, h2, h7, h8, Int.emod_eq_zero_of_dvd d1, Int.emod_eq_zero_of_dvd d2]
theorem met_same {r m s n : Int} (h : mtB r m s n = true) : (metX m s n r == r && lcmI m n == m) = belB r m s n := by
  obtain ⟨h1, h2, h3, h4, h5, h6, h7, h8⟩ := metX_facts h
  obtain ⟨m1, m2, r1, r2⟩ := inB_iff.1 h1
  obtain ⟨n1, n2, s1, s2⟩ := inB_iff.1 h2
  rw [Bool.eq_iff_iff]
  simp only [Bool.and_eq_true, beq_iff_eq, belB, h1, h2, Bool.true_and]
  constructor
  · rintro ⟨a, b⟩
    exact ⟨(lcmI_self_dvd m1 n1).1 b, by rw [← a]; exact h8⟩
  · rintro ⟨a, b⟩
    have hl := (lcmI_self_dvd m1 n1).2 a
    refine ⟨?_, hl⟩
    have := Int.emod_eq_of_lt h5 (show metX m s n r < m by omega)
    omega
theorem met_three {r m s n : Int} (h : mtB r m s n = true) : ((metX m s n r == r) = true ∧ (lcmI m n == m) = true ∧ belB r m s n = true) ∨ ((metX m s n r == r) = false ∧ belB r m s n = false) ∨ ((metX m s n r == r) = true ∧ (lcmI m n == m) = false ∧ belB r m s n = false) := by
  have := met_same h
  cases h1 : (metX m s n r == r) <;> cases h2 : (lcmI m n == m) <;> simp_all
end Go.Proofs.Ytenghhoofpjcaaa
