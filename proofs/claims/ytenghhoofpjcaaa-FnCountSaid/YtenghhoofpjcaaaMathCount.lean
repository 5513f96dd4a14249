/- Plain facts on how many numbers of a class lie between two bounds; no program is named here. -/
import Derived.Test.YtenghhoofpjcaaaMath
namespace Go.Proofs.Ytenghhoofpjcaaa
theorem firI_form (r m a : Int) : firI r m a = r - m * ((r - a) / m) := by
  have := Int.mul_ediv_add_emod (r - a) m
  unfold firI; omega
theorem cnt_floor {r m a b : Int} (hm : 1 ≤ m) (hab : a ≤ b) : cntI r m a b = (b - 1 - r) / m - (a - 1 - r) / m := by
  have hb := @firI_bd r m a hm
  have hf := firI_form r m a
  generalize hq : (r - a) / m = q at hf
  have ha : (a - 1 - r) / m = -q - 1 := by
    have e : a - 1 - r = (a - 1 - r + m * q + m) + m * (-q - 1) := by rw [Int.mul_sub, Int.mul_neg]; omega
    rw [e, Int.add_mul_ediv_left _ _ (by omega), Int.ediv_eq_zero_of_lt (by omega) (by omega)]
    omega
  rw [ha]
  by_cases h : b ≤ firI r m a
  · rw [cntI_0 h]
    have e : b - 1 - r = (b - 1 - r + m * q + m) + m * (-q - 1) := by rw [Int.mul_sub, Int.mul_neg]; omega
    rw [e, Int.add_mul_ediv_left _ _ (by omega), Int.ediv_eq_zero_of_lt (by omega) (by omega)]
    omega
  · rw [cntI_1 (by omega)]
    have e : b - 1 - firI r m a = (b - 1 - r) + m * q := by rw [hf]; omega
    rw [e, Int.add_mul_ediv_left _ _ (by omega)]
    omega
theorem cnt_add {r m a c b : Int} (hm : 1 ≤ m) (h1 : a ≤ c) (h2 : c ≤ b) : cntI r m a c + cntI r m c b = cntI r m a b := by
  rw [cnt_floor hm h1, cnt_floor hm h2, cnt_floor hm (Int.le_trans h1 h2)]; omega
theorem cnt_bd {r m a b : Int} (hm : 1 ≤ m) (hab : a ≤ b) : 0 ≤ cntI r m a b ∧ cntI r m a b ≤ b - a ∧ 0 ≤ cntI r m a b * m ∧ cntI r m a b * m ≤ b - a + m := by
  have hb := @firI_bd r m a hm
  by_cases h : b ≤ firI r m a
  · rw [cntI_0 h]; omega
  · rw [cntI_1 (by omega)]
    have hq := @quo_bd (b - 1 - firI r m a) m (by omega) hm
    have hmul := Int.ediv_mul_le (b - 1 - firI r m a) (show m ≠ 0 by omega)
    have hnn : 0 ≤ (b - 1 - firI r m a) / m * m := Int.mul_nonneg hq.1 (by omega)
    have e : ((b - 1 - firI r m a) / m + 1) * m = (b - 1 - firI r m a) / m * m + m := by rw [Int.add_mul]; omega
    rw [e]
    refine ⟨by omega, by omega, by omega, by omega⟩
theorem cnt_lt {r m a b : Int} (hm : 1 ≤ m) (hab : b < a) : cntI r m a b = 0 := by
  have hb := @firI_bd r m a hm
  exact cntI_0 (by omega)
theorem cnt_mid {r m a b : Int} (h : cntB r m a b = true) (hab : a ≤ b) : cntB r m a (a + (b - a) / 2) = true ∧ cntB r m (a + (b - a) / 2) b = true := by
  have h' : inB r m = true ∧ numB a = true ∧ numB b = true := by simpa [cntB, and_assoc] using h
  obtain ⟨h1, h2, h3⟩ := h'
  obtain ⟨a1, a2⟩ := numB_iff.1 h2
  obtain ⟨b1, b2⟩ := numB_iff.1 h3
  have hn : numB (a + (b - a) / 2) = true := numB_t ⟨by omega, by omega⟩
  exact ⟨cntB_tt h1 h2 hn, cntB_tt h1 hn h3⟩
theorem tdiv2_bd {x : Int} (h1 : -5 ≤ x) (h2 : x < 0) : -5 ≤ x.tdiv 2 ∧ x.tdiv 2 ≤ 0 := by
  have hx : x = -5 ∨ x = -4 ∨ x = -3 ∨ x = -2 ∨ x = -1 := by omega
  rcases hx with rfl | rfl | rfl | rfl | rfl <;> decide
end Go.Proofs.Ytenghhoofpjcaaa
