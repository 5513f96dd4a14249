/- Chapter 5, the program: the number with some rests. -/
import Derived.Test.YtnbejgbkabaleaaB2
namespace Go.Proofs.Ytnbejgbkabaleaa
open Go.RowKit
theorem c_restOfB (x m : Int) (hm : 1 ≤ m) (hm2 : m ≤ 1000) (w : World) : Calls Try.prog 61 #[.int .i64 x, .int .i64 m] w fun e w' => e = .returned (.int .i64 (x % m)) ∧ Below w.heap.size w w' :=
  (c_restOf x m hm hm2 w).mono (by rintro e w' ⟨rfl, rfl⟩; exact ⟨rfl, Below.refl _ _⟩)
set_option maxRecDepth 20000 in
set_option maxHeartbeats 4000000 in
theorem c_numberOf (a b c d p q r t n : Int) (hS : Sys a b c d p q r t) (w : World) : Calls Try.prog 56 #[baseV a b c d n, restV p q r t] w fun e w' => e = .returned (.int .i64 (numK a b c d p q r t 4)) ∧ Below w.heap.size w w' := by
  obtain ⟨i0, i1, i2, i3⟩ := idx4 a b c d
  have hN1 := (Arr.newAt (w.alloc (.cells #[.int .i64 a, .int .i64 b, .int .i64 c, .int .i64 d, .int .i64 n] 50)) #[.int .i64 p, .int .i64 q, .int .i64 r, .int .i64 t] 56 (w.heap.size + 1) (by simp))
  have hB : Below w.heap.size w _ := ba (ba (Below.refl _ _) (.cells #[.int .i64 a, .int .i64 b, .int .i64 c, .int .i64 d, .int .i64 n] 50)) (.cells #[.int .i64 p, .int .i64 q, .int .i64 r, .int .i64 t] 56)
  have HS := Lib.hid hS
  clear hS
  go_enter Try.func56, Try.ntmps56
  go_wp2_with fail
  go_loopw [5, 6, 11] (fun x st i wr => ∃ (k : Nat), k ≤ 4 ∧ i = .int .i64 k ∧ x = .int .i64 (numK a b c d p q r t k) ∧ st = .int .i64 (pK a b c d k) ∧ Arr wr (w.heap.size + 1) [.int .i64 p, .int .i64 q, .int .i64 r, .int .i64 t] ∧ Below w.heap.size w wr) (fun _ _ i _ => 4 - (intOf i).toNat)
  case atStart => exact ⟨0, by omega, rfl, rfl, rfl, hN1, hB⟩
  case round =>
    clear hN1 hB
    obtain ⟨k, hk, rfl, rfl, rfl, hN1, hB⟩ := hrel
    rcases (show k = 0 ∨ k = 1 ∨ k = 2 ∨ k = 3 ∨ k = 4 by omega) with rfl | rfl | rfl | rfl | rfl
    case inl =>
      obtain ⟨⟨d0, d1⟩, d2, d3⟩ := HS.out.dig 0 (by omega)
      have HD := Lib.hid (numK_succ a b c d p q r t 0)
      have HP := Lib.hid (pK_succ a b c d 0 (by omega))
      have hp := pK_bd HS.out.ha HS.out.hb HS.out.hc HS.out.hd 0 (by omega)
      have hp2 := pK_bd HS.out.ha HS.out.hb HS.out.hc HS.out.hd (0 + 1) (by omega)
      have hn := HS.out.num 0 (by omega)
      have hn2 := HS.out.num (0 + 1) (by omega)
      have hm := at4_mb HS.out.ha HS.out.hb HS.out.hc HS.out.hd 0
      rw [HP.out] at hp2 hn2
      rw [HD.out] at hn2
      generalize digK a b c d p q r t 0 = D at *
      generalize numK a b c d p q r t 0 = v at *
      generalize pK a b c d 0 = P at *
      simp only [at4] at d1 d2 d3 hm hn2 hp2 HP
      obtain ⟨m1, m2⟩ := hm
      have H2 := Lib.hid d2
      have H3 := Lib.hid d3
      have HN2 := Lib.hid hn2
      have HP2 := Lib.hid hp2
      clear d2 d3 hn2 hp2
      simp only [show ((0 : Nat) : Int) = 0 from rfl]
      go_wp2_with fail
      go_loopw [5] (fun x wr => ∃ (s : Int), 0 ≤ s ∧ s ≤ D ∧ x = .int .i64 (v + s * P) ∧ Arr wr (w.heap.size + 1) [.int .i64 p, .int .i64 q, .int .i64 r, .int .i64 t] ∧ Below w.heap.size w wr) (fun x _ => (v + D * P - intOf x).toNat)
      case atStart => exact ⟨0, by omega, by omega, by simp, hN1, hB⟩
      case round =>
        clear hN1 hB
        obtain ⟨s, s0, s1, rfl, hN1, hB⟩ := hrel
        obtain ⟨x0, x1, x2, x3⟩ := Arr.get4 hN1
        have hsp : 0 ≤ s * P := Int.mul_nonneg s0 (by omega)
        have hsd : s * P ≤ D * P := Int.mul_le_mul_of_nonneg_right s1 (by omega)
        have hn2 := HN2.out
        have hp2 := HP2.out
        have hx0 : -1 ≤ v + s * P := by omega
        have hx1 : v + s * P ≤ 900000 := by omega
        by_cases hq : (v + s * P) % a = p
        · have hsD : s = D := by
            rcases Int.lt_or_eq_of_le s1 with h | h
            · exact absurd hq (H3.out s s0 h)
            · exact h
          have hqq : ((v + s * P) % a != p) = false := by simp [hq]
          have HQ := Lib.hid (show v + s * P = numK a b c d p q r t (0 + 1) by rw [hsD, HD.out])
          have HR := Lib.hid (show P * a = pK a b c d (0 + 1) from HP.out.symm)
          clear hsp hsd hn2 hp2 hq hsD
          generalize v + s * P = X at *
          go_wp2_with fail
          have g0 : ∀ y : Abv wr, y.x.cell? _ = some _ := fun y => y.cell x0
          have hcb : ∀ y : Abv wr, _ := fun y => c_restOfB X a m1 (by omega) y.x
          clear x0 x1 x2 x3
          refine wp_region_above (by kernel_rfl) (by kernel_rfl) ?_
          repeat (refine q_step (fun K hK => ?_); go_simp; first | (refine hK _ ?_; clear hK K) | (apply Exists.intro; refine ⟨fun _ => ?_, hK _ ?_⟩; exact calls_above (hcb _); clear hK K))
          refine q_nil ?_
          intro _ hw'
          obtain ⟨y, hy⟩ := hw'
          subst hy
          have hN1 := hN1.keep y.h
          have hB := bt2 hB y.h
          have hpm := mulb (show 0 ≤ P by omega) hp.2 (show 0 ≤ a by omega) m2
          go_wp2_with fail
          go_roundw
          case rel => exact ⟨1, by omega, rfl, by rw [HQ.out], by rw [HR.out], hN1, hB⟩
          case measure => simp [intOf]
        · have hsD : s < D := by
            rcases Int.lt_or_eq_of_le s1 with h | h
            · exact h
            · exact absurd (h ▸ H2.out) hq
          have hqq : ((v + s * P) % a != p) = true := by simpa using hq
          have hs1 : (s + 1) * P ≤ D * P := Int.mul_le_mul_of_nonneg_right (by omega) (by omega)
          have hs2 : (s + 1) * P = s * P + P := by rw [Int.add_mul, Int.one_mul]
          have HX := Lib.hid (show v + s * P + P = v + (s + 1) * P by rw [hs2, Int.add_assoc])
          have HM := Lib.hid (show (v + D * P - (v + s * P + P)).toNat < (v + D * P - (v + s * P)).toNat by omega)
          have hxa : v + s * P + P ≤ 900000 := by omega
          clear hsp hsd hn2 hp2 hq hs1 hs2
          generalize v + s * P = X at *
          go_wp2_with fail
          have g0 : ∀ y : Abv wr, y.x.cell? _ = some _ := fun y => y.cell x0
          have hcb : ∀ y : Abv wr, _ := fun y => c_restOfB X a m1 (by omega) y.x
          clear x0 x1 x2 x3
          refine wp_region_above (by kernel_rfl) (by kernel_rfl) ?_
          repeat (refine q_step (fun K hK => ?_); go_simp; first | (refine hK _ ?_; clear hK K) | (apply Exists.intro; refine ⟨fun _ => ?_, hK _ ?_⟩; exact calls_above (hcb _); clear hK K))
          refine q_nil ?_
          intro _ hw'
          obtain ⟨y, hy⟩ := hw'
          subst hy
          have hN1 := hN1.keep y.h
          have hB := bt2 hB y.h
          go_wp2_with fail
          go_roundw
          case rel => exact ⟨s + 1, by omega, by omega, by rw [HX.out], hN1, hB⟩
          case measure => simpa [intOf] using HM.out
    case inr.inl =>
      obtain ⟨⟨d0, d1⟩, d2, d3⟩ := HS.out.dig 1 (by omega)
      have HD := Lib.hid (numK_succ a b c d p q r t 1)
      have HP := Lib.hid (pK_succ a b c d 1 (by omega))
      have hp := pK_bd HS.out.ha HS.out.hb HS.out.hc HS.out.hd 1 (by omega)
      have hp2 := pK_bd HS.out.ha HS.out.hb HS.out.hc HS.out.hd (1 + 1) (by omega)
      have hn := HS.out.num 1 (by omega)
      have hn2 := HS.out.num (1 + 1) (by omega)
      have hm := at4_mb HS.out.ha HS.out.hb HS.out.hc HS.out.hd 1
      rw [HP.out] at hp2 hn2
      rw [HD.out] at hn2
      generalize digK a b c d p q r t 1 = D at *
      generalize numK a b c d p q r t 1 = v at *
      generalize pK a b c d 1 = P at *
      simp only [at4] at d1 d2 d3 hm hn2 hp2 HP
      obtain ⟨m1, m2⟩ := hm
      have H2 := Lib.hid d2
      have H3 := Lib.hid d3
      have HN2 := Lib.hid hn2
      have HP2 := Lib.hid hp2
      clear d2 d3 hn2 hp2
      simp only [show ((1 : Nat) : Int) = 1 from rfl]
      go_wp2_with fail
      go_loopw [5] (fun x wr => ∃ (s : Int), 0 ≤ s ∧ s ≤ D ∧ x = .int .i64 (v + s * P) ∧ Arr wr (w.heap.size + 1) [.int .i64 p, .int .i64 q, .int .i64 r, .int .i64 t] ∧ Below w.heap.size w wr) (fun x _ => (v + D * P - intOf x).toNat)
      case atStart => exact ⟨0, by omega, by omega, by simp, hN1, hB⟩
      case round =>
        clear hN1 hB
        obtain ⟨s, s0, s1, rfl, hN1, hB⟩ := hrel
        obtain ⟨x0, x1, x2, x3⟩ := Arr.get4 hN1
        have hsp : 0 ≤ s * P := Int.mul_nonneg s0 (by omega)
        have hsd : s * P ≤ D * P := Int.mul_le_mul_of_nonneg_right s1 (by omega)
        have hn2 := HN2.out
        have hp2 := HP2.out
        have hx0 : -1 ≤ v + s * P := by omega
        have hx1 : v + s * P ≤ 900000 := by omega
        by_cases hq : (v + s * P) % b = q
        · have hsD : s = D := by
            rcases Int.lt_or_eq_of_le s1 with h | h
            · exact absurd hq (H3.out s s0 h)
            · exact h
          have hqq : ((v + s * P) % b != q) = false := by simp [hq]
          have HQ := Lib.hid (show v + s * P = numK a b c d p q r t (1 + 1) by rw [hsD, HD.out])
          have HR := Lib.hid (show P * b = pK a b c d (1 + 1) from HP.out.symm)
          clear hsp hsd hn2 hp2 hq hsD
          generalize v + s * P = X at *
          go_wp2_with fail
          have g0 : ∀ y : Abv wr, y.x.cell? _ = some _ := fun y => y.cell x1
          have hcb : ∀ y : Abv wr, _ := fun y => c_restOfB X b m1 (by omega) y.x
          clear x0 x1 x2 x3
          refine wp_region_above (by kernel_rfl) (by kernel_rfl) ?_
          repeat (refine q_step (fun K hK => ?_); go_simp; first | (refine hK _ ?_; clear hK K) | (apply Exists.intro; refine ⟨fun _ => ?_, hK _ ?_⟩; exact calls_above (hcb _); clear hK K))
          refine q_nil ?_
          intro _ hw'
          obtain ⟨y, hy⟩ := hw'
          subst hy
          have hN1 := hN1.keep y.h
          have hB := bt2 hB y.h
          have hpm := mulb (show 0 ≤ P by omega) hp.2 (show 0 ≤ b by omega) m2
          go_wp2_with fail
          go_roundw
          case rel => exact ⟨2, by omega, rfl, by rw [HQ.out], by rw [HR.out], hN1, hB⟩
          case measure => simp [intOf]
        · have hsD : s < D := by
            rcases Int.lt_or_eq_of_le s1 with h | h
            · exact h
            · exact absurd (h ▸ H2.out) hq
          have hqq : ((v + s * P) % b != q) = true := by simpa using hq
          have hs1 : (s + 1) * P ≤ D * P := Int.mul_le_mul_of_nonneg_right (by omega) (by omega)
          have hs2 : (s + 1) * P = s * P + P := by rw [Int.add_mul, Int.one_mul]
          have HX := Lib.hid (show v + s * P + P = v + (s + 1) * P by rw [hs2, Int.add_assoc])
          have HM := Lib.hid (show (v + D * P - (v + s * P + P)).toNat < (v + D * P - (v + s * P)).toNat by omega)
          have hxa : v + s * P + P ≤ 900000 := by omega
          clear hsp hsd hn2 hp2 hq hs1 hs2
          generalize v + s * P = X at *
          go_wp2_with fail
          have g0 : ∀ y : Abv wr, y.x.cell? _ = some _ := fun y => y.cell x1
          have hcb : ∀ y : Abv wr, _ := fun y => c_restOfB X b m1 (by omega) y.x
          clear x0 x1 x2 x3
          refine wp_region_above (by kernel_rfl) (by kernel_rfl) ?_
          repeat (refine q_step (fun K hK => ?_); go_simp; first | (refine hK _ ?_; clear hK K) | (apply Exists.intro; refine ⟨fun _ => ?_, hK _ ?_⟩; exact calls_above (hcb _); clear hK K))
          refine q_nil ?_
          intro _ hw'
          obtain ⟨y, hy⟩ := hw'
          subst hy
          have hN1 := hN1.keep y.h
          have hB := bt2 hB y.h
          go_wp2_with fail
          go_roundw
          case rel => exact ⟨s + 1, by omega, by omega, by rw [HX.out], hN1, hB⟩
          case measure => simpa [intOf] using HM.out
    case inr.inr.inl =>
      obtain ⟨⟨d0, d1⟩, d2, d3⟩ := HS.out.dig 2 (by omega)
      have HD := Lib.hid (numK_succ a b c d p q r t 2)
      have HP := Lib.hid (pK_succ a b c d 2 (by omega))
      have hp := pK_bd HS.out.ha HS.out.hb HS.out.hc HS.out.hd 2 (by omega)
      have hp2 := pK_bd HS.out.ha HS.out.hb HS.out.hc HS.out.hd (2 + 1) (by omega)
      have hn := HS.out.num 2 (by omega)
      have hn2 := HS.out.num (2 + 1) (by omega)
      have hm := at4_mb HS.out.ha HS.out.hb HS.out.hc HS.out.hd 2
      rw [HP.out] at hp2 hn2
      rw [HD.out] at hn2
      generalize digK a b c d p q r t 2 = D at *
      generalize numK a b c d p q r t 2 = v at *
      generalize pK a b c d 2 = P at *
      simp only [at4] at d1 d2 d3 hm hn2 hp2 HP
      obtain ⟨m1, m2⟩ := hm
      have H2 := Lib.hid d2
      have H3 := Lib.hid d3
      have HN2 := Lib.hid hn2
      have HP2 := Lib.hid hp2
      clear d2 d3 hn2 hp2
      simp only [show ((2 : Nat) : Int) = 2 from rfl]
      go_wp2_with fail
      go_loopw [5] (fun x wr => ∃ (s : Int), 0 ≤ s ∧ s ≤ D ∧ x = .int .i64 (v + s * P) ∧ Arr wr (w.heap.size + 1) [.int .i64 p, .int .i64 q, .int .i64 r, .int .i64 t] ∧ Below w.heap.size w wr) (fun x _ => (v + D * P - intOf x).toNat)
      case atStart => exact ⟨0, by omega, by omega, by simp, hN1, hB⟩
      case round =>
        clear hN1 hB
        obtain ⟨s, s0, s1, rfl, hN1, hB⟩ := hrel
        obtain ⟨x0, x1, x2, x3⟩ := Arr.get4 hN1
        have hsp : 0 ≤ s * P := Int.mul_nonneg s0 (by omega)
        have hsd : s * P ≤ D * P := Int.mul_le_mul_of_nonneg_right s1 (by omega)
        have hn2 := HN2.out
        have hp2 := HP2.out
        have hx0 : -1 ≤ v + s * P := by omega
        have hx1 : v + s * P ≤ 900000 := by omega
        by_cases hq : (v + s * P) % c = r
        · have hsD : s = D := by
            rcases Int.lt_or_eq_of_le s1 with h | h
            · exact absurd hq (H3.out s s0 h)
            · exact h
          have hqq : ((v + s * P) % c != r) = false := by simp [hq]
          have HQ := Lib.hid (show v + s * P = numK a b c d p q r t (2 + 1) by rw [hsD, HD.out])
          have HR := Lib.hid (show P * c = pK a b c d (2 + 1) from HP.out.symm)
          clear hsp hsd hn2 hp2 hq hsD
          generalize v + s * P = X at *
          go_wp2_with fail
          have g0 : ∀ y : Abv wr, y.x.cell? _ = some _ := fun y => y.cell x2
          have hcb : ∀ y : Abv wr, _ := fun y => c_restOfB X c m1 (by omega) y.x
          clear x0 x1 x2 x3
          refine wp_region_above (by kernel_rfl) (by kernel_rfl) ?_
          repeat (refine q_step (fun K hK => ?_); go_simp; first | (refine hK _ ?_; clear hK K) | (apply Exists.intro; refine ⟨fun _ => ?_, hK _ ?_⟩; exact calls_above (hcb _); clear hK K))
          refine q_nil ?_
          intro _ hw'
          obtain ⟨y, hy⟩ := hw'
          subst hy
          have hN1 := hN1.keep y.h
          have hB := bt2 hB y.h
          have hpm := mulb (show 0 ≤ P by omega) hp.2 (show 0 ≤ c by omega) m2
          go_wp2_with fail
          go_roundw
          case rel => exact ⟨3, by omega, rfl, by rw [HQ.out], by rw [HR.out], hN1, hB⟩
          case measure => simp [intOf]
        · have hsD : s < D := by
            rcases Int.lt_or_eq_of_le s1 with h | h
            · exact h
            · exact absurd (h ▸ H2.out) hq
          have hqq : ((v + s * P) % c != r) = true := by simpa using hq
          have hs1 : (s + 1) * P ≤ D * P := Int.mul_le_mul_of_nonneg_right (by omega) (by omega)
          have hs2 : (s + 1) * P = s * P + P := by rw [Int.add_mul, Int.one_mul]
          have HX := Lib.hid (show v + s * P + P = v + (s + 1) * P by rw [hs2, Int.add_assoc])
          have HM := Lib.hid (show (v + D * P - (v + s * P + P)).toNat < (v + D * P - (v + s * P)).toNat by omega)
          have hxa : v + s * P + P ≤ 900000 := by omega
          clear hsp hsd hn2 hp2 hq hs1 hs2
          generalize v + s * P = X at *
          go_wp2_with fail
          have g0 : ∀ y : Abv wr, y.x.cell? _ = some _ := fun y => y.cell x2
          have hcb : ∀ y : Abv wr, _ := fun y => c_restOfB X c m1 (by omega) y.x
          clear x0 x1 x2 x3
          refine wp_region_above (by kernel_rfl) (by kernel_rfl) ?_
          repeat (refine q_step (fun K hK => ?_); go_simp; first | (refine hK _ ?_; clear hK K) | (apply Exists.intro; refine ⟨fun _ => ?_, hK _ ?_⟩; exact calls_above (hcb _); clear hK K))
          refine q_nil ?_
          intro _ hw'
          obtain ⟨y, hy⟩ := hw'
          subst hy
          have hN1 := hN1.keep y.h
          have hB := bt2 hB y.h
          go_wp2_with fail
          go_roundw
          case rel => exact ⟨s + 1, by omega, by omega, by rw [HX.out], hN1, hB⟩
          case measure => simpa [intOf] using HM.out
    case inr.inr.inr.inl =>
      obtain ⟨⟨d0, d1⟩, d2, d3⟩ := HS.out.dig 3 (by omega)
      have HD := Lib.hid (numK_succ a b c d p q r t 3)
      have HP := Lib.hid (pK_succ a b c d 3 (by omega))
      have hp := pK_bd HS.out.ha HS.out.hb HS.out.hc HS.out.hd 3 (by omega)
      have hp2 := pK_bd HS.out.ha HS.out.hb HS.out.hc HS.out.hd (3 + 1) (by omega)
      have hn := HS.out.num 3 (by omega)
      have hn2 := HS.out.num (3 + 1) (by omega)
      have hm := at4_mb HS.out.ha HS.out.hb HS.out.hc HS.out.hd 3
      rw [HP.out] at hp2 hn2
      rw [HD.out] at hn2
      generalize digK a b c d p q r t 3 = D at *
      generalize numK a b c d p q r t 3 = v at *
      generalize pK a b c d 3 = P at *
      simp only [at4] at d1 d2 d3 hm hn2 hp2 HP
      obtain ⟨m1, m2⟩ := hm
      have H2 := Lib.hid d2
      have H3 := Lib.hid d3
      have HN2 := Lib.hid hn2
      have HP2 := Lib.hid hp2
      clear d2 d3 hn2 hp2
      simp only [show ((3 : Nat) : Int) = 3 from rfl]
      go_wp2_with fail
      go_loopw [5] (fun x wr => ∃ (s : Int), 0 ≤ s ∧ s ≤ D ∧ x = .int .i64 (v + s * P) ∧ Arr wr (w.heap.size + 1) [.int .i64 p, .int .i64 q, .int .i64 r, .int .i64 t] ∧ Below w.heap.size w wr) (fun x _ => (v + D * P - intOf x).toNat)
      case atStart => exact ⟨0, by omega, by omega, by simp, hN1, hB⟩
      case round =>
        clear hN1 hB
        obtain ⟨s, s0, s1, rfl, hN1, hB⟩ := hrel
        obtain ⟨x0, x1, x2, x3⟩ := Arr.get4 hN1
        have hsp : 0 ≤ s * P := Int.mul_nonneg s0 (by omega)
        have hsd : s * P ≤ D * P := Int.mul_le_mul_of_nonneg_right s1 (by omega)
        have hn2 := HN2.out
        have hp2 := HP2.out
        have hx0 : -1 ≤ v + s * P := by omega
        have hx1 : v + s * P ≤ 900000 := by omega
        by_cases hq : (v + s * P) % d = t
        · have hsD : s = D := by
            rcases Int.lt_or_eq_of_le s1 with h | h
            · exact absurd hq (H3.out s s0 h)
            · exact h
          have hqq : ((v + s * P) % d != t) = false := by simp [hq]
          have HQ := Lib.hid (show v + s * P = numK a b c d p q r t (3 + 1) by rw [hsD, HD.out])
          have HR := Lib.hid (show P * d = pK a b c d (3 + 1) from HP.out.symm)
          clear hsp hsd hn2 hp2 hq hsD
          generalize v + s * P = X at *
          go_wp2_with fail
          have g0 : ∀ y : Abv wr, y.x.cell? _ = some _ := fun y => y.cell x3
          have hcb : ∀ y : Abv wr, _ := fun y => c_restOfB X d m1 (by omega) y.x
          clear x0 x1 x2 x3
          refine wp_region_above (by kernel_rfl) (by kernel_rfl) ?_
          repeat (refine q_step (fun K hK => ?_); go_simp; first | (refine hK _ ?_; clear hK K) | (apply Exists.intro; refine ⟨fun _ => ?_, hK _ ?_⟩; exact calls_above (hcb _); clear hK K))
          refine q_nil ?_
          intro _ hw'
          obtain ⟨y, hy⟩ := hw'
          subst hy
          have hN1 := hN1.keep y.h
          have hB := bt2 hB y.h
          have hpm := mulb (show 0 ≤ P by omega) hp.2 (show 0 ≤ d by omega) m2
          go_wp2_with fail
          go_roundw
          case rel => exact ⟨4, by omega, rfl, by rw [HQ.out], by rw [HR.out], hN1, hB⟩
          case measure => simp [intOf]
        · have hsD : s < D := by
            rcases Int.lt_or_eq_of_le s1 with h | h
            · exact h
            · exact absurd (h ▸ H2.out) hq
          have hqq : ((v + s * P) % d != t) = true := by simpa using hq
          have hs1 : (s + 1) * P ≤ D * P := Int.mul_le_mul_of_nonneg_right (by omega) (by omega)
          have hs2 : (s + 1) * P = s * P + P := by rw [Int.add_mul, Int.one_mul]
          have HX := Lib.hid (show v + s * P + P = v + (s + 1) * P by rw [hs2, Int.add_assoc])
          have HM := Lib.hid (show (v + D * P - (v + s * P + P)).toNat < (v + D * P - (v + s * P)).toNat by omega)
          have hxa : v + s * P + P ≤ 900000 := by omega
          clear hsp hsd hn2 hp2 hq hs1 hs2
          generalize v + s * P = X at *
          go_wp2_with fail
          have g0 : ∀ y : Abv wr, y.x.cell? _ = some _ := fun y => y.cell x3
          have hcb : ∀ y : Abv wr, _ := fun y => c_restOfB X d m1 (by omega) y.x
          clear x0 x1 x2 x3
          refine wp_region_above (by kernel_rfl) (by kernel_rfl) ?_
          repeat (refine q_step (fun K hK => ?_); go_simp; first | (refine hK _ ?_; clear hK K) | (apply Exists.intro; refine ⟨fun _ => ?_, hK _ ?_⟩; exact calls_above (hcb _); clear hK K))
          refine q_nil ?_
          intro _ hw'
          obtain ⟨y, hy⟩ := hw'
          subst hy
          have hN1 := hN1.keep y.h
          have hB := bt2 hB y.h
          go_wp2_with fail
          go_roundw
          case rel => exact ⟨s + 1, by omega, by omega, by rw [HX.out], hN1, hB⟩
          case measure => simpa [intOf] using HM.out
    case inr.inr.inr.inr =>
      go_wp2_with fail
      go_ret
      exact ⟨rfl, hB⟩
end Go.Proofs.Ytnbejgbkabaleaa
