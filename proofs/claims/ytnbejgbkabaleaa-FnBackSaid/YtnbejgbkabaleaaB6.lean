/- Chapter 5, the program: rests that lead back to 1. -/
import Derived.Test.YtnbejgbkabaleaaB5
namespace Go.Proofs.Ytnbejgbkabaleaa
open Go.RowKit
/-- the last of the numbers less than k whose product with r has the rest 1, 0 where there is none -/
def invS (m r : Int) : Nat → Int
  | 0 => 0
  | k + 1 => bif r * (k : Int) % m == 1 then (k : Int) else invS m r k
def inv (m r : Int) : Int := invS m r m.toNat
theorem invS_bd (m r : Int) (k : Nat) : 0 ≤ invS m r k ∧ (invS m r k = 0 ∨ invS m r k < k) := by
  induction k with
  | zero => simp [invS]
  | succ k ih =>
    simp only [invS]
    cases h : (r * (k : Int) % m == 1)
    · simp only [cond_false]; omega
    · simp only [cond_true]; omega
theorem invS_t {m r : Int} {k : Nat} (h : r * (k : Int) % m = 1) : invS m r (k + 1) = k := by simp [invS, h]
theorem invS_f {m r : Int} {k : Nat} (h : ¬ r * (k : Int) % m = 1) : invS m r (k + 1) = invS m r k := by
  have hb : (r * (k : Int) % m == 1) = false := by simpa using h
  simp only [invS, hb, cond_false]
set_option maxRecDepth 20000 in
set_option maxHeartbeats 4000000 in
theorem c_back (p q r t a b c d n : Int) (ha : MB a) (hb : MB b) (hc : MB c) (hd : MB d) (hp : R30 p) (hq : R30 q) (hr : R30 r) (ht : R30 t) (w : World) : Calls Try.prog 68 #[restV p q r t, baseV a b c d n] w fun e w' => e = .returned (restV (inv a p) (inv b q) (inv c r) (inv d t)) ∧ Below w.heap.size w w' := by
  obtain ⟨i0, i1, i2, i3⟩ := idx4 a b c d
  have hN0 := (((Arr.newAt w #[.int .i64 p, .int .i64 q, .int .i64 r, .int .i64 t] 56 _ rfl).alloc (.cells #[.int .i64 a, .int .i64 b, .int .i64 c, .int .i64 d, .int .i64 n] 50)).alloc (.cells #[.int .i64 0, .int .i64 0, .int .i64 0, .int .i64 0] 56)).alloc (.cells #[.int .i64 0, .int .i64 0, .int .i64 0, .int .i64 0] 56)
  have hN2 := (Arr.newAt ((w.alloc (.cells #[.int .i64 p, .int .i64 q, .int .i64 r, .int .i64 t] 56)).alloc (.cells #[.int .i64 a, .int .i64 b, .int .i64 c, .int .i64 d, .int .i64 n] 50)) #[.int .i64 0, .int .i64 0, .int .i64 0, .int .i64 0] 56 (w.heap.size + 1 + 1) (by simp)).alloc (.cells #[.int .i64 0, .int .i64 0, .int .i64 0, .int .i64 0] 56)
  have hN3 := Arr.newAt (((w.alloc (.cells #[.int .i64 p, .int .i64 q, .int .i64 r, .int .i64 t] 56)).alloc (.cells #[.int .i64 a, .int .i64 b, .int .i64 c, .int .i64 d, .int .i64 n] 50)).alloc (.cells #[.int .i64 0, .int .i64 0, .int .i64 0, .int .i64 0] 56)) #[.int .i64 0, .int .i64 0, .int .i64 0, .int .i64 0] 56 (w.heap.size + 1 + 1 + 1) (by simp)
  have hB : Below w.heap.size w _ := ba (ba (ba (ba (Below.refl _ _) (.cells #[.int .i64 p, .int .i64 q, .int .i64 r, .int .i64 t] 56)) (.cells #[.int .i64 a, .int .i64 b, .int .i64 c, .int .i64 d, .int .i64 n] 50)) (.cells #[.int .i64 0, .int .i64 0, .int .i64 0, .int .i64 0] 56)) (.cells #[.int .i64 0, .int .i64 0, .int .i64 0, .int .i64 0] 56)
  go_enter Try.func68, Try.ntmps68
  go_wp2_with fail
  go_loopw [11] (fun i wr => ∃ (k : Nat), k ≤ 4 ∧ i = .int .i64 k ∧ Arr wr (w.heap.size + 1 + 1 + 1) (mixL k [.int .i64 (inv a p), .int .i64 (inv b q), .int .i64 (inv c r), .int .i64 (inv d t)] [.int .i64 0, .int .i64 0, .int .i64 0, .int .i64 0]) ∧ Arr wr w.heap.size [.int .i64 p, .int .i64 q, .int .i64 r, .int .i64 t] ∧ Arr wr (w.heap.size + 1 + 1) [.int .i64 0, .int .i64 0, .int .i64 0, .int .i64 0] ∧ Below w.heap.size w wr) (fun i _ => 4 - (intOf i).toNat)
  case atStart => exact ⟨0, by omega, rfl, hN3, hN0, hN2, hB⟩
  case round =>
    clear hN0 hN2 hN3 hB
    obtain ⟨k, hk, rfl, hN3, hN0, hN2, hB⟩ := hrel
    rcases (show k = 0 ∨ k = 1 ∨ k = 2 ∨ k = 3 ∨ k = 4 by omega) with rfl | rfl | rfl | rfl | rfl
    case inl =>
      obtain ⟨m1, m2⟩ := ha
      obtain ⟨v1, v2⟩ := hp
      obtain ⟨C, hC⟩ := Int.eq_ofNat_of_zero_le (show 0 ≤ a by omega)
      have HC := Lib.hid hC
      have HI := Lib.hid (show inv a p = invS a p C by unfold inv; rw [hC]; rfl)
      have hC30 : C ≤ 30 := by omega
      simp only [show ((0 : Nat) : Int) = 0 from rfl]
      clear hC
      go_wp2_with fail
      go_loopw [16] (fun i wr => ∃ (j : Nat), j ≤ C ∧ i = .int .i64 j ∧ Arr wr (w.heap.size + 1 + 1 + 1) [.int .i64 (invS a p j), .int .i64 0, .int .i64 0, .int .i64 0] ∧ Arr wr w.heap.size [.int .i64 p, .int .i64 q, .int .i64 r, .int .i64 t] ∧ Arr wr (w.heap.size + 1 + 1) [.int .i64 0, .int .i64 0, .int .i64 0, .int .i64 0] ∧ Below w.heap.size w wr) (fun i _ => C - (intOf i).toNat)
      case atStart => exact ⟨0, by omega, rfl, hN3, hN0, hN2, hB⟩
      case round =>
        clear hN0 hN2 hN3 hB
        obtain ⟨j, hj, rfl, hN3, hN0, hN2, hB⟩ := hrel
        by_cases hlt : j < C
        · have hjm : (j : Int) < a := by have := HC.out; omega
          have hjb := mulb v1 v2 (show 0 ≤ (j : Int) by omega) (show (j : Int) ≤ 30 by omega)
          have hja : p * (j : Int) ≤ 30000 := by omega
          have hj0 : 0 ≤ p * (j : Int) := hjb.1
          clear hjb
          have x0 := (Arr.get4 hN0).1
          have y0 := (Arr.get4 hN3).1
          have f0 := hN3.f
          by_cases hq1 : p * (j : Int) % a = 1
          · have HT := Lib.hid (invS_t hq1)
            have hqb : (p * (j : Int) % a == 1) = true := by simp [hq1]
            clear hq1
            go_wp2_with (go_at_call 61; refine (c_restOf _ _ m1 (by omega) _).mono ?_; rintro e w1 ⟨rfl, rfl⟩)
            go_roundw
            case rel => exact ⟨j + 1, by omega, by go_num, by rw [HT.out]; simpa using hN3.put 0 (by simp) _, hN0.miss (by omega) _ _, hN2.miss (by omega) _ _, hB.setCell (by simp; omega) _⟩
            case measure => simp [intOf]; omega
          · have HT := Lib.hid (invS_f hq1)
            have hqb : (p * (j : Int) % a == 1) = false := by simpa using hq1
            clear hq1
            go_wp2_with (go_at_call 61; refine (c_restOf _ _ m1 (by omega) _).mono ?_; rintro e w1 ⟨rfl, rfl⟩)
            go_roundw
            case rel => exact ⟨j + 1, by omega, by go_num, by rw [HT.out]; exact hN3, hN0, hN2, hB⟩
            case measure => simp [intOf]; omega
        · have hjC : j = C := by omega
          subst hjC
          have hjm : ¬ (j : Int) < a := by have := HC.out; omega
          have hjd : decide ((j : Int) < a) = false := decide_eq_false hjm
          go_wp2_with fail
          go_roundw
          case rel => exact ⟨1, by omega, rfl, by simpa [mixL, HI.out] using hN3, hN0, hN2, hB⟩
          case measure => simp [intOf]
    case inr.inl =>
      obtain ⟨m1, m2⟩ := hb
      obtain ⟨v1, v2⟩ := hq
      obtain ⟨C, hC⟩ := Int.eq_ofNat_of_zero_le (show 0 ≤ b by omega)
      have HC := Lib.hid hC
      have HI := Lib.hid (show inv b q = invS b q C by unfold inv; rw [hC]; rfl)
      have hC30 : C ≤ 30 := by omega
      simp only [show ((1 : Nat) : Int) = 1 from rfl]
      clear hC
      go_wp2_with fail
      go_loopw [16] (fun i wr => ∃ (j : Nat), j ≤ C ∧ i = .int .i64 j ∧ Arr wr (w.heap.size + 1 + 1 + 1) [.int .i64 (inv a p), .int .i64 (invS b q j), .int .i64 0, .int .i64 0] ∧ Arr wr w.heap.size [.int .i64 p, .int .i64 q, .int .i64 r, .int .i64 t] ∧ Arr wr (w.heap.size + 1 + 1) [.int .i64 0, .int .i64 0, .int .i64 0, .int .i64 0] ∧ Below w.heap.size w wr) (fun i _ => C - (intOf i).toNat)
      case atStart => exact ⟨0, by omega, rfl, hN3, hN0, hN2, hB⟩
      case round =>
        clear hN0 hN2 hN3 hB
        obtain ⟨j, hj, rfl, hN3, hN0, hN2, hB⟩ := hrel
        by_cases hlt : j < C
        · have hjm : (j : Int) < b := by have := HC.out; omega
          have hjb := mulb v1 v2 (show 0 ≤ (j : Int) by omega) (show (j : Int) ≤ 30 by omega)
          have hja : q * (j : Int) ≤ 30000 := by omega
          have hj0 : 0 ≤ q * (j : Int) := hjb.1
          clear hjb
          have x0 := (Arr.get4 hN0).2.1
          have y0 := (Arr.get4 hN3).2.1
          have f0 := hN3.f
          by_cases hq1 : q * (j : Int) % b = 1
          · have HT := Lib.hid (invS_t hq1)
            have hqb : (q * (j : Int) % b == 1) = true := by simp [hq1]
            clear hq1
            go_wp2_with (go_at_call 61; refine (c_restOf _ _ m1 (by omega) _).mono ?_; rintro e w1 ⟨rfl, rfl⟩)
            go_roundw
            case rel => exact ⟨j + 1, by omega, by go_num, by rw [HT.out]; simpa using hN3.put 1 (by simp) _, hN0.miss (by omega) _ _, hN2.miss (by omega) _ _, hB.setCell (by simp; omega) _⟩
            case measure => simp [intOf]; omega
          · have HT := Lib.hid (invS_f hq1)
            have hqb : (q * (j : Int) % b == 1) = false := by simpa using hq1
            clear hq1
            go_wp2_with (go_at_call 61; refine (c_restOf _ _ m1 (by omega) _).mono ?_; rintro e w1 ⟨rfl, rfl⟩)
            go_roundw
            case rel => exact ⟨j + 1, by omega, by go_num, by rw [HT.out]; exact hN3, hN0, hN2, hB⟩
            case measure => simp [intOf]; omega
        · have hjC : j = C := by omega
          subst hjC
          have hjm : ¬ (j : Int) < b := by have := HC.out; omega
          have hjd : decide ((j : Int) < b) = false := decide_eq_false hjm
          go_wp2_with fail
          go_roundw
          case rel => exact ⟨2, by omega, rfl, by simpa [mixL, HI.out] using hN3, hN0, hN2, hB⟩
          case measure => simp [intOf]
    case inr.inr.inl =>
      obtain ⟨m1, m2⟩ := hc
      obtain ⟨v1, v2⟩ := hr
      obtain ⟨C, hC⟩ := Int.eq_ofNat_of_zero_le (show 0 ≤ c by omega)
      have HC := Lib.hid hC
      have HI := Lib.hid (show inv c r = invS c r C by unfold inv; rw [hC]; rfl)
      have hC30 : C ≤ 30 := by omega
      simp only [show ((2 : Nat) : Int) = 2 from rfl]
      clear hC
      go_wp2_with fail
      go_loopw [16] (fun i wr => ∃ (j : Nat), j ≤ C ∧ i = .int .i64 j ∧ Arr wr (w.heap.size + 1 + 1 + 1) [.int .i64 (inv a p), .int .i64 (inv b q), .int .i64 (invS c r j), .int .i64 0] ∧ Arr wr w.heap.size [.int .i64 p, .int .i64 q, .int .i64 r, .int .i64 t] ∧ Arr wr (w.heap.size + 1 + 1) [.int .i64 0, .int .i64 0, .int .i64 0, .int .i64 0] ∧ Below w.heap.size w wr) (fun i _ => C - (intOf i).toNat)
      case atStart => exact ⟨0, by omega, rfl, hN3, hN0, hN2, hB⟩
      case round =>
        clear hN0 hN2 hN3 hB
        obtain ⟨j, hj, rfl, hN3, hN0, hN2, hB⟩ := hrel
        by_cases hlt : j < C
        · have hjm : (j : Int) < c := by have := HC.out; omega
          have hjb := mulb v1 v2 (show 0 ≤ (j : Int) by omega) (show (j : Int) ≤ 30 by omega)
          have hja : r * (j : Int) ≤ 30000 := by omega
          have hj0 : 0 ≤ r * (j : Int) := hjb.1
          clear hjb
          have x0 := (Arr.get4 hN0).2.2.1
          have y0 := (Arr.get4 hN3).2.2.1
          have f0 := hN3.f
          by_cases hq1 : r * (j : Int) % c = 1
          · have HT := Lib.hid (invS_t hq1)
            have hqb : (r * (j : Int) % c == 1) = true := by simp [hq1]
            clear hq1
            go_wp2_with (go_at_call 61; refine (c_restOf _ _ m1 (by omega) _).mono ?_; rintro e w1 ⟨rfl, rfl⟩)
            go_roundw
            case rel => exact ⟨j + 1, by omega, by go_num, by rw [HT.out]; simpa using hN3.put 2 (by simp) _, hN0.miss (by omega) _ _, hN2.miss (by omega) _ _, hB.setCell (by simp; omega) _⟩
            case measure => simp [intOf]; omega
          · have HT := Lib.hid (invS_f hq1)
            have hqb : (r * (j : Int) % c == 1) = false := by simpa using hq1
            clear hq1
            go_wp2_with (go_at_call 61; refine (c_restOf _ _ m1 (by omega) _).mono ?_; rintro e w1 ⟨rfl, rfl⟩)
            go_roundw
            case rel => exact ⟨j + 1, by omega, by go_num, by rw [HT.out]; exact hN3, hN0, hN2, hB⟩
            case measure => simp [intOf]; omega
        · have hjC : j = C := by omega
          subst hjC
          have hjm : ¬ (j : Int) < c := by have := HC.out; omega
          have hjd : decide ((j : Int) < c) = false := decide_eq_false hjm
          go_wp2_with fail
          go_roundw
          case rel => exact ⟨3, by omega, rfl, by simpa [mixL, HI.out] using hN3, hN0, hN2, hB⟩
          case measure => simp [intOf]
    case inr.inr.inr.inl =>
      obtain ⟨m1, m2⟩ := hd
      obtain ⟨v1, v2⟩ := ht
      obtain ⟨C, hC⟩ := Int.eq_ofNat_of_zero_le (show 0 ≤ d by omega)
      have HC := Lib.hid hC
      have HI := Lib.hid (show inv d t = invS d t C by unfold inv; rw [hC]; rfl)
      have hC30 : C ≤ 30 := by omega
      simp only [show ((3 : Nat) : Int) = 3 from rfl]
      clear hC
      go_wp2_with fail
      go_loopw [16] (fun i wr => ∃ (j : Nat), j ≤ C ∧ i = .int .i64 j ∧ Arr wr (w.heap.size + 1 + 1 + 1) [.int .i64 (inv a p), .int .i64 (inv b q), .int .i64 (inv c r), .int .i64 (invS d t j)] ∧ Arr wr w.heap.size [.int .i64 p, .int .i64 q, .int .i64 r, .int .i64 t] ∧ Arr wr (w.heap.size + 1 + 1) [.int .i64 0, .int .i64 0, .int .i64 0, .int .i64 0] ∧ Below w.heap.size w wr) (fun i _ => C - (intOf i).toNat)
      case atStart => exact ⟨0, by omega, rfl, hN3, hN0, hN2, hB⟩
      case round =>
        clear hN0 hN2 hN3 hB
        obtain ⟨j, hj, rfl, hN3, hN0, hN2, hB⟩ := hrel
        by_cases hlt : j < C
        · have hjm : (j : Int) < d := by have := HC.out; omega
          have hjb := mulb v1 v2 (show 0 ≤ (j : Int) by omega) (show (j : Int) ≤ 30 by omega)
          have hja : t * (j : Int) ≤ 30000 := by omega
          have hj0 : 0 ≤ t * (j : Int) := hjb.1
          clear hjb
          have x0 := (Arr.get4 hN0).2.2.2
          have y0 := (Arr.get4 hN3).2.2.2
          have f0 := hN3.f
          by_cases hq1 : t * (j : Int) % d = 1
          · have HT := Lib.hid (invS_t hq1)
            have hqb : (t * (j : Int) % d == 1) = true := by simp [hq1]
            clear hq1
            go_wp2_with (go_at_call 61; refine (c_restOf _ _ m1 (by omega) _).mono ?_; rintro e w1 ⟨rfl, rfl⟩)
            go_roundw
            case rel => exact ⟨j + 1, by omega, by go_num, by rw [HT.out]; simpa using hN3.put 3 (by simp) _, hN0.miss (by omega) _ _, hN2.miss (by omega) _ _, hB.setCell (by simp; omega) _⟩
            case measure => simp [intOf]; omega
          · have HT := Lib.hid (invS_f hq1)
            have hqb : (t * (j : Int) % d == 1) = false := by simpa using hq1
            clear hq1
            go_wp2_with (go_at_call 61; refine (c_restOf _ _ m1 (by omega) _).mono ?_; rintro e w1 ⟨rfl, rfl⟩)
            go_roundw
            case rel => exact ⟨j + 1, by omega, by go_num, by rw [HT.out]; exact hN3, hN0, hN2, hB⟩
            case measure => simp [intOf]; omega
        · have hjC : j = C := by omega
          subst hjC
          have hjm : ¬ (j : Int) < d := by have := HC.out; omega
          have hjd : decide ((j : Int) < d) = false := decide_eq_false hjm
          go_wp2_with fail
          go_roundw
          case rel => exact ⟨4, by omega, rfl, by simpa [mixL, HI.out] using hN3, hN0, hN2, hB⟩
          case measure => simp [intOf]
    case inr.inr.inr.inr =>
      obtain ⟨x0, x1, x2, x3⟩ := Arr.get4 hN3
      obtain ⟨y0, y1, y2, y3⟩ := Arr.get4 hN2
      have fy := hN2.f
      go_wp2_with fail
      obtain ⟨z0, z1, z2, z3⟩ := Arr.get4 (ret4 hN2 (y0 := .int .i64 (inv a p)) (y1 := .int .i64 (inv b q)) (y2 := .int .i64 (inv c r)) (y3 := .int .i64 (inv d t)))
      refine bodyPost_ret (v := restV (inv a p) (inv b q) (inv c r) (inv d t)) (by simp [results, Try.results68, go_sem, z0, z1, z2, z3]) rfl ⟨rfl, ?_⟩
      exact bel4 hB (by omega) _ _ _ _
end Go.Proofs.Ytnbejgbkabaleaa
