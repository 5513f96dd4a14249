/- What the laws of chapter 4 draw: a system that is often exact. -/
import Derived.Test.YtcokcnpnemhdfaaDoorMg4
namespace Go.Proofs.YtcokcnpnemhdfaaDoor
open Go.RowKit
set_option maxRecDepth 20000 in
set_option maxHeartbeats 4000000 in
theorem c_l92Exact (s : Option Addr) (len cap : Nat) (w : World) (h : Code0 w s len cap) : Calls Tryd.prog 9 #[.slice s len cap] w (DrawnS w) := by
  obtain ⟨i0, hi0, hz0, hz1, hz2⟩ := info_parts infoC
  go_enter Tryd.func9, Tryd.ntmps9
  go_wp2_with fail
  refine (c_l6Open s len cap _ h).mono ?_
  rintro e w1 ⟨B, s', len', hB', rfl, hR1, hb1⟩
  have hB := hR1.lt
  have hs1 := hb1.size
  have hO1 : OwnC (w1.alloc (.cells #[.int .i64 0, .int .i64 1] 35)) w1.heap.size 35 (.slice (some ⟨w1.heap.size, 0, none⟩) 1 1) [(0, 1)] := World.ownsRow_lit w1 #[.int .i64 0, .int .i64 1] 1 (Nat.le_refl _) (by unfold maxLen; omega) rfl
  have hq1 : Oth B w1 (w1.alloc (.cells #[.int .i64 0, .int .i64 1] 35)) := (Oth.refl B w1).alloc _
  go_wp2_with fail
  refine (c_pickR 5 (by omega) (by omega) (hR1.alloc _) (by omega)).mono ?_
  rintro e w2 ⟨kd, k1, k2, rfl, hR2, hP2⟩
  obtain ⟨N, rfl⟩ := Int.eq_ofNat_of_zero_le k1
  have hD2 : DrS 1 w.heap.size B s' len' 1 w1 (.slice (some ⟨w1.heap.size, 0, none⟩) 1 1) w2 := ⟨_, _, hO1.oth hP2 hB, sys_one, fun c hc => by simp at hc; subst hc; exact Int.le_refl _, hR2, Nat.le_refl _, hq1.trans hP2⟩
  clear hO1 hR2 hP2 hq1 h
  go_wp2_with fail
  go_loopw [4, 6] (fun v i wr => ∃ j : Nat, j ≤ N ∧ i = .int .i64 j ∧ DrS (3 ^ j) w.heap.size B s' len' (1 + 2 * j) w1 v wr) (fun _ i _ => N - (intOf i).toNat)
  case atStart => exact ⟨0, by omega, rfl, hD2⟩
  case round =>
    clear hD2
    obtain ⟨j, hj, rfl, hD⟩ := hrel
    by_cases hlt : j < N
    · obtain ⟨zs, p', hO, hsy, hSm, hR, hp', hQ⟩ := hD
      obtain ⟨so, co, rfl, hC, hc1, hc2⟩ := hO.all
      obtain ⟨l1, l2, _⟩ := sysB_facts hsy
      obtain ⟨n, hn⟩ : ∃ n, zs.length = n := ⟨_, rfl⟩
      rw [hn] at hO hC hc1 l1 l2 ⊢
      obtain ⟨T, hT1, hT2, hT3, hT4⟩ : ∃ T : Int, (3 : Int) ^ j = T ∧ (3 : Int) ^ (j + 1) = T * 3 ∧ 0 ≤ T ∧ T ≤ 300 := by
        refine ⟨3 ^ j, rfl, Int.pow_succ .., ?_⟩
        have : j = 0 ∨ j = 1 ∨ j = 2 ∨ j = 3 := by omega
        rcases this with rfl | rfl | rfl | rfl <;> decide
      rw [hT1] at hSm
      have hjz : (j : Int) < (N : Int) := by omega
      go_wp2_with fail
      refine (c_pickR (n : Int) (by omega) (by omega) hR (by omega)).mono ?_
      rintro e w3 ⟨a, a1, a2, rfl, hR3, hQ3⟩
      go_wp2_with fail
      refine (c_pickR 3 (by omega) (by omega) hR3 (by omega)).mono ?_
      rintro e w4 ⟨b, b1, b2, rfl, hR4, hQ4⟩
      obtain ⟨an, rfl⟩ := Int.eq_ofNat_of_zero_le a1
      have hQ4' := hQ.trans (hQ3.trans hQ4)
      have hO4 := (hO.oth hQ3 hB).oth hQ4 hB
      have hsp := c_ExactSplit so n co zs an (2 + b / 2) T (by omega) hc1 hc2 (by omega) (by omega) (by omega) hsy hT4 hSm w4 ((spreadC hO4).at_len hn)
      have hB4 := hR4.lt
      go_wp2_with fail
      refine hsp.mono ?_
      rintro e w5 ⟨v5, ys, ok, rfl, hO5, hb5, hok⟩
      have hR5 := hR4.below hb5
      have hQ5 := hQ4'.trans (Oth.of_below hb5)
      have hO45 := hO4.keep hb5
      have HT := Lib.hid hT2
      clear hsp hQ hQ3 hQ4 hR hR3 hR4 hO hT1 hT2
      cases ok
      · clear hok
        go_wp2_with fail
        go_roundw
        case rel =>
          have hS5 : Small (3 ^ (j + 1)) zs := fun c hc => by have := hSm c hc; rw [HT.out]; omega
          exact ⟨j + 1, by omega, by go_num, zs, _, hO45, hsy, hS5, hR5, by omega, hQ5⟩
        case measure => simp [intOf]; omega
      · obtain ⟨hy1, hy2⟩ := hok rfl
        have hO5' := hO5.low hQ4'.size
        go_wp2_with fail
        go_roundw
        case rel =>
          have hS5 : Small (3 ^ (j + 1)) ys := by rw [HT.out]; exact hy2
          exact ⟨j + 1, by omega, by go_num, ys, _, hO5', hy1, hS5, hR5, by omega, hQ5⟩
        case measure => simp [intOf]; omega
    · obtain ⟨zs, p', hO, hsy, hSm, hR, hp', hQ⟩ := hD
      obtain ⟨l1, l2, _⟩ := sysB_facts hsy
      have hjz : ¬ (j : Int) < (N : Int) := by omega
      clear hSm hsy
      go_wp2_with fail
      refine (c_pickR 5 (by omega) (by omega) hR (by omega)).mono ?_
      rintro e w3 ⟨a, a1, a2, rfl, hR3, hQ3⟩
      have hO3 := hO.oth hQ3 hB
      have hQ3' := hQ.trans hQ3
      by_cases ha : a = 0
      · subst ha
        go_wp2_with fail
        refine (c_l91System hR3 (by omega)).mono ?_
        rintro e w4 ⟨v4, ys, p4, rfl, hO4, hl4, hR4, hp4, hQ4⟩
        go_wp2_with fail
        go_ret
        exact ⟨_, ys, rfl, hO4.low (by have := hQ3'.size; omega), hl4, hb1.trans (oth_below (hQ3'.trans hQ4) hR1)⟩
      · have hab : (a == 0) = false := by simpa using ha
        go_wp2_with fail
        go_ret
        exact ⟨_, zs, rfl, hO3.low hs1, by omega, hb1.trans (oth_below hQ3' hR1)⟩
theorem c_DrawExactModuli (s : Option Addr) (len cap : Nat) (w : World) (h : Code0 w s len cap) : Calls Tryd.prog 4 #[.slice s len cap] w (DrawnS w) := by
  go_enter Tryd.func4, Tryd.ntmps4
  go_wp2_with fail
  refine (c_l92Exact s len cap _ h).mono ?_
  rintro e w2 ⟨v, zs, rfl, hO, hl, hb⟩
  go_wp2_with fail
  go_ret
  exact ⟨_, zs, rfl, hO, hl, hb⟩
end Go.Proofs.YtcokcnpnemhdfaaDoor
