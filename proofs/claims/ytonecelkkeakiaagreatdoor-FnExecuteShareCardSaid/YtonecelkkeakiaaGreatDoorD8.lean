/- The drawn systems. -/
import Derived.Test.YtonecelkkeakiaaGreatDoorD7
import Derived.Test.YtonecelkkeakiaaGreatDoorMz3
import Derived.Deep.DeepCutAuto
import Derived.Deep.CutBlock
namespace Go.Proofs.YtonecelkkeakiaaGreatDoor
open Go.RowKit
theorem OwnC.oth {w w' : World} {B base : Nat} {e : TypeId} {v : Value} {zs : List Cl} (h : OwnC w base e v zs) (k : Oth B w w') (hb : B < base) : OwnC w' base e v zs := by
  obtain ⟨h1, h2⟩ := h
  refine ⟨h1, ?_⟩
  rcases h2 with h2 | ⟨g, cap, cur, hv, hg, hh, r⟩
  · exact .inl h2
  · exact .inr ⟨g, cap, cur, hv, hg, by rw [k.block g (block_lt hh) (by omega)]; exact hh, r⟩
theorem OwnC.all {w : World} {base : Nat} {e : TypeId} {v : Value} {zs : List Cl} (h : OwnC w base e v zs) : ∃ s cap, v = .slice s zs.length cap ∧ Cls w s zs.length zs ∧ zs.length ≤ cap ∧ cap ≤ 9223372036854775807 := by
  obtain ⟨s3, cap3, rfl, hC3, _⟩ := h.spread
  refine ⟨s3, cap3, rfl, hC3, ?_⟩
  rcases h.2 with ⟨h1, h2⟩ | ⟨g', cap', cur, h1, _, _, h3, h4, _⟩
  · simp only [Value.slice.injEq] at h1
    omega
  · simp only [Value.slice.injEq] at h1
    unfold maxLen at h4
    omega
theorem Oth.grown {B : Nat} {a w w' : World} {row : Option Nat} (h : Oth B a w) (hg : w.grownBy w' row) (hr : ∀ j, row = some j → a.heap.size ≤ j) : Oth B a w' :=
  ⟨hg.os.trans h.os, hg.tape.trans h.tape, hg.output.trans h.output, Nat.le_trans h.size hg.size, fun k hk hne => (hg.block k (Nat.lt_of_lt_of_le hk h.size) (fun e => by have := hr k e.symm; omega)).trans (h.block k hk hne)⟩
theorem Rd.grown {b0 : Nat} {w w' : World} {B : Nat} {s : Option Addr} {len p : Nat} {row : Option Nat} (h : Rd b0 w B s len p) (hg : w.grownBy w' row) (hr : ∀ j, row = some j → B < j) : Rd b0 w' B s len p :=
  h.keep fun k hk => hg.block k (Nat.lt_of_le_of_lt hk h.lt) (fun e => by have := hr k e.symm; omega)
/-- a drawn list, and the reader behind it -/
def Dr (b0 B : Nat) (s : Option Addr) (len p : Nat) (w : World) (v : Value) (wx : World) : Prop := ∃ zs p', OwnC wx w.heap.size 41 v zs ∧ 1 ≤ zs.length ∧ zs.length ≤ 8 ∧ Rd b0 wx B s len p' ∧ p' ≤ p ∧ Oth B w wx
/-- a drawn system, and the reader behind it -/
def DrS (T : Int) (b0 B : Nat) (s : Option Addr) (len p : Nat) (w : World) (v : Value) (wx : World) : Prop := ∃ zs p', OwnC wx w.heap.size 41 v zs ∧ sysB zs = true ∧ Small T zs ∧ Rd b0 wx B s len p' ∧ p' ≤ p ∧ Oth B w wx
theorem DrS.dr {T : Int} {b0 B : Nat} {s : Option Addr} {len p : Nat} {w : World} {v : Value} {wx : World} (h : DrS T b0 B s len p w v wx) : Dr b0 B s len p w v wx := by
  obtain ⟨zs, p', h1, h2, _, h3⟩ := h
  obtain ⟨l1, l2, _⟩ := sysB_facts h2
  exact ⟨zs, p', h1, l1, l2, h3⟩
theorem Dr.more {b0 B : Nat} {s : Option Addr} {len p q : Nat} {w : World} {v : Value} {wx : World} (h : Dr b0 B s len p w v wx) (hq : p ≤ q) : Dr b0 B s len q w v wx := by
  obtain ⟨zs, p', h1, h2, h3, h4, h5, h6⟩ := h
  exact ⟨zs, p', h1, h2, h3, h4, by omega, h6⟩
theorem Cls.at_len {w : World} {s : Option Addr} {n m : Nat} {zs : List Cl} (h : Cls w s m zs) (hn : zs.length = n) : Cls w s n zs := by
  have := h.len
  have e : m = n := by omega
  exact e ▸ h
theorem sys_one : sysB [(0, 1)] = true := by decide +kernel
def DrawnL (k : Nat) (b0 B : Nat) (s : Option Addr) (len p : Nat) (w : World) (e : Ending) (w' : World) : Prop := ∃ v zs p', e = .returned v ∧ OwnC w' w.heap.size 41 v zs ∧ zs.length ≤ 9 ∧ Rd b0 w' B s len p' ∧ p' ≤ p + k ∧ Oth B w w'
set_option maxRecDepth 20000 in
set_option maxHeartbeats 4000000 in
theorem c_l91System {b0 : Nat} {w : World} {B : Nat} {s : Option Addr} {len p : Nat} (h : Rd b0 w B s len p) (hp : p + 40 < 1000000) :
    Calls Tryz.prog 85 #[.pointer (some ⟨B, 0, none⟩)] w (DrawnL 40 b0 B s len p w) := by
  have hB := h.lt
  obtain ⟨i0, hi0, hz0, hz1, hz2⟩ := info_parts infoC
  have hO1 : OwnC (w.alloc (.cells #[.int .i64 0, .int .i64 1] 41)) w.heap.size 41 (.slice (some ⟨w.heap.size, 0, none⟩) 1 1) [(0, 1)] := World.ownsRow_lit w #[.int .i64 0, .int .i64 1] 1 (Nat.le_refl _) (by unfold maxLen; omega) rfl
  have hq1 : Oth B w (w.alloc (.cells #[.int .i64 0, .int .i64 1] 41)) := (Oth.refl B w).alloc _
  go_enter Tryz.func85, Tryz.ntmps85
  go_wp2_with fail
  refine (c_pickR 4 (by omega) (by omega) (h.alloc _) (by omega)).mono ?_
  rintro e w2 ⟨kd, k1, k2, rfl, hR2, hP2⟩
  have hD2 : DrS 1 b0 B s len (p + 1) w (.slice (some ⟨w.heap.size, 0, none⟩) 1 1) w2 := ⟨_, _, hO1.oth hP2 hB, sys_one, fun c hc => by simp at hc; subst hc; exact Int.le_refl _, hR2, Nat.le_refl _, hq1.trans hP2⟩
  clear hO1 hR2 hP2 hq1 h
  go_upto_if 16 with fail
  go_cut [3, 5, 6, 7] (fun v _ _ _ wx => Dr b0 B s len (p + 7) w v wx)
  case first =>
    by_cases hk : 1 < kd
    · rw [show decide (1 < kd) = true from decide_eq_true hk]
      go_wp2_with fail
      go_loopw [3, 5] (fun v i wr => ∃ j : Nat, j ≤ 3 ∧ i = .int .i64 j ∧ DrS (3 ^ j) b0 B s len (p + 1 + 2 * j) w v wr) (fun _ i _ => 3 - (intOf i).toNat)
      case atStart => exact ⟨0, by omega, rfl, hD2⟩
      case round =>
        obtain ⟨j, hj, rfl, hD⟩ := hrel
        by_cases hlt : j < 3
        · obtain ⟨zs, p', hO, hsy, hSm, hR, hp', hQ⟩ := hD
          obtain ⟨so, co, rfl, hC, hc1, hc2⟩ := hO.all
          obtain ⟨l1, l2, _⟩ := sysB_facts hsy
          obtain ⟨n, hn⟩ : ∃ n, zs.length = n := ⟨_, rfl⟩
          rw [hn] at hO hC hc1 l1 l2 ⊢
          obtain ⟨T, hT1, hT2, hT3, hT4⟩ : ∃ T : Int, (3 : Int) ^ j = T ∧ (3 : Int) ^ (j + 1) = T * 3 ∧ 0 ≤ T ∧ T ≤ 300 := by
            refine ⟨3 ^ j, rfl, Int.pow_succ .., ?_⟩
            have : j = 0 ∨ j = 1 ∨ j = 2 := by omega
            rcases this with rfl | rfl | rfl <;> decide
          rw [hT1] at hSm
          go_wp2_with fail
          refine (c_pickR (n : Int) (by omega) (by omega) hR (by omega)).mono ?_
          rintro e w3 ⟨a, a1, a2, rfl, hR3, hQ3⟩
          go_wp2_with fail
          refine (c_pickR 3 (by omega) (by omega) hR3 (by omega)).mono ?_
          rintro e w4 ⟨b, b1, b2, rfl, hR4, hQ4⟩
          obtain ⟨an, rfl⟩ := Int.eq_ofNat_of_zero_le a1
          have hQ4' := hQ.trans (hQ3.trans hQ4)
          have hO4 := (hO.oth hQ3 hB).oth hQ4 hB
          have hsp := c_ExactSplit so n co zs an (2 + b / 2) T (by omega) hc1 hc2 (by omega) (by omega) (by omega) hsy hT4 hSm w4 ((spreadC hO4).at_len hn)
          have hB4 := hR4.lt
          go_wp2_with fail
          refine hsp.mono ?_
          rintro e w5 ⟨v5, ys, ok, rfl, hO5, hb5, hok⟩
          have hR5 := hR4.below hb5
          have hQ5 := hQ4'.trans (Oth.of_below hb5)
          have hO45 := hO4.keep hb5
          have HT := Lib.hid hT2
          clear hsp hQ hQ3 hQ4 hR hR3 hR4 hO hT1 hT2
          cases ok
          · clear hok
            go_wp2_with fail
            go_roundw
            case rel =>
              have hS5 : Small (3 ^ (j + 1)) zs := fun c hc => by have := hSm c hc; rw [HT.out]; omega
              exact ⟨j + 1, by omega, by go_num, zs, _, hO45, hsy, hS5, hR5, by omega, hQ5⟩
            case measure => simp [intOf]; omega
          · obtain ⟨hy1, hy2⟩ := hok rfl
            have hO5' := hO5.low hQ4'.size
            go_wp2_with fail
            go_roundw
            case rel =>
              have hS5 : Small (3 ^ (j + 1)) ys := by rw [HT.out]; exact hy2
              exact ⟨j + 1, by omega, by go_num, ys, _, hO5', hy1, hS5, hR5, by omega, hQ5⟩
            case measure => simp [intOf]; omega
        · have hj3 : j = 3 := by omega
          subst hj3
          have hD' := (DrS.dr hD).more (show p + 1 + 2 * 3 ≤ p + 7 by omega)
          clear hD
          go_wp2_with fail
          go_meet
          case rel => exact hD'
    · have hD' := (DrS.dr hD2).more (show p + 1 ≤ p + 7 by omega)
      go_wp2_with fail
      go_meet
      case rel => exact hD'
  case rest =>
    clear hD2
    go_upto_block 2 with fail
    go_cut [3, 8, 9, 10] (fun v _ _ _ wx => Dr b0 B s len (p + 18) w v wx)
    case first =>
      have hk : kd = 0 ∨ kd = 1 ∨ kd = 2 ∨ kd = 3 := by omega
      rcases hk with rfl | rfl | rfl | rfl
      · obtain ⟨zs, p', hO, l1, l2, hR, hp', hQ⟩ := hcut
        have hD : Dr b0 B s len (p + 18) w (.slice (some ⟨wc.heap.size, 0, none⟩) 5 5) (wc.alloc (.cells #[.int .i64 0, .int .i64 2, .int .i64 0, .int .i64 3, .int .i64 1, .int .i64 4, .int .i64 5, .int .i64 6, .int .i64 7, .int .i64 12] 41)) :=
          ⟨[(0, 2), (0, 3), (1, 4), (5, 6), (7, 12)], p', World.ownsRow_lit wc #[.int .i64 0, .int .i64 2, .int .i64 0, .int .i64 3, .int .i64 1, .int .i64 4, .int .i64 5, .int .i64 6, .int .i64 7, .int .i64 12] 5 hQ.size (by unfold maxLen; omega) rfl, by simp, by simp, hR.alloc _, by omega, hQ.alloc _⟩
        clear hO hR hQ
        go_wp2_with fail
        go_meet
        case rel => exact hD
      · obtain ⟨zs, p', hO, l1, l2, hR, hp', hQ⟩ := hcut
        have hO1 : OwnC (wc.alloc (.cells #[] 41)) w.heap.size 41 (.slice (some ⟨wc.heap.size, 0, none⟩) 0 0) [] := World.ownsRow_lit wc #[] 0 hQ.size (by unfold maxLen; omega) rfl
        have hQ1 := hQ.alloc (.cells #[] 41)
        have hR1 := hR.alloc (.cells #[] 41)
        clear hO hR hQ
        go_wp2_with fail
        refine (c_pickR 5 (by omega) (by omega) hR1 (by omega)).mono ?_
        rintro e w3 ⟨m, m1, m2, rfl, hR3, hQ3⟩
        have hO3 := hO1.oth hQ3 hB
        have hQ4 := hQ1.trans hQ3
        obtain ⟨mn, rfl⟩ := Int.eq_ofNat_of_zero_le m1
        clear hO1 hQ1 hQ3 hR1
        go_wp2_with fail
        go_loopw [3, 9] (fun v i wr => ∃ k : Nat, k ≤ mn + 1 ∧ i = .int .i64 k ∧ ∃ ys q, OwnC wr w.heap.size 41 v ys ∧ ys.length = k ∧ Rd b0 wr B s len q ∧ q ≤ p + 8 + 2 * k ∧ Oth B w wr) (fun _ i _ => mn + 1 - (intOf i).toNat)
        case atStart => exact ⟨0, by omega, rfl, [], _, hO3, rfl, hR3, by omega, hQ4⟩
        case round =>
          obtain ⟨k, hk, rfl, ys, q, hO, hyl, hR, hq, hQ⟩ := hrel
          by_cases hlt : k < mn + 1
          · have hlz : (k : Int) < 1 + (mn : Int) := by omega
            clear hO3 hR3 hQ4
            go_wp2_with fail
            refine (c_pickR 6 (by omega) (by omega) (hR.alloc _) (by omega)).mono ?_
            rintro e w4 ⟨x, x1, x2, rfl, hR4, hQ4⟩
            have hBr := hR.lt
            obtain ⟨M, M1, M2, hcx⟩ : ∃ M : Int, 1 ≤ M ∧ M ≤ 12 ∧ w4.cell? ⟨wr.heap.size, x.toNat, none⟩ = some (.int .i64 M) := by
              have hx : x = 0 ∨ x = 1 ∨ x = 2 ∨ x = 3 ∨ x = 4 ∨ x = 5 := by omega
              rcases hx with rfl | rfl | rfl | rfl | rfl | rfl
              · exact ⟨2, by omega, by omega, oc hQ4 hBr 0⟩
              · exact ⟨3, by omega, by omega, oc hQ4 hBr 1⟩
              · exact ⟨4, by omega, by omega, oc hQ4 hBr 2⟩
              · exact ⟨6, by omega, by omega, oc hQ4 hBr 3⟩
              · exact ⟨8, by omega, by omega, oc hQ4 hBr 4⟩
              · exact ⟨12, by omega, by omega, oc hQ4 hBr 5⟩
            have hO4 := (hO.keep (ba (Below.refl _ _) (.cells #[.int .i64 2, .int .i64 3, .int .i64 4, .int .i64 6, .int .i64 8, .int .i64 12] 3))).oth hQ4 hB
            have hQ4' := (hQ.alloc (.cells #[.int .i64 2, .int .i64 3, .int .i64 4, .int .i64 6, .int .i64 8, .int .i64 12] 3)).trans hQ4
            clear hO hR hQ hQ4 hBr
            go_wp2_with fail
            refine (c_pickR M (by omega) (by omega) hR4 (by omega)).mono ?_
            rintro e w5 ⟨r, r1, r2, rfl, hR5, hQ5⟩
            have hO5 : w5.ownsRow w.heap.size 41 2 u3 k (cells2 ys) := by
              have := hO4.oth hQ5 hB
              unfold OwnC at this
              rwa [hyl] at this
            have hQ5' := hQ4'.trans hQ5
            have hs5 := hQ5'.size
            clear hO4 hQ5 hR4 hQ4'
            go_wp2_with (at_builtin; refine wpList_append_own _ rfl _ _ 26 rfl w.heap.size 41 i0 (.agg #[.int .i64 0, .int .i64 0]) 2 16 Tryz.underlying26 hi0 hz0 hz1 hz2 rfl (by decide) u3 k _ rfl (hO5.alloc _) ⟨w5.heap.size, 0, none⟩ 1 1 [.int .i64 r, .int .i64 M] rfl rfl (two_new w5 _ _ _) (by simp [Value.oneCell']) (by unfold maxLen; omega) (by omega) (by simp; omega) ?_; intro v7 w7 hown7 hgrow7 _)
            have hR7 := (hR5.alloc (.cells #[.int .i64 r, .int .i64 M] 41)).grown hgrow7 (fun j e => by have := (hO5.lt j e).1; omega)
            have hQ7 := (hQ5'.alloc (.cells #[.int .i64 r, .int .i64 M] 41)).grown hgrow7 (fun j e => (hO5.lt j e).1)
            have hO7 : OwnC w7 w.heap.size 41 v7 (ys ++ [(r, M)]) := by
              unfold OwnC
              rw [cells2_append, List.length_append, hyl]
              exact hown7
            have hy7 : (ys ++ [(r, M)]).length = k + 1 := by rw [List.length_append, hyl]; rfl
            clear hown7 hgrow7 hO5 hR5 hQ5'
            go_roundw
            case rel => exact ⟨k + 1, by omega, by go_num, _, _, hO7, hy7, hR7, by omega, hQ7⟩
            case measure => simp [intOf]; omega
          · have hD : Dr b0 B s len (p + 18) w u3 wr := ⟨ys, q, hO, by omega, by omega, hR, by omega, hQ⟩
            have hlz : ¬ (k : Int) < 1 + (mn : Int) := by omega
            clear hO hR hQ hO3 hR3 hQ4
            go_wp2_with fail
            go_meet
            case rel => exact hD
      · obtain ⟨zs, p', hO, l1, l2, hR, hp', hQ⟩ := hcut
        obtain ⟨so, co, rfl, hC, hc1, hc2⟩ := hO.all
        obtain ⟨n, hn⟩ : ∃ n, zs.length = n := ⟨_, rfl⟩
        rw [hn] at hO hC hc1 l1 l2 ⊢
        have hD : Dr b0 B s len (p + 18) w (.slice so n co) wc := ⟨zs, p', hO, by omega, by omega, hR, by omega, hQ⟩
        by_cases h1 : 1 < n
        · have h1z : (1 : Int) < (n : Int) := by omega
          go_wp2_with fail
          refine (c_pickR 2 (by omega) (by omega) hR (by omega)).mono ?_
          rintro e w3 ⟨x, x1, x2, rfl, hR3, hQ3⟩
          have hO3 := hO.oth hQ3 hB
          have hQ3' := hQ.trans hQ3
          clear hO hR hQ hQ3 hC hD
          have hx : x = 0 ∨ x = 1 := by omega
          rcases hx with rfl | rfl
          · go_wp2_with fail
            refine (c_pickR (n : Int) (by omega) (by omega) hR3 (by omega)).mono ?_
            rintro e w4 ⟨y, y1, y2, rfl, hR4, hQ4⟩
            obtain ⟨yn, rfl⟩ := Int.eq_ofNat_of_zero_le y1
            have hO4 := hO3.oth hQ4 hB
            have hQ4' := hQ3'.trans hQ4
            have hwo := c_l3Without so n co zs yn (by omega) hc1 hc2 (by omega) w4 ((spreadC hO4).at_len hn)
            clear hO3 hQ3' hR3 hQ4
            go_wp2_with fail
            refine hwo.mono ?_
            rintro e w5 ⟨v5, rfl, hO5, hb5⟩
            have hD5 : Dr b0 B s len (p + 18) w v5 w5 := ⟨_, _, hO5.low hQ4'.size, by rw [eraseIdx_len (by omega)]; omega, by rw [eraseIdx_len (by omega)]; omega, hR4.below hb5, by omega, hQ4'.trans (Oth.of_below hb5)⟩
            clear hwo hO4 hQ4' hR4 hO5 hb5
            go_wp2_with fail
            go_meet
            case rel => exact hD5
          · have hD3 : Dr b0 B s len (p + 18) w (.slice so n co) w3 := ⟨zs, _, hO3, by omega, by omega, hR3, by omega, hQ3'⟩
            clear hO3 hR3 hQ3'
            go_wp2_with fail
            go_meet
            case rel => exact hD3
        · have hn1 : n = 1 := by omega
          subst hn1
          clear hO hC hR hQ
          go_wp2_with fail
          go_meet
          case rel => exact hD
      · have hD := hcut.more (show p + 7 ≤ p + 18 by omega)
        go_wp2_with fail
        go_meet
        case rel => exact hD
    case rest =>
      obtain ⟨zs, p', hO, l1, l2, hR, hp', hQ⟩ := hcut
      obtain ⟨so, co, rfl, hC, hc1, hc2⟩ := hO.all
      obtain ⟨n, hn⟩ : ∃ n, zs.length = n := ⟨_, rfl⟩
      rw [hn] at hO hC hc1 l1 l2 ⊢
      clear hC
      go_wp2_with fail
      refine (c_pickR 3 (by omega) (by omega) hR (by omega)).mono ?_
      rintro e w3 ⟨x, x1, x2, rfl, hR3, hQ3⟩
      have hO3 := hO.oth hQ3 hB
      have hQ3' := hQ.trans hQ3
      clear hO hR hQ hQ3
      by_cases hx : x = 0
      · subst hx
        by_cases h1 : 1 < n
        · have h1z : (1 : Int) < (n : Int) := by omega
          go_wp2_with fail
          refine (c_pickR (n : Int) (by omega) (by omega) hR3 (by omega)).mono ?_
          rintro e w4 ⟨y, y1, y2, rfl, hR4, hQ4⟩
          obtain ⟨yn, rfl⟩ := Int.eq_ofNat_of_zero_le y1
          have hO4 := hO3.oth hQ4 hB
          have hQ4' := hQ3'.trans hQ4
          have hwo := c_l3Without so n co zs yn (by omega) hc1 hc2 (by omega) w4 ((spreadC hO4).at_len hn)
          clear hO3 hQ3' hR3 hQ4
          go_wp2_with fail
          refine hwo.mono ?_
          rintro e w5 ⟨v5, rfl, hO5w, hb5⟩
          have hO5 := hO5w.low hQ4'.size
          have hR5e := hR4.below hb5
          have hQ5e := hQ4'.trans (Oth.of_below hb5)
          have hel := eraseIdx_len (show yn < zs.length by omega)
          generalize zs.eraseIdx yn = ys at *
          obtain ⟨so2, co2, rfl, hC2, hc12, hc22⟩ := hO5.all
          obtain ⟨n2, hn2⟩ : ∃ n, ys.length = n := ⟨_, rfl⟩
          rw [hn2] at hO5 hC2 hc12 hel ⊢
          have hn28 : 1 ≤ n2 ∧ n2 ≤ 8 := by omega
          clear hwo hO4 hQ4' hR4 hO5w hb5 hC2 hel
          go_wp2_with fail
          refine (c_pickR 40 (by omega) (by omega) hR5e (by omega)).mono ?_
          rintro e wy ⟨y, y1, y2, rfl, hRy, hQy⟩
          have hOy := hO5.oth hQy hB
          have hQy' := hQ5e.trans hQy
          clear hO5 hR5e hQ5e hQy
          cases hy : (y == 0)
          · go_wp2_with fail
            go_ret
            exact ⟨_, ys, _, rfl, hOy, by omega, hRy, by omega, hQy'⟩
          · have hCy := (spreadC hOy).at_len hn2
            have hbe := hCy.lies
            obtain ⟨b, off, hso⟩ : ∃ b off, so2 = some ⟨b, off, none⟩ := by
              rcases hbe with h0 | ⟨b, off, h, _⟩
              · omega
              · exact ⟨b, off, h⟩
            subst hso
            have HO := Lib.hid (cells2_oc ys)
            have HN := Lib.hid (show (cells2 ys).length = n2 * 2 by rw [cells2_length, hn2])
            have HL := Lib.hid hn2
            have hCz := hCy.keep (ba (Below.refl _ _) (.cells #[] 41))
            have HC := Lib.hid (cls_at hCz (by omega))
            have hOz : (wy.alloc (.cells #[] 41)).ownsRow w.heap.size 41 2 (.slice (some ⟨wy.heap.size, 0, none⟩) 0 0) 0 [] := World.ownsRow_lit wy #[] 0 hQy'.size (by unfold maxLen; omega) rfl
            have hsz := hQy'.size
            have hsz1 : w.heap.size ≤ (wy.alloc (.cells #[] 41)).heap.size := by simp; omega
            clear hbe hCz hCy hOy
            go_wp2_with (first
              | (at_builtin; refine wpList_append_own _ rfl _ _ 26 rfl w.heap.size 41 i0 (.agg #[.int .i64 0, .int .i64 0]) 2 16 Tryz.underlying26 hi0 hz0 hz1 hz2 rfl (by decide) (.slice (some ⟨wy.heap.size, 0, none⟩) 0 0) 0 [] rfl hOz ⟨b, off, none⟩ n2 co2 (cells2 ys) rfl HN.out HC.out HO.out (by unfold maxLen; omega) (by omega) hsz1 ?_; intro v5 w5 hown5 hgrow5 _; have hB5 : Below wy.heap.size wy w5 := Below.grown (ba (Below.refl _ _) _) hgrow5 (by simp) (fun g e => by cases e; exact Nat.le_refl _); have hR5 := (hRy.below hB5).alloc (.cells #[.int .i64 3, .int .i64 3] 41); have hQ5 := (hQy'.trans (Oth.of_below hB5)).alloc (.cells #[.int .i64 3, .int .i64 3] 41))
              | (at_builtin; refine wpList_append_own _ rfl _ _ 26 rfl w.heap.size 41 i0 (.agg #[.int .i64 0, .int .i64 0]) 2 16 Tryz.underlying26 hi0 hz0 hz1 hz2 rfl (by decide) v5 (0 + n2) ([] ++ cells2 ys) rfl (hown5.alloc _) ⟨w5.heap.size, 0, none⟩ 1 1 [.int .i64 3, .int .i64 3] rfl rfl (two_new w5 _ _ _) (by simp [Value.oneCell']) (by unfold maxLen; omega) (by omega) hQ5.size ?_; intro v7 w7 hown7 hgrow7 _)
              | fail)
            have hR7 := hR5.grown hgrow7 (fun j e => by have := (hown5.lt j e).1; omega)
            have hQ7 := hQ5.grown hgrow7 (fun j e => (hown5.lt j e).1)
            have hO7 : OwnC w7 w.heap.size 41 v7 (ys ++ [(3, 3)]) := by
              unfold OwnC
              rw [cells2_append, cells2_one, List.length_append, HL.out]
              simpa using hown7
            have hy7 : (ys ++ [(3, 3)]).length ≤ 9 := by rw [List.length_append, HL.out, List.length_singleton]; omega
            clear hown7 hgrow7 hown5 hgrow5
            go_ret
            exact ⟨_, _, _, rfl, hO7, hy7, hR7, by omega, hQ7⟩
        · have hn1 : n = 1 := by omega
          subst hn1
          go_wp2_with fail
          refine (c_pickR 40 (by omega) (by omega) hR3 (by omega)).mono ?_
          rintro e wy ⟨y, y1, y2, rfl, hRy, hQy⟩
          have hOy := hO3.oth hQy hB
          have hQy' := hQ3'.trans hQy
          clear hO3 hR3 hQ3' hQy
          cases hy : (y == 0)
          · go_wp2_with fail
            go_ret
            exact ⟨_, zs, _, rfl, hOy, by omega, hRy, by omega, hQy'⟩
          · have hCy := (spreadC hOy).at_len hn
            have hbe := hCy.lies
            obtain ⟨b, off, hso⟩ : ∃ b off, so = some ⟨b, off, none⟩ := by
              rcases hbe with h0 | ⟨b, off, h, _⟩
              · omega
              · exact ⟨b, off, h⟩
            subst hso
            have HO := Lib.hid (cells2_oc zs)
            have HN := Lib.hid (show (cells2 zs).length = 1 * 2 by rw [cells2_length, hn])
            have HL := Lib.hid hn
            have hCz := hCy.keep (ba (Below.refl _ _) (.cells #[] 41))
            have HC := Lib.hid (cls_at hCz (by omega))
            have hOz : (wy.alloc (.cells #[] 41)).ownsRow w.heap.size 41 2 (.slice (some ⟨wy.heap.size, 0, none⟩) 0 0) 0 [] := World.ownsRow_lit wy #[] 0 hQy'.size (by unfold maxLen; omega) rfl
            have hsz := hQy'.size
            have hsz1 : w.heap.size ≤ (wy.alloc (.cells #[] 41)).heap.size := by simp; omega
            clear hbe hCz hCy hOy
            go_wp2_with (first
              | (at_builtin; refine wpList_append_own _ rfl _ _ 26 rfl w.heap.size 41 i0 (.agg #[.int .i64 0, .int .i64 0]) 2 16 Tryz.underlying26 hi0 hz0 hz1 hz2 rfl (by decide) (.slice (some ⟨wy.heap.size, 0, none⟩) 0 0) 0 [] rfl hOz ⟨b, off, none⟩ 1 co (cells2 zs) rfl HN.out HC.out HO.out (by unfold maxLen; omega) (by omega) hsz1 ?_; intro v5 w5 hown5 hgrow5 _; have hB5 : Below wy.heap.size wy w5 := Below.grown (ba (Below.refl _ _) _) hgrow5 (by simp) (fun g e => by cases e; exact Nat.le_refl _); have hR5 := (hRy.below hB5).alloc (.cells #[.int .i64 3, .int .i64 3] 41); have hQ5 := (hQy'.trans (Oth.of_below hB5)).alloc (.cells #[.int .i64 3, .int .i64 3] 41))
              | (at_builtin; refine wpList_append_own _ rfl _ _ 26 rfl w.heap.size 41 i0 (.agg #[.int .i64 0, .int .i64 0]) 2 16 Tryz.underlying26 hi0 hz0 hz1 hz2 rfl (by decide) v5 (0 + 1) ([] ++ cells2 zs) rfl (hown5.alloc _) ⟨w5.heap.size, 0, none⟩ 1 1 [.int .i64 3, .int .i64 3] rfl rfl (two_new w5 _ _ _) (by simp [Value.oneCell']) (by unfold maxLen; omega) (by omega) hQ5.size ?_; intro v7 w7 hown7 hgrow7 _)
              | fail)
            have hR7 := hR5.grown hgrow7 (fun j e => by have := (hown5.lt j e).1; omega)
            have hQ7 := hQ5.grown hgrow7 (fun j e => (hown5.lt j e).1)
            have hO7 : OwnC w7 w.heap.size 41 v7 (zs ++ [(3, 3)]) := by
              unfold OwnC
              rw [cells2_append, cells2_one, List.length_append, HL.out]
              simpa using hown7
            have hy7 : (zs ++ [(3, 3)]).length ≤ 9 := by rw [List.length_append, HL.out, List.length_singleton]; omega
            clear hown7 hgrow7 hown5 hgrow5
            go_ret
            exact ⟨_, _, _, rfl, hO7, hy7, hR7, by omega, hQ7⟩
      · have hxb : (x == 0) = false := by simp [hx]
        go_wp2_with fail
        refine (c_pickR 40 (by omega) (by omega) hR3 (by omega)).mono ?_
        rintro e wy ⟨y, y1, y2, rfl, hRy, hQy⟩
        have hOy := hO3.oth hQy hB
        have hQy' := hQ3'.trans hQy
        clear hO3 hR3 hQ3' hQy
        cases hy : (y == 0)
        · go_wp2_with fail
          go_ret
          exact ⟨_, zs, _, rfl, hOy, by omega, hRy, by omega, hQy'⟩
        · have hCy := (spreadC hOy).at_len hn
          have hbe := hCy.lies
          obtain ⟨b, off, hso⟩ : ∃ b off, so = some ⟨b, off, none⟩ := by
            rcases hbe with h0 | ⟨b, off, h, _⟩
            · omega
            · exact ⟨b, off, h⟩
          subst hso
          have HO := Lib.hid (cells2_oc zs)
          have HN := Lib.hid (show (cells2 zs).length = n * 2 by rw [cells2_length, hn])
          have HL := Lib.hid hn
          have hCz := hCy.keep (ba (Below.refl _ _) (.cells #[] 41))
          have HC := Lib.hid (cls_at hCz (by omega))
          have hOz : (wy.alloc (.cells #[] 41)).ownsRow w.heap.size 41 2 (.slice (some ⟨wy.heap.size, 0, none⟩) 0 0) 0 [] := World.ownsRow_lit wy #[] 0 hQy'.size (by unfold maxLen; omega) rfl
          have hsz := hQy'.size
          have hsz1 : w.heap.size ≤ (wy.alloc (.cells #[] 41)).heap.size := by simp; omega
          clear hbe hCz hCy hOy
          go_wp2_with (first
            | (at_builtin; refine wpList_append_own _ rfl _ _ 26 rfl w.heap.size 41 i0 (.agg #[.int .i64 0, .int .i64 0]) 2 16 Tryz.underlying26 hi0 hz0 hz1 hz2 rfl (by decide) (.slice (some ⟨wy.heap.size, 0, none⟩) 0 0) 0 [] rfl hOz ⟨b, off, none⟩ n co (cells2 zs) rfl HN.out HC.out HO.out (by unfold maxLen; omega) (by omega) hsz1 ?_; intro v5 w5 hown5 hgrow5 _; have hB5 : Below wy.heap.size wy w5 := Below.grown (ba (Below.refl _ _) _) hgrow5 (by simp) (fun g e => by cases e; exact Nat.le_refl _); have hR5 := (hRy.below hB5).alloc (.cells #[.int .i64 3, .int .i64 3] 41); have hQ5 := (hQy'.trans (Oth.of_below hB5)).alloc (.cells #[.int .i64 3, .int .i64 3] 41))
            | (at_builtin; refine wpList_append_own _ rfl _ _ 26 rfl w.heap.size 41 i0 (.agg #[.int .i64 0, .int .i64 0]) 2 16 Tryz.underlying26 hi0 hz0 hz1 hz2 rfl (by decide) v5 (0 + n) ([] ++ cells2 zs) rfl (hown5.alloc _) ⟨w5.heap.size, 0, none⟩ 1 1 [.int .i64 3, .int .i64 3] rfl rfl (two_new w5 _ _ _) (by simp [Value.oneCell']) (by unfold maxLen; omega) (by omega) hQ5.size ?_; intro v7 w7 hown7 hgrow7 _)
            | fail)
          have hR7 := hR5.grown hgrow7 (fun j e => by have := (hown5.lt j e).1; omega)
          have hQ7 := hQ5.grown hgrow7 (fun j e => (hown5.lt j e).1)
          have hO7 : OwnC w7 w.heap.size 41 v7 (zs ++ [(3, 3)]) := by
            unfold OwnC
            rw [cells2_append, cells2_one, List.length_append, HL.out]
            simpa using hown7
          have hy7 : (zs ++ [(3, 3)]).length ≤ 9 := by rw [List.length_append, HL.out, List.length_singleton]; omega
          clear hown7 hgrow7 hown5 hgrow5
          go_ret
          exact ⟨_, _, _, rfl, hO7, hy7, hR7, by omega, hQ7⟩
end Go.Proofs.YtonecelkkeakiaaGreatDoor
