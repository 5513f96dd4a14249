/- Chapter 5, the program: the size of a base, and rests place by place. -/
import Derived.Test.YtnbejgbkabaleaaC1
import Derived.Test.YtnbejgbkabaleaaMathQ
import Derived.Test.YtnbejgbkabaleaaE1
import Derived.LoopTactic
namespace Go.Proofs.Ytnbejgbkabaleaa
open Go.RowKit
/-- a base as the program holds it -/
abbrev baseV (a b c d n : Int) : Value := .agg #[.int .i64 a, .int .i64 b, .int .i64 c, .int .i64 d, .int .i64 n]
/-- rests as the program holds them -/
abbrev restV (a b c d : Int) : Value := .agg #[.int .i64 a, .int .i64 b, .int .i64 c, .int .i64 d]
/-- an element of an array of four, by its index -/
theorem idx4 (a b c d : Int) :
    (∀ w : World, (Instr.index 48 (restV a b c d) (.int .i64 0)).run Try.prog w = .ok (.int .i64 a) w) ∧
    (∀ w : World, (Instr.index 48 (restV a b c d) (.int .i64 1)).run Try.prog w = .ok (.int .i64 b) w) ∧
    (∀ w : World, (Instr.index 48 (restV a b c d) (.int .i64 2)).run Try.prog w = .ok (.int .i64 c) w) ∧
    (∀ w : World, (Instr.index 48 (restV a b c d) (.int .i64 3)).run Try.prog w = .ok (.int .i64 d) w) :=
  ⟨fun _ => by kernel_rfl, fun _ => by kernel_rfl, fun _ => by kernel_rfl, fun _ => by kernel_rfl⟩
set_option maxRecDepth 20000 in
set_option maxHeartbeats 1000000 in
theorem c_size (a b c d n : Int) (ha : MB a) (hb : MB b) (hc : MB c) (hd : MB d) (w : World) : Calls Try.prog 49 #[baseV a b c d n] w fun e w' => e = .returned (.int .i64 (a * b * c * d)) ∧ Below w.heap.size w w' := by
  have HS := Lib.hid (size_bd ha hb hc hd)
  obtain ⟨i0, i1, i2, i3⟩ := idx4 a b c d
  have hB : Below w.heap.size w (w.alloc (.cells #[.int .i64 a, .int .i64 b, .int .i64 c, .int .i64 d, .int .i64 n] 50)) := (Below.refl _ _).alloc (Nat.le_refl _) _
  go_enter Try.func49, Try.ntmps49
  go_wp2_with fail
  go_loopw [3, 8] (fun q i wr => ∃ (k : Nat), k ≤ 4 ∧ i = .int .i64 k ∧ q = .int .i64 (pK a b c d k) ∧ Below w.heap.size w wr) (fun _ i _ => 4 - (intOf i).toNat)
  case atStart => exact ⟨0, by omega, rfl, rfl, hB⟩
  case round =>
    obtain ⟨k, hk, rfl, rfl, hB⟩ := hrel
    obtain ⟨⟨p1, p2⟩, ⟨p3, p4⟩, ⟨p5, p6⟩⟩ := HS.out
    obtain ⟨a1, a2⟩ := ha
    rcases (show k = 0 ∨ k = 1 ∨ k = 2 ∨ k = 3 ∨ k = 4 by omega) with rfl | rfl | rfl | rfl | rfl
    case inr.inr.inr.inr =>
      go_wp2_with fail
      go_ret
      exact ⟨rfl, hB⟩
    all_goals
      simp only [pK]
      go_wp2_with fail
      go_roundw
      case rel => first | exact ⟨1, by omega, rfl, rfl, hB⟩ | exact ⟨2, by omega, rfl, rfl, hB⟩ | exact ⟨3, by omega, rfl, rfl, hB⟩ | exact ⟨4, by omega, rfl, rfl, hB⟩
      case measure => simp [intOf]
/-- the first k taken from the left list, the rest from the right one -/
def mixL (k : Nat) (xs ys : List Value) : List Value := xs.take k ++ ys.drop k
theorem ret4 {w : World} {g : Nat} {x0 x1 x2 x3 y0 y1 y2 y3 : Value} (h : Arr w g [x0, x1, x2, x3]) :
    Arr ((((w.setCell ⟨g, 0, none⟩ y0).setCell ⟨g, 1, none⟩ y1).setCell ⟨g, 2, none⟩ y2).setCell ⟨g, 3, none⟩ y3) g [y0, y1, y2, y3] := by
  simpa using (((h.put 0 (by simp) y0).put 1 (by simp) y1).put 2 (by simp) y2).put 3 (by simp) y3
theorem bel4 {w v : World} {B g : Nat} (h : Below B w v) (hg : B ≤ g) (y0 y1 y2 y3 : Value) :
    Below B w ((((v.setCell ⟨g, 0, none⟩ y0).setCell ⟨g, 1, none⟩ y1).setCell ⟨g, 2, none⟩ y2).setCell ⟨g, 3, none⟩ y3) :=
  (((h.setCell hg _).setCell hg _).setCell hg _).setCell hg _
theorem Arr.get4 {w : World} {g : Nat} {x0 x1 x2 x3 : Value} (h : Arr w g [x0, x1, x2, x3]) :
    w.cell? ⟨g, 0, none⟩ = some x0 ∧ w.cell? ⟨g, 1, none⟩ = some x1 ∧ w.cell? ⟨g, 2, none⟩ = some x2 ∧ w.cell? ⟨g, 3, none⟩ = some x3 :=
  ⟨h.c 0 (by simp), h.c 1 (by simp), h.c 2 (by simp), h.c 3 (by simp)⟩
theorem Arr.get5 {w : World} {g : Nat} {x0 x1 x2 x3 x4 : Value} (h : Arr w g [x0, x1, x2, x3, x4]) :
    w.cell? ⟨g, 0, none⟩ = some x0 ∧ w.cell? ⟨g, 1, none⟩ = some x1 ∧ w.cell? ⟨g, 2, none⟩ = some x2 ∧ w.cell? ⟨g, 3, none⟩ = some x3 ∧ w.cell? ⟨g, 4, none⟩ = some x4 :=
  ⟨h.c 0 (by simp), h.c 1 (by simp), h.c 2 (by simp), h.c 3 (by simp), h.c 4 (by simp)⟩
set_option maxRecDepth 20000 in
set_option maxHeartbeats 2000000 in
theorem c_by (p q r s a b c d n : Int) (ha : MB a) (hb : MB b) (hc : MB c) (hd : MB d) (w : World) : Calls Try.prog 65 #[restV p q r s, baseV a b c d n] w fun e w' => e = .returned (restV (p % a) (q % b) (r % c) (s % d)) ∧ Below w.heap.size w w' := by
  obtain ⟨i0, i1, i2, i3⟩ := idx4 a b c d
  have hN0 := (Arr.newAt w #[.int .i64 p, .int .i64 q, .int .i64 r, .int .i64 s] 56 _ rfl).alloc (.cells #[.int .i64 a, .int .i64 b, .int .i64 c, .int .i64 d, .int .i64 n] 50)
  have hN0 := hN0.alloc (.cells #[.int .i64 0, .int .i64 0, .int .i64 0, .int .i64 0] 56)
  have hN2 : Arr _ (w.heap.size + 1 + 1) _ := Arr.newAt ((w.alloc (.cells #[.int .i64 p, .int .i64 q, .int .i64 r, .int .i64 s] 56)).alloc (.cells #[.int .i64 a, .int .i64 b, .int .i64 c, .int .i64 d, .int .i64 n] 50)) #[.int .i64 0, .int .i64 0, .int .i64 0, .int .i64 0] 56 _ (by simp)
  have hB : Below w.heap.size w _ := ba (ba (ba (Below.refl _ _) (.cells #[.int .i64 p, .int .i64 q, .int .i64 r, .int .i64 s] 56)) (.cells #[.int .i64 a, .int .i64 b, .int .i64 c, .int .i64 d, .int .i64 n] 50)) (.cells #[.int .i64 0, .int .i64 0, .int .i64 0, .int .i64 0] 56)
  go_enter Try.func65, Try.ntmps65
  go_wp2_with fail
  go_loopw [9] (fun i wr => ∃ (k : Nat), k ≤ 4 ∧ i = .int .i64 k ∧ Arr wr w.heap.size (mixL k [.int .i64 (p % a), .int .i64 (q % b), .int .i64 (r % c), .int .i64 (s % d)] [.int .i64 p, .int .i64 q, .int .i64 r, .int .i64 s]) ∧ Arr wr (w.heap.size + 1 + 1) [.int .i64 0, .int .i64 0, .int .i64 0, .int .i64 0] ∧ Below w.heap.size w wr) (fun i _ => 4 - (intOf i).toNat)
  case atStart => exact ⟨0, by omega, rfl, hN0, hN2, hB⟩
  case round =>
    clear hN0 hN2 hB
    obtain ⟨k, hk, rfl, hN0, hN2, hB⟩ := hrel
    have fz := hN0.f
    rcases (show k = 0 ∨ k = 1 ∨ k = 2 ∨ k = 3 ∨ k = 4 by omega) with rfl | rfl | rfl | rfl | rfl
    case inl =>
      have x0 : wr.cell? ⟨w.heap.size, 0, none⟩ = some _ := hN0.c 0 (by simp [mixL])
      go_wp2_with (go_at_call 61; refine (c_restOf _ _ ha.1 (by have := ha.2; omega) _).mono ?_; rintro e w1 ⟨rfl, rfl⟩)
      go_roundw
      case rel => exact ⟨1, by omega, rfl, by simpa [mixL] using (hN0.put 0 (by simp [mixL]) _), hN2.miss (by omega) _ _, hB.setCell (Nat.le_refl _) _⟩
      case measure => simp [intOf]
    case inr.inl =>
      have x0 : wr.cell? ⟨w.heap.size, 1, none⟩ = some _ := hN0.c 1 (by simp [mixL])
      go_wp2_with (go_at_call 61; refine (c_restOf _ _ hb.1 (by have := hb.2; omega) _).mono ?_; rintro e w1 ⟨rfl, rfl⟩)
      go_roundw
      case rel => exact ⟨2, by omega, rfl, by simpa [mixL] using (hN0.put 1 (by simp [mixL]) _), hN2.miss (by omega) _ _, hB.setCell (Nat.le_refl _) _⟩
      case measure => simp [intOf]
    case inr.inr.inl =>
      have x0 : wr.cell? ⟨w.heap.size, 2, none⟩ = some _ := hN0.c 2 (by simp [mixL])
      go_wp2_with (go_at_call 61; refine (c_restOf _ _ hc.1 (by have := hc.2; omega) _).mono ?_; rintro e w1 ⟨rfl, rfl⟩)
      go_roundw
      case rel => exact ⟨3, by omega, rfl, by simpa [mixL] using (hN0.put 2 (by simp [mixL]) _), hN2.miss (by omega) _ _, hB.setCell (Nat.le_refl _) _⟩
      case measure => simp [intOf]
    case inr.inr.inr.inl =>
      have x0 : wr.cell? ⟨w.heap.size, 3, none⟩ = some _ := hN0.c 3 (by simp [mixL])
      go_wp2_with (go_at_call 61; refine (c_restOf _ _ hd.1 (by have := hd.2; omega) _).mono ?_; rintro e w1 ⟨rfl, rfl⟩)
      go_roundw
      case rel => exact ⟨4, by omega, rfl, by simpa [mixL] using (hN0.put 3 (by simp [mixL]) _), hN2.miss (by omega) _ _, hB.setCell (Nat.le_refl _) _⟩
      case measure => simp [intOf]
    case inr.inr.inr.inr =>
      obtain ⟨x0, x1, x2, x3⟩ := Arr.get4 hN0
      obtain ⟨y0, y1, y2, y3⟩ := Arr.get4 hN2
      have fy := hN2.f
      go_wp2_with fail
      obtain ⟨z0, z1, z2, z3⟩ := Arr.get4 (ret4 hN2 (y0 := .int .i64 (p % a)) (y1 := .int .i64 (q % b)) (y2 := .int .i64 (r % c)) (y3 := .int .i64 (s % d)))
      refine bodyPost_ret (v := restV (p % a) (q % b) (r % c) (s % d)) (by simp [results, Try.results65, go_sem, z0, z1, z2, z3]) rfl ⟨rfl, ?_⟩
      exact bel4 hB (by omega) _ _ _ _
/-- a rest -/
def R30 (x : Int) : Prop := 0 ≤ x ∧ x ≤ 1000
theorem wrap64_id {x : Int} (h1 : -9223372036854775808 ≤ x) (h2 : x ≤ 9223372036854775807) : IntKind.i64.wrap x = x := by
  exact IntWalk.i64_in _ (by omega)
set_option maxRecDepth 20000 in
set_option maxHeartbeats 2000000 in
theorem c_plus (p q r s t0 t1 t2 t3 : Int) (hp : R30 p) (hq : R30 q) (hr : R30 r) (hs : R30 s) (h0 : R30 t0) (h1 : R30 t1) (h2 : R30 t2) (h3 : R30 t3) (w : World) : Calls Try.prog 64 #[restV p q r s, restV t0 t1 t2 t3] w fun e w' => e = .returned (restV (p + t0) (q + t1) (r + t2) (s + t3)) ∧ Below w.heap.size w w' := by
  have hN0 := (Arr.newAt w #[.int .i64 p, .int .i64 q, .int .i64 r, .int .i64 s] 56 _ rfl).alloc (.cells #[.int .i64 t0, .int .i64 t1, .int .i64 t2, .int .i64 t3] 56)
  have hN0 := hN0.alloc (.cells #[.int .i64 0, .int .i64 0, .int .i64 0, .int .i64 0] 56)
  have hN1 := (Arr.newAt (w.alloc (.cells #[.int .i64 p, .int .i64 q, .int .i64 r, .int .i64 s] 56)) #[.int .i64 t0, .int .i64 t1, .int .i64 t2, .int .i64 t3] 56 (w.heap.size + 1) (by simp)).alloc (.cells #[.int .i64 0, .int .i64 0, .int .i64 0, .int .i64 0] 56)
  have hN2 : Arr _ (w.heap.size + 1 + 1) _ := Arr.newAt ((w.alloc (.cells #[.int .i64 p, .int .i64 q, .int .i64 r, .int .i64 s] 56)).alloc (.cells #[.int .i64 t0, .int .i64 t1, .int .i64 t2, .int .i64 t3] 56)) #[.int .i64 0, .int .i64 0, .int .i64 0, .int .i64 0] 56 _ (by simp)
  have hB : Below w.heap.size w _ := ba (ba (ba (Below.refl _ _) (.cells #[.int .i64 p, .int .i64 q, .int .i64 r, .int .i64 s] 56)) (.cells #[.int .i64 t0, .int .i64 t1, .int .i64 t2, .int .i64 t3] 56)) (.cells #[.int .i64 0, .int .i64 0, .int .i64 0, .int .i64 0] 56)
  go_enter Try.func64, Try.ntmps64
  go_wp2_with fail
  go_loopw [6] (fun i wr => ∃ (k : Nat), k ≤ 4 ∧ i = .int .i64 k ∧ Arr wr w.heap.size (mixL k [.int .i64 (p + t0), .int .i64 (q + t1), .int .i64 (r + t2), .int .i64 (s + t3)] [.int .i64 p, .int .i64 q, .int .i64 r, .int .i64 s]) ∧ Arr wr (w.heap.size + 1) [.int .i64 t0, .int .i64 t1, .int .i64 t2, .int .i64 t3] ∧ Arr wr (w.heap.size + 1 + 1) [.int .i64 0, .int .i64 0, .int .i64 0, .int .i64 0] ∧ Below w.heap.size w wr) (fun i _ => 4 - (intOf i).toNat)
  case atStart => exact ⟨0, by omega, rfl, hN0, hN1, hN2, hB⟩
  case round =>
    clear hN0 hN1 hN2 hB
    obtain ⟨k, hk, rfl, hN0, hN1, hN2, hB⟩ := hrel
    have fz := hN0.f
    rcases (show k = 0 ∨ k = 1 ∨ k = 2 ∨ k = 3 ∨ k = 4 by omega) with rfl | rfl | rfl | rfl | rfl
    case inl =>
      have x0 : wr.cell? ⟨w.heap.size, 0, none⟩ = some _ := hN0.c 0 (by simp [mixL])
      have x1 : wr.cell? ⟨w.heap.size + 1, 0, none⟩ = some _ := hN1.c 0 (by simp)
      obtain ⟨za, zb⟩ := hp
      obtain ⟨zc, zd⟩ := h0
      have hz2 : IntKind.i64.wrap (p + t0) = (p + t0) := wrap64_id (by omega) (by omega)
      have fz0 := fz 0
      go_wp2_with fail
      go_region
      go_wp2_with fail
      go_roundw
      case rel => exact ⟨1, by omega, rfl, by simpa [mixL] using (hN0.put 0 (by simp [mixL]) _).drew, hN1.drew.miss (by omega) _ _, hN2.drew.miss (by omega) _ _, hB.drew.setCell (Nat.le_refl _) _⟩
      case measure => simp [intOf]
    case inr.inl =>
      have x0 : wr.cell? ⟨w.heap.size, 1, none⟩ = some _ := hN0.c 1 (by simp [mixL])
      have x1 : wr.cell? ⟨w.heap.size + 1, 1, none⟩ = some _ := hN1.c 1 (by simp)
      obtain ⟨za, zb⟩ := hq
      obtain ⟨zc, zd⟩ := h1
      have hz2 : IntKind.i64.wrap (q + t1) = (q + t1) := wrap64_id (by omega) (by omega)
      have fz0 := fz 1
      go_wp2_with fail
      go_region
      go_wp2_with fail
      go_roundw
      case rel => exact ⟨2, by omega, rfl, by simpa [mixL] using (hN0.put 1 (by simp [mixL]) _).drew, hN1.drew.miss (by omega) _ _, hN2.drew.miss (by omega) _ _, hB.drew.setCell (Nat.le_refl _) _⟩
      case measure => simp [intOf]
    case inr.inr.inl =>
      have x0 : wr.cell? ⟨w.heap.size, 2, none⟩ = some _ := hN0.c 2 (by simp [mixL])
      have x1 : wr.cell? ⟨w.heap.size + 1, 2, none⟩ = some _ := hN1.c 2 (by simp)
      obtain ⟨za, zb⟩ := hr
      obtain ⟨zc, zd⟩ := h2
      have hz2 : IntKind.i64.wrap (r + t2) = (r + t2) := wrap64_id (by omega) (by omega)
      have fz0 := fz 2
      go_wp2_with fail
      go_region
      go_wp2_with fail
      go_roundw
      case rel => exact ⟨3, by omega, rfl, by simpa [mixL] using (hN0.put 2 (by simp [mixL]) _).drew, hN1.drew.miss (by omega) _ _, hN2.drew.miss (by omega) _ _, hB.drew.setCell (Nat.le_refl _) _⟩
      case measure => simp [intOf]
    case inr.inr.inr.inl =>
      have x0 : wr.cell? ⟨w.heap.size, 3, none⟩ = some _ := hN0.c 3 (by simp [mixL])
      have x1 : wr.cell? ⟨w.heap.size + 1, 3, none⟩ = some _ := hN1.c 3 (by simp)
      obtain ⟨za, zb⟩ := hs
      obtain ⟨zc, zd⟩ := h3
      have hz2 : IntKind.i64.wrap (s + t3) = (s + t3) := wrap64_id (by omega) (by omega)
      have fz0 := fz 3
      go_wp2_with fail
      go_region
      go_wp2_with fail
      go_roundw
      case rel => exact ⟨4, by omega, rfl, by simpa [mixL] using (hN0.put 3 (by simp [mixL]) _).drew, hN1.drew.miss (by omega) _ _, hN2.drew.miss (by omega) _ _, hB.drew.setCell (Nat.le_refl _) _⟩
      case measure => simp [intOf]
    case inr.inr.inr.inr =>
      obtain ⟨x0, x1, x2, x3⟩ := Arr.get4 hN0
      obtain ⟨y0, y1, y2, y3⟩ := Arr.get4 hN2
      have fy := hN2.f
      go_wp2_with fail
      obtain ⟨z0, z1, z2, z3⟩ := Arr.get4 (ret4 hN2 (y0 := .int .i64 (p + t0)) (y1 := .int .i64 (q + t1)) (y2 := .int .i64 (r + t2)) (y3 := .int .i64 (s + t3)))
      refine bodyPost_ret (v := restV (p + t0) (q + t1) (r + t2) (s + t3)) (by simp [results, Try.results64, go_sem, z0, z1, z2, z3]) rfl ⟨rfl, ?_⟩
      exact bel4 hB (by omega) _ _ _ _
set_option maxRecDepth 20000 in
set_option maxHeartbeats 2000000 in
theorem c_times (p q r s t0 t1 t2 t3 : Int) (hp : R30 p) (hq : R30 q) (hr : R30 r) (hs : R30 s) (h0 : R30 t0) (h1 : R30 t1) (h2 : R30 t2) (h3 : R30 t3) (w : World) : Calls Try.prog 66 #[restV p q r s, restV t0 t1 t2 t3] w fun e w' => e = .returned (restV (p * t0) (q * t1) (r * t2) (s * t3)) ∧ Below w.heap.size w w' := by
  have hN0 := (Arr.newAt w #[.int .i64 p, .int .i64 q, .int .i64 r, .int .i64 s] 56 _ rfl).alloc (.cells #[.int .i64 t0, .int .i64 t1, .int .i64 t2, .int .i64 t3] 56)
  have hN0 := hN0.alloc (.cells #[.int .i64 0, .int .i64 0, .int .i64 0, .int .i64 0] 56)
  have hN1 := (Arr.newAt (w.alloc (.cells #[.int .i64 p, .int .i64 q, .int .i64 r, .int .i64 s] 56)) #[.int .i64 t0, .int .i64 t1, .int .i64 t2, .int .i64 t3] 56 (w.heap.size + 1) (by simp)).alloc (.cells #[.int .i64 0, .int .i64 0, .int .i64 0, .int .i64 0] 56)
  have hN2 : Arr _ (w.heap.size + 1 + 1) _ := Arr.newAt ((w.alloc (.cells #[.int .i64 p, .int .i64 q, .int .i64 r, .int .i64 s] 56)).alloc (.cells #[.int .i64 t0, .int .i64 t1, .int .i64 t2, .int .i64 t3] 56)) #[.int .i64 0, .int .i64 0, .int .i64 0, .int .i64 0] 56 _ (by simp)
  have hB : Below w.heap.size w _ := ba (ba (ba (Below.refl _ _) (.cells #[.int .i64 p, .int .i64 q, .int .i64 r, .int .i64 s] 56)) (.cells #[.int .i64 t0, .int .i64 t1, .int .i64 t2, .int .i64 t3] 56)) (.cells #[.int .i64 0, .int .i64 0, .int .i64 0, .int .i64 0] 56)
  go_enter Try.func66, Try.ntmps66
  go_wp2_with fail
  go_loopw [6] (fun i wr => ∃ (k : Nat), k ≤ 4 ∧ i = .int .i64 k ∧ Arr wr w.heap.size (mixL k [.int .i64 (p * t0), .int .i64 (q * t1), .int .i64 (r * t2), .int .i64 (s * t3)] [.int .i64 p, .int .i64 q, .int .i64 r, .int .i64 s]) ∧ Arr wr (w.heap.size + 1) [.int .i64 t0, .int .i64 t1, .int .i64 t2, .int .i64 t3] ∧ Arr wr (w.heap.size + 1 + 1) [.int .i64 0, .int .i64 0, .int .i64 0, .int .i64 0] ∧ Below w.heap.size w wr) (fun i _ => 4 - (intOf i).toNat)
  case atStart => exact ⟨0, by omega, rfl, hN0, hN1, hN2, hB⟩
  case round =>
    clear hN0 hN1 hN2 hB
    obtain ⟨k, hk, rfl, hN0, hN1, hN2, hB⟩ := hrel
    have fz := hN0.f
    rcases (show k = 0 ∨ k = 1 ∨ k = 2 ∨ k = 3 ∨ k = 4 by omega) with rfl | rfl | rfl | rfl | rfl
    case inl =>
      have x0 : wr.cell? ⟨w.heap.size, 0, none⟩ = some _ := hN0.c 0 (by simp [mixL])
      have x1 : wr.cell? ⟨w.heap.size + 1, 0, none⟩ = some _ := hN1.c 0 (by simp)
      have hz := mulb hp.1 hp.2 h0.1 h0.2
      have hz2 : IntKind.i64.wrap (p * t0) = (p * t0) := wrap64_id (by omega) (by omega)
      have fz0 := fz 0
      go_wp2_with fail
      go_region
      go_wp2_with fail
      go_roundw
      case rel => exact ⟨1, by omega, rfl, by simpa [mixL] using (hN0.put 0 (by simp [mixL]) _).drew, hN1.drew.miss (by omega) _ _, hN2.drew.miss (by omega) _ _, hB.drew.setCell (Nat.le_refl _) _⟩
      case measure => simp [intOf]
    case inr.inl =>
      have x0 : wr.cell? ⟨w.heap.size, 1, none⟩ = some _ := hN0.c 1 (by simp [mixL])
      have x1 : wr.cell? ⟨w.heap.size + 1, 1, none⟩ = some _ := hN1.c 1 (by simp)
      have hz := mulb hq.1 hq.2 h1.1 h1.2
      have hz2 : IntKind.i64.wrap (q * t1) = (q * t1) := wrap64_id (by omega) (by omega)
      have fz0 := fz 1
      go_wp2_with fail
      go_region
      go_wp2_with fail
      go_roundw
      case rel => exact ⟨2, by omega, rfl, by simpa [mixL] using (hN0.put 1 (by simp [mixL]) _).drew, hN1.drew.miss (by omega) _ _, hN2.drew.miss (by omega) _ _, hB.drew.setCell (Nat.le_refl _) _⟩
      case measure => simp [intOf]
    case inr.inr.inl =>
      have x0 : wr.cell? ⟨w.heap.size, 2, none⟩ = some _ := hN0.c 2 (by simp [mixL])
      have x1 : wr.cell? ⟨w.heap.size + 1, 2, none⟩ = some _ := hN1.c 2 (by simp)
      have hz := mulb hr.1 hr.2 h2.1 h2.2
      have hz2 : IntKind.i64.wrap (r * t2) = (r * t2) := wrap64_id (by omega) (by omega)
      have fz0 := fz 2
      go_wp2_with fail
      go_region
      go_wp2_with fail
      go_roundw
      case rel => exact ⟨3, by omega, rfl, by simpa [mixL] using (hN0.put 2 (by simp [mixL]) _).drew, hN1.drew.miss (by omega) _ _, hN2.drew.miss (by omega) _ _, hB.drew.setCell (Nat.le_refl _) _⟩
      case measure => simp [intOf]
    case inr.inr.inr.inl =>
      have x0 : wr.cell? ⟨w.heap.size, 3, none⟩ = some _ := hN0.c 3 (by simp [mixL])
      have x1 : wr.cell? ⟨w.heap.size + 1, 3, none⟩ = some _ := hN1.c 3 (by simp)
      have hz := mulb hs.1 hs.2 h3.1 h3.2
      have hz2 : IntKind.i64.wrap (s * t3) = (s * t3) := wrap64_id (by omega) (by omega)
      have fz0 := fz 3
      go_wp2_with fail
      go_region
      go_wp2_with fail
      go_roundw
      case rel => exact ⟨4, by omega, rfl, by simpa [mixL] using (hN0.put 3 (by simp [mixL]) _).drew, hN1.drew.miss (by omega) _ _, hN2.drew.miss (by omega) _ _, hB.drew.setCell (Nat.le_refl _) _⟩
      case measure => simp [intOf]
    case inr.inr.inr.inr =>
      obtain ⟨x0, x1, x2, x3⟩ := Arr.get4 hN0
      obtain ⟨y0, y1, y2, y3⟩ := Arr.get4 hN2
      have fy := hN2.f
      go_wp2_with fail
      obtain ⟨z0, z1, z2, z3⟩ := Arr.get4 (ret4 hN2 (y0 := .int .i64 (p * t0)) (y1 := .int .i64 (q * t1)) (y2 := .int .i64 (r * t2)) (y3 := .int .i64 (s * t3)))
      refine bodyPost_ret (v := restV (p * t0) (q * t1) (r * t2) (s * t3)) (by simp [results, Try.results66, go_sem, z0, z1, z2, z3]) rfl ⟨rfl, ?_⟩
      exact bel4 hB (by omega) _ _ _ _
end Go.Proofs.Ytnbejgbkabaleaa
