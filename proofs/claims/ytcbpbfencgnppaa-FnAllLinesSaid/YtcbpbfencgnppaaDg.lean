/- Contracts of what the laws of chapter 6 draw: lines, pairs, powers. -/
import Derived.Test.YtcbpbfencgnppaaD5
namespace Go.Proofs.Ytcbpbfencgnppaa
open Go.RowKit
/-- a line is drawn -/
def DrLine (b0 B : Nat) (s : Option Addr) (len p : Nat) (w : World) (e : Ending) (w' : World) : Prop :=
  ∃ a b m : Int, -5 ≤ a ∧ a ≤ 2000024 ∧ -5 ≤ b ∧ b ≤ 24 ∧ 0 ≤ m ∧ m ≤ 20 ∧ e = .returned (.tuple #[.int .i64 a, .int .i64 b, .int .i64 m]) ∧ Rd b0 w' B s len (p + 5) ∧ Oth B w w'
theorem quo_lt {x n : Int} (h0 : 0 ≤ x) (h1 : x < 2 * n) (hn : 1 ≤ n) : x.tdiv n = x / n ∧ 0 ≤ x / n ∧ x / n ≤ 1 := by
  refine ⟨Int.tdiv_eq_ediv_of_nonneg h0, Int.ediv_nonneg h0 (by omega), ?_⟩
  have := Int.ediv_lt_of_lt_mul (show 0 < n by omega) h1
  omega
theorem c_l92Line {b0 : Nat} {w : World} {B : Nat} {s : Option Addr} {len p : Nat} (h : Rd b0 w B s len p) (hp : p + 5 < 1000000) :
    Calls Try.prog 21 #[.pointer (some ⟨B, 0, none⟩)] w (DrLine b0 B s len p w) := by
  go_enter Try.func21, Try.ntmps21
  go_wp2_with fail
  refine (c_pickR 30 (by omega) (by omega) h (by omega)).mono ?_
  rintro e w2 ⟨x, x1, x2, rfl, hR2, hO2⟩
  go_wp2_with fail
  refine (c_pickR 30 (by omega) (by omega) hR2 (by omega)).mono ?_
  rintro e w3 ⟨y, y1, y2, rfl, hR3, hO3⟩
  go_wp2_with fail
  refine (c_pickR 40 (by omega) (by omega) hR3 (by omega)).mono ?_
  rintro e w4 ⟨z, z1, z2, rfl, hR4, hO4⟩
  obtain ⟨q0, q1, q2⟩ := quo_lt (n := 39) z1 (by omega) (by omega)
  go_wp2_with fail
  refine (c_pickR 20 (by omega) (by omega) hR4 (by omega)).mono ?_
  rintro e w5 ⟨u, u1, u2, rfl, hR5, hO5⟩
  go_wp2_with fail
  refine (c_pickR 40 (by omega) (by omega) hR5 (by omega)).mono ?_
  rintro e w6 ⟨v, v1, v2, rfl, hR6, hO6⟩
  obtain ⟨t0, t1, t2⟩ := quo_lt (n := 39) v1 (by omega) (by omega)
  go_wp2_with fail
  refine bodyPost_ret (v := .tuple #[.int .i64 (x - 5 + z / 39 * 2000000), .int .i64 (y - 5), .int .i64 (1 + u - v / 39)]) (by simp [results, Try.results21, go_sem]) rfl
    ⟨_, _, _, by omega, by omega, by omega, by omega, by omega, by omega, rfl, hR6, hO2.trans (hO3.trans (hO4.trans (hO5.trans hO6)))⟩
def DrawnLn (w : World) (e : Ending) (w' : World) : Prop :=
  ∃ a b m : Int, -5 ≤ a ∧ a ≤ 2000024 ∧ -5 ≤ b ∧ b ≤ 24 ∧ 0 ≤ m ∧ m ≤ 20 ∧ e = .returned (.tuple #[.int .i64 a, .int .i64 b, .int .i64 m]) ∧ Below w.heap.size w w'
theorem c_DrawSolveLine (s : Option Addr) (len cap : Nat) (w : World) (h : Code0 w s len cap) : Calls Try.prog 7 #[.slice s len cap] w (DrawnLn w) := by
  go_enter Try.func7, Try.ntmps7
  go_wp2_with fail
  refine (c_l6Open s len cap _ h).mono ?_
  rintro e w2 ⟨B, s', len', hB, rfl, hR2, hb2⟩
  have HB := Lib.hid hB
  clear hB
  go_wp2_with fail
  refine (c_l92Line hR2 (by omega)).mono ?_
  rintro e w3 ⟨a, b, m, a1, a2, b1, b2, m1, m2, rfl, hR3, hO3⟩
  have hb3 := hb2.trans (oth_below hO3 hR2)
  go_wp2_with fail
  exact bodyPost_ret (v := .tuple #[.int .i64 a, .int .i64 b, .int .i64 m]) (by simp [results, Try.results7, go_sem]) rfl ⟨_, _, _, a1, a2, b1, b2, m1, m2, rfl, hb3⟩
def DrawnP (w : World) (e : Ending) (w' : World) : Prop :=
  ∃ a m : Int, -5 ≤ a ∧ a ≤ 2000024 ∧ 0 ≤ m ∧ m ≤ 20 ∧ e = .returned (.tuple #[.int .i64 a, .int .i64 m]) ∧ Below w.heap.size w w'
theorem c_l92Pair (s : Option Addr) (len cap : Nat) (w : World) (h : Code0 w s len cap) : Calls Try.prog 36 #[.slice s len cap] w (DrawnP w) := by
  go_enter Try.func36, Try.ntmps36
  go_wp2_with fail
  refine (c_l6Open s len cap _ h).mono ?_
  rintro e w2 ⟨B, s', len', hB, rfl, hR2, hb2⟩
  have HB := Lib.hid hB
  clear hB
  go_wp2_with fail
  refine (c_l92Line hR2 (by omega)).mono ?_
  rintro e w3 ⟨a, b, m, a1, a2, b1, b2, m1, m2, rfl, hR3, hO3⟩
  have hb3 := hb2.trans (oth_below hO3 hR2)
  go_wp2_with fail
  go_ret2
  exact ⟨_, _, a1, a2, m1, m2, rfl, hb3⟩
theorem c_DrawSolveSquares (s : Option Addr) (len cap : Nat) (w : World) (h : Code0 w s len cap) : Calls Try.prog 14 #[.slice s len cap] w (DrawnP w) := by
  go_enter Try.func14, Try.ntmps14
  go_wp2_with fail
  refine (c_l92Pair s len cap _ h).mono ?_
  rintro e w2 ⟨a, m, a1, a2, m1, m2, rfl, hb2⟩
  go_wp2_with fail
  go_ret2
  exact ⟨_, _, a1, a2, m1, m2, rfl, hb2⟩
def DrawnK (w : World) (e : Ending) (w' : World) : Prop :=
  ∃ a k m : Int, -5 ≤ a ∧ a ≤ 2000024 ∧ -1 ≤ k ∧ k ≤ 1000049 ∧ 0 ≤ m ∧ m ≤ 20 ∧ e = .returned (.tuple #[.int .i64 a, .int .i64 k, .int .i64 m]) ∧ Below w.heap.size w w'
theorem c_DrawSolvePower (s : Option Addr) (len cap : Nat) (w : World) (h : Code0 w s len cap) : Calls Try.prog 18 #[.slice s len cap] w (DrawnK w) := by
  go_enter Try.func18, Try.ntmps18
  go_wp2_with fail
  refine (c_l92Pair s len cap _ h).mono ?_
  rintro e w2 ⟨a, m, a1, a2, m1, m2, rfl, hb2⟩
  go_wp2_with fail
  refine (c_l6Open s len cap _ (h.below hb2)).mono ?_
  rintro e w3 ⟨B, s', len', hB, rfl, hR3, hb3⟩
  have HB := Lib.hid hB
  have hB2 : w2.heap.size ≤ B := hR3.le
  have c0 : w3.cell? ⟨B, 1, none⟩ = some (.int .i64 0) := hR3.c1
  have fz := hR3.fz
  have hb3' := hb2.trans (hb3.mono hb2.size)
  clear hB
  go_wp2_with fail
  have hR4 := hR3.setp 61 (by omega)
  have hb4 : Below w.heap.size w (w3.setCell ⟨B, 1, none⟩ (.int .i64 61)) := hb3'.setCell (by have := hb2.size; show w.heap.size ≤ B; omega) _
  refine (c_pickR 50 (by omega) (by omega) hR4 (by omega)).mono ?_
  rintro e w5 ⟨x, x1, x2, rfl, hR5, hO5⟩
  go_wp2_with fail
  refine (c_pickR 24 (by omega) (by omega) hR5 (by omega)).mono ?_
  rintro e w6 ⟨y, y1, y2, rfl, hR6, hO6⟩
  obtain ⟨q0, q1, q2⟩ := quo_lt (n := 23) y1 (by omega) (by omega)
  go_wp2_with fail
  refine (c_pickR 24 (by omega) (by omega) hR6 (by omega)).mono ?_
  rintro e w7 ⟨z, z1, z2, rfl, hR7, hO7⟩
  obtain ⟨t0, t1, t2⟩ := quo_lt (n := 23) z1 (by omega) (by omega)
  have hO := hO5.trans (hO6.trans hO7)
  go_wp2_with fail
  refine bodyPost_ret (v := .tuple #[.int .i64 a, .int .i64 (x - y / 23 + z / 23 * 1000000), .int .i64 m]) (by simp [results, Try.results18, go_sem]) rfl ⟨_, _, _, a1, a2, by omega, by omega, m1, m2, rfl, ?_⟩
  exact hb4.trans (hO.below (by have := hb2.size; omega) hb4.size)
end Go.Proofs.Ytcbpbfencgnppaa
