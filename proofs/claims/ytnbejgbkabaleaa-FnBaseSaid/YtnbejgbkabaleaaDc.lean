/- Contracts of the draws of chapter 5. -/
import Derived.Test.YtnbejgbkabaleaaDb
namespace Go.Proofs.Ytnbejgbkabaleaa
open Go.RowKit
theorem ne_of {so : Option Addr} {X B top : Nat} (h : so = none ∨ ∃ g, so = some ⟨g, 0, none⟩ ∧ X ≤ g ∧ g < top) (hB : B < X) : ∀ b off, so = some ⟨b, off, none⟩ → b ≠ B := by
  intro b off e
  rcases h with h | ⟨g, h, h1, _⟩
  · rw [h] at e; cases e
  · rw [h] at e; cases e; omega
theorem c_l92One (s : Option Addr) (len cap : Nat) (w : World) (h : Code0 w s len cap) : Calls Try.prog 57 #[.slice s len cap] w (DrOne w) := by
  go_enter Try.func57, Try.ntmps57
  go_wp2_with fail
  refine (c_l6Open s len cap _ h).mono ?_
  rintro e w2 ⟨B, s', len', hB, rfl, hR2, hb2⟩
  have hBl := hR2.lt
  go_wp2_with fail
  refine (c_l92Base hR2 (by omega)).mono ?_
  rintro e w3 ⟨v, zs, p', rfl, hO, hk, hR3, hp3, hQ3⟩
  obtain ⟨so, co, rfl, hI, hso⟩ := hO.spread
  go_wp2_with fail
  refine (c_l92Rests hR3 (by omega) so zs.length co zs hI hk (ne_of hso hBl)).mono ?_
  rintro e w4 ⟨v2, ys, p4, rfl, hO4, hy4, hR4, hp4, hQ4⟩
  have hb4 := (hb2.trans (oth_below hQ3 hR2)).trans (oth_below hQ4 hR3)
  have hO5 := hO.oth hQ4 hBl
  have hs2 := hb2.size
  have hs3 := hQ3.size
  go_wp2_with fail
  go_ret2
  exact ⟨_, _, zs, ys, rfl, hO5.low hs2, hO4.low (by omega), hk.2.1, hy4, hb4⟩
/-- a base and rests twice are drawn -/
def DrTwo (w : World) (e : Ending) (w' : World) : Prop := ∃ v1 v2 v3 zs ys xs, e = .returned (.tuple #[v1, v2, v3]) ∧ OwnI w' w.heap.size 3 v1 zs ∧ OwnI w' w.heap.size 3 v2 ys ∧ OwnI w' w.heap.size 3 v3 xs ∧ zs.length ≤ 4 ∧ ys.length ≤ 4 ∧ xs.length ≤ 4 ∧ Below w.heap.size w w'
theorem c_l92Two (s : Option Addr) (len cap : Nat) (w : World) (h : Code0 w s len cap) : Calls Try.prog 62 #[.slice s len cap] w (DrTwo w) := by
  go_enter Try.func62, Try.ntmps62
  go_wp2_with fail
  refine (c_l6Open s len cap _ h).mono ?_
  rintro e w2 ⟨B, s', len', hB, rfl, hR2, hb2⟩
  have hBl := hR2.lt
  go_wp2_with fail
  refine (c_l92Base hR2 (by omega)).mono ?_
  rintro e w3 ⟨v, zs, p', rfl, hO, hk, hR3, hp3, hQ3⟩
  obtain ⟨so, co, rfl, hI, hso⟩ := hO.spread
  go_wp2_with fail
  refine (c_l92Rests hR3 (by omega) so zs.length co zs hI hk (ne_of hso hBl)).mono ?_
  rintro e w4 ⟨v2, ys, p4, rfl, hO4, hy4, hR4, hp4, hQ4⟩
  have hO5 := hO.oth hQ4 hBl
  have hI5 : Ints w4 so zs.length zs := spreadI hO5
  have hs2 := hb2.size
  have hs3 := hQ3.size
  have hs4 := hQ4.size
  go_wp2_with fail
  refine (c_l92Rests hR4 (by omega) so zs.length co zs hI5 hk (ne_of hso hBl)).mono ?_
  rintro e w5 ⟨v3, xs, p5, rfl, hO6, hx4, hR5, hp5, hQ5⟩
  have hb5 := ((hb2.trans (oth_below hQ3 hR2)).trans (oth_below hQ4 hR3)).trans (oth_below hQ5 hR4)
  have hO7 := hO5.oth hQ5 hBl
  have hO8 := hO4.oth hQ5 (by omega)
  go_wp2_with fail
  refine bodyPost_ret (v := .tuple #[.slice so zs.length co, v2, v3]) (by simp [results, Try.results62, go_sem]) rfl ⟨_, _, _, zs, ys, xs, rfl, hO7.low hs2, hO8.low (by omega), hO6.low (by omega), hk.2.1, hy4, hx4, hb5⟩
/-- a base is drawn -/
def DrBase (w : World) (e : Ending) (w' : World) : Prop := ∃ v zs, e = .returned v ∧ OwnI w' w.heap.size 3 v zs ∧ zs.length ≤ 4 ∧ Below w.heap.size w w'
theorem c_DrawRestIn (s : Option Addr) (len cap : Nat) (w : World) (h : Code0 w s len cap) : Calls Try.prog 13 #[.slice s len cap] w (DrBase w) := by
  go_enter Try.func13, Try.ntmps13
  go_wp2_with fail
  refine (c_l6Open s len cap _ h).mono ?_
  rintro e w2 ⟨B, s', len', hB, rfl, hR2, hb2⟩
  go_wp2_with fail
  refine (c_l92Base hR2 (by omega)).mono ?_
  rintro e w3 ⟨v, zs, p', rfl, hO, hk, hR3, hp3, hQ3⟩
  go_wp2_with fail
  go_ret
  exact ⟨_, zs, rfl, hO.low hb2.size, hk.2.1, hb2.trans (oth_below hQ3 hR2)⟩
theorem c_DrawRestSize (s : Option Addr) (len cap : Nat) (w : World) (h : Code0 w s len cap) : Calls Try.prog 18 #[.slice s len cap] w (DrBase w) := by
  go_enter Try.func18, Try.ntmps18
  go_wp2_with fail
  refine (c_l6Open s len cap _ h).mono ?_
  rintro e w2 ⟨B, s', len', hB, rfl, hR2, hb2⟩
  go_wp2_with fail
  refine (c_l92Base hR2 (by omega)).mono ?_
  rintro e w3 ⟨v, zs, p', rfl, hO, hk, hR3, hp3, hQ3⟩
  go_wp2_with fail
  go_ret
  exact ⟨_, zs, rfl, hO.low hb2.size, hk.2.1, hb2.trans (oth_below hQ3 hR2)⟩
/-- a base and a number are drawn -/
def DrOf (w : World) (e : Ending) (w' : World) : Prop := ∃ v zs x, e = .returned (.tuple #[v, .int .i64 x]) ∧ OwnI w' w.heap.size 3 v zs ∧ zs.length ≤ 4 ∧ Below w.heap.size w w'
set_option maxHeartbeats 1000000 in
theorem c_DrawRestOf (s : Option Addr) (len cap : Nat) (w : World) (h : Code0 w s len cap) : Calls Try.prog 20 #[.slice s len cap] w (DrOf w) := by
  go_enter Try.func20, Try.ntmps20
  go_wp2_with fail
  refine (c_l6Open s len cap _ h).mono ?_
  rintro e w2 ⟨B, s', len', hB, rfl, hR2, hb2⟩
  have hBl := hR2.lt
  go_wp2_with fail
  refine (c_l92Base hR2 (by omega)).mono ?_
  rintro e w3 ⟨v, zs, p', rfl, hO, hk, hR3, hp3, hQ3⟩
  obtain ⟨so, co, rfl, hI, hso⟩ := hO.spread
  obtain ⟨hk1, hk2, hk3⟩ := hk
  have hsb : 1 ≤ sizZ zs ∧ sizZ zs ≤ 810000 := pZ_bd hk3 4 (by omega)
  have hs2 := hb2.size
  go_wp2_with fail
  refine (c_l5Size so zs.length co zs hk2 hk3 _ hI).mono ?_
  rintro e w' ⟨rfl, rfl⟩
  go_wp2_with fail
  refine (c_pickR 24 (by omega) (by omega) hR3 (by omega)).mono ?_
  rintro e w4 ⟨y, y1, y2, rfl, hR4, hQ4⟩
  have hy : 0 ≤ y / 23 ∧ y / 23 ≤ 1 := by omega
  have hyt : y.tdiv 23 = y / 23 := Int.tdiv_eq_ediv_of_nonneg y1
  generalize sizZ zs = Z at *
  go_wp2_with fail
  refine (c_pickR (Z + y / 23) (by omega) (by omega) hR4 (by omega)).mono ?_
  rintro e w5 ⟨x, x1, x2, rfl, hR5, hQ5⟩
  go_wp2_with fail
  refine (c_pickR 24 (by omega) (by omega) hR5 (by omega)).mono ?_
  rintro e w6 ⟨q, q1, q2, rfl, hR6, hQ6⟩
  have hO6 := ((hO.oth hQ4 hBl).oth hQ5 hBl).oth hQ6 hBl
  have hb6 := (((hb2.trans (oth_below hQ3 hR2)).trans (oth_below hQ4 hR3)).trans (oth_below hQ5 hR4)).trans (oth_below hQ6 hR5)
  go_wp2_with fail
  go_ret2
  exact ⟨_, zs, _, rfl, hO6.low hs2, hk2, hb6⟩
/-- a base, rests and a modulus are drawn -/
def DrMore (w : World) (e : Ending) (w' : World) : Prop := ∃ v1 v2 zs ys x, e = .returned (.tuple #[v1, v2, .int .i64 x]) ∧ OwnI w' w.heap.size 3 v1 zs ∧ OwnI w' w.heap.size 3 v2 ys ∧ zs.length ≤ 4 ∧ ys.length ≤ 4 ∧ Below w.heap.size w w'
set_option maxHeartbeats 1000000 in
theorem c_DrawRestMore (s : Option Addr) (len cap : Nat) (w : World) (h : Code0 w s len cap) : Calls Try.prog 39 #[.slice s len cap] w (DrMore w) := by
  go_enter Try.func39, Try.ntmps39
  go_wp2_with fail
  refine (c_l92One s len cap _ h).mono ?_
  rintro e w1 ⟨v1, v2, zs, ys, rfl, hO1, hO2, hz4, hy4, hb1⟩
  go_wp2_with fail
  refine (c_l6Open s len cap _ (h.below hb1)).mono ?_
  rintro e w2 ⟨B, s', len', hB, rfl, hR2, hb2⟩
  have hs1 := hb1.size
  have c0 : w2.cell? ⟨B, 1, none⟩ = some (.int .i64 0) := hR2.c1
  have fz := hR2.fz
  have hR4 : Rd w1.heap.size (w2.setCell ⟨B, 1, none⟩ (.int .i64 61)) B s' len' 61 := hR2.setp 61 (by omega)
  have hBx : w1.heap.size ≤ B := by omega
  have hO1' : OwnI (w2.setCell ⟨B, 1, none⟩ (.int .i64 61)) w.heap.size 3 v1 zs := hO1.keep (hb2.setCell hBx _)
  have hO2' : OwnI (w2.setCell ⟨B, 1, none⟩ (.int .i64 61)) w.heap.size 3 v2 ys := hO2.keep (hb2.setCell hBx _)
  have hb3 : Below w.heap.size w (w2.setCell ⟨B, 1, none⟩ (.int .i64 61)) := (bt2 hb1 hb2).setCell (by simp; omega) _
  have HB := Lib.hid hB
  clear hB
  go_wp2_with fail
  refine (c_pickR 40 (by omega) (by omega) hR4 (by omega)).mono ?_
  rintro e w5 ⟨y, y1, y2, rfl, hR5, hQ5⟩
  go_wp2_with fail
  refine (c_pickR 24 (by omega) (by omega) hR5 (by omega)).mono ?_
  rintro e w6 ⟨q, q1, q2, rfl, hR6, hQ6⟩
  have hb6 : Below w1.heap.size w1 w6 := ((hb2.setCell hBx (.int .i64 61)).trans (oth_below hQ5 hR4)).trans (oth_below hQ6 hR5)
  go_wp2_with fail
  go_ret3
  exact ⟨_, _, zs, ys, _, rfl, hO1.keep hb6, hO2.keep hb6, hz4, hy4, bt2 hb1 hb6⟩
theorem c_DrawRestNumber (s : Option Addr) (len cap : Nat) (w : World) (h : Code0 w s len cap) : Calls Try.prog 24 #[.slice s len cap] w (DrOne w) := by
  go_enter Try.func24, Try.ntmps24
  go_wp2_with fail
  refine (c_l92One s len cap _ h).mono ?_
  rintro e w1 ⟨v1, v2, zs, ys, rfl, hO1, hO2, hz4, hy4, hb1⟩
  go_wp2_with fail
  go_ret2
  exact ⟨_, _, zs, ys, rfl, hO1, hO2, hz4, hy4, hb1⟩
theorem c_DrawRestDigits (s : Option Addr) (len cap : Nat) (w : World) (h : Code0 w s len cap) : Calls Try.prog 33 #[.slice s len cap] w (DrOne w) := by
  go_enter Try.func33, Try.ntmps33
  go_wp2_with fail
  refine (c_l92One s len cap _ h).mono ?_
  rintro e w1 ⟨v1, v2, zs, ys, rfl, hO1, hO2, hz4, hy4, hb1⟩
  go_wp2_with fail
  go_ret2
  exact ⟨_, _, zs, ys, rfl, hO1, hO2, hz4, hy4, hb1⟩
theorem c_DrawRestBack (s : Option Addr) (len cap : Nat) (w : World) (h : Code0 w s len cap) : Calls Try.prog 41 #[.slice s len cap] w (DrOne w) := by
  go_enter Try.func41, Try.ntmps41
  go_wp2_with fail
  refine (c_l92One s len cap _ h).mono ?_
  rintro e w1 ⟨v1, v2, zs, ys, rfl, hO1, hO2, hz4, hy4, hb1⟩
  go_wp2_with fail
  go_ret2
  exact ⟨_, _, zs, ys, rfl, hO1, hO2, hz4, hy4, hb1⟩
theorem c_DrawRestAdd (s : Option Addr) (len cap : Nat) (w : World) (h : Code0 w s len cap) : Calls Try.prog 27 #[.slice s len cap] w (DrTwo w) := by
  go_enter Try.func27, Try.ntmps27
  go_wp2_with fail
  refine (c_l92Two s len cap _ h).mono ?_
  rintro e w1 ⟨v1, v2, v3, zs, ys, xs, rfl, hO1, hO2, hO3, hz4, hy4, hx4, hb1⟩
  go_wp2_with fail
  refine bodyPost_ret (v := .tuple #[v1, v2, v3]) (by simp [results, Try.results27, go_sem]) rfl ⟨_, _, _, zs, ys, xs, rfl, hO1, hO2, hO3, hz4, hy4, hx4, hb1⟩
theorem c_DrawRestTimes (s : Option Addr) (len cap : Nat) (w : World) (h : Code0 w s len cap) : Calls Try.prog 30 #[.slice s len cap] w (DrTwo w) := by
  go_enter Try.func30, Try.ntmps30
  go_wp2_with fail
  refine (c_l92Two s len cap _ h).mono ?_
  rintro e w1 ⟨v1, v2, v3, zs, ys, xs, rfl, hO1, hO2, hO3, hz4, hy4, hx4, hb1⟩
  go_wp2_with fail
  refine bodyPost_ret (v := .tuple #[v1, v2, v3]) (by simp [results, Try.results30, go_sem]) rfl ⟨_, _, _, zs, ys, xs, rfl, hO1, hO2, hO3, hz4, hy4, hx4, hb1⟩
theorem c_DrawRestLess (s : Option Addr) (len cap : Nat) (w : World) (h : Code0 w s len cap) : Calls Try.prog 36 #[.slice s len cap] w (DrTwo w) := by
  go_enter Try.func36, Try.ntmps36
  go_wp2_with fail
  refine (c_l92Two s len cap _ h).mono ?_
  rintro e w1 ⟨v1, v2, v3, zs, ys, xs, rfl, hO1, hO2, hO3, hz4, hy4, hx4, hb1⟩
  go_wp2_with fail
  refine bodyPost_ret (v := .tuple #[v1, v2, v3]) (by simp [results, Try.results36, go_sem]) rfl ⟨_, _, _, zs, ys, xs, rfl, hO1, hO2, hO3, hz4, hy4, hx4, hb1⟩
end Go.Proofs.Ytnbejgbkabaleaa
