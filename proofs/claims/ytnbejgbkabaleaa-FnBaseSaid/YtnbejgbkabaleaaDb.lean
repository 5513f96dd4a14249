/- Contracts of what the laws of chapter 5 draw: rests, and both. -/
import Derived.Test.YtnbejgbkabaleaaDa
namespace Go.Proofs.Ytnbejgbkabaleaa
open Go.RowKit
theorem Oth.grownJ {B : Nat} {a w w' : World} {row : Option Nat} (h : Oth B a w) (hg : w.grownBy w' row) (hr : ∀ j, row = some j → a.heap.size ≤ j) : Oth B a w' :=
  ⟨hg.os.trans h.os, hg.tape.trans h.tape, hg.output.trans h.output, Nat.le_trans h.size hg.size, fun k hk hne => (hg.block k (Nat.lt_of_lt_of_le hk h.size) (fun e => by have := hr k e.symm; omega)).trans (h.block k hk hne)⟩
theorem Rd.grownJ {b0 : Nat} {w w' : World} {B : Nat} {s : Option Addr} {len p : Nat} {row : Option Nat} (h : Rd b0 w B s len p) (hg : w.grownBy w' row) (hr : ∀ j, row = some j → B < j) : Rd b0 w' B s len p :=
  h.keep fun k hk => hg.block k (Nat.lt_of_le_of_lt hk h.lt) (fun e => by have := hr k e.symm; omega)
set_option maxRecDepth 20000 in
set_option maxHeartbeats 4000000 in
theorem c_l92Rests {b0 : Nat} {w : World} {B : Nat} {s : Option Addr} {len p : Nat} (h : Rd b0 w B s len p) (hp : p + 10 < 1000000) (t : Option Addr) (n cap : Nat) (zs : List Int) (hz : Ints w t n zs) (hk : okL zs) (hne : ∀ b off, t = some ⟨b, off, none⟩ → b ≠ B) :
    Calls Try.prog 71 #[.pointer (some ⟨B, 0, none⟩), .slice t n cap] w (DrL 8 (fun ys => ys.length ≤ 4) b0 B s len p w) := by
  obtain rfl := hz.len
  have hB := h.lt
  obtain ⟨i0, hi, hz0, hz1, hz2⟩ := info_parts infoJ
  have hO0 : OwnI (w.alloc (.cells #[] 3)) w.heap.size 3 (.slice (some ⟨w.heap.size, 0, none⟩) 0 0) [] := World.ownsRow_lit w #[] 0 (Nat.le_refl _) (by unfold maxLen; omega) rfl
  have hQ0 : Oth B w (w.alloc (.cells #[] 3)) := (Oth.refl B w).alloc _
  have hR0 := h.alloc (.cells #[] 3)
  obtain ⟨hl1, hl4, hm⟩ := hk
  have HM := Lib.hid hm
  have HZ := Lib.hid hz.lies
  have HNE := Lib.hid hne
  clear hm hz h hne
  go_enter Try.func71, Try.ntmps71
  go_wp2_with fail
  go_loopw [5, 6] (fun v i wr => ∃ (k : Nat) (ys : List Int), k ≤ zs.length ∧ i = .int .i64 k ∧ ys.length = k ∧ OwnI wr w.heap.size 3 v ys ∧ Rd b0 wr B s len (p + 2 * k) ∧ Oth B w wr) (fun _ i _ => zs.length - (intOf i).toNat)
  case atStart => exact ⟨0, [], Nat.zero_le _, rfl, rfl, hO0, hR0, hQ0⟩
  case round =>
    clear hO0 hR0 hQ0
    obtain ⟨k, ys, hk, rfl, hyl, hOr, hR, hQ⟩ := hrel
    by_cases hlt : k < zs.length
    · rcases HZ.out with h0 | ⟨b, off, rfl, hbw, hcells⟩
      · omega
      have hbB := HNE.out b off rfl
      have hx := (hQ.cell (p := ⟨b, off + k, none⟩) hbw hbB).trans (hcells k hlt)
      rw [mo_in hlt] at hx
      have hkz0 : (0 : Int) ≤ (k : Int) := by omega
      have hkz1 : (k : Int) < (zs.length : Int) := by omega
      obtain ⟨m1, m2⟩ := HM.out k
      have hbwr : b < wr.heap.size := Nat.lt_of_lt_of_le hbw hQ.size
      have hnb : some b ≠ u5.ownBlock := fun e => by have := (World.ownsRow.lt hOr b e.symm).1; omega
      have hnB : B < w.heap.size := hB
      clear hcells
      generalize mo zs k = m at *
      have hk2 : (k + 1) * 8 ≤ 140737488355328 := by omega
      have hk1 : k + 1 ≤ maxLen := by unfold maxLen; omega
      have hbs := hQ.size
      subst hyl
      go_wp2_with fail
      go_region_held3 (fun w' => w'.cell? ⟨b, off + ys.length, none⟩ = some (.int .i64 m)) (go_keep) (first
        | (go_at_call_of 53 (Value.int IntKind.i64 60); refine (c_pickRW 60 (by omega) (by omega) hR (by omega) _ (by first | exact .inl rfl | exact .inr rfl)).mono ?_; rintro e w4 ⟨y, y1, y2, rfl, hR4, hP4⟩; have g0 : w4.cell? ⟨b, off + ys.length, none⟩ = some (.int .i64 m) := (hP4.cell (p := ⟨b, off + ys.length, none⟩) hbwr hbB).trans hx; have hN : IntKind.i64.wrap (m + IntKind.i64.wrap (y.tdiv 59)) = m + y / 59 := (by rw [Int.tdiv_eq_ediv_of_nonneg y1, IntWalk.i64_in (y / 59) (by omega), IntWalk.i64_in _ (by omega)]); have HNN := Lib.hid hN; clear hN)
        | (go_at_call 53; refine (c_pickR (IntKind.i64.wrap (m + IntKind.i64.wrap (y.tdiv 59))) (by rw [HNN.out]; omega) (by rw [HNN.out]; omega) hR4 (by omega)).mono ?_; rintro e w5 ⟨v, v1, v2, rfl, hR5, hP5⟩; have g1 := (hP5.cell (p := ⟨b, off + ys.length, none⟩) (Nat.lt_of_lt_of_le hbwr hP4.size) hbB).trans g0; have hO5 := (hOr.oth hP4 hnB).oth hP5 hnB)
        | (refine step_append_own rfl (.tmp 14) (.tmp 25) 23 rfl w.heap.size 3 i0 (.int .i64 0) 1 8 Try.underlying23 hi hz0 hz1 hz2 rfl (by decide) u5 ys.length _ rfl (World.ownsRow.alloc (show World.ownsRow _ _ _ _ _ _ _ from hO5) _) ⟨w5.heap.size, 0, none⟩ 1 1 [.int .i64 v] rfl rfl (one_newJ w5 _ _) (by simp [Value.oneCell']) hk1 hk2 (by have := hP4.size; have := hP5.size; simp; omega) ?_; intro v7 w7 hown7 hgrow7 _; have g2 := hgrow7.cell (a := ⟨b, off + ys.length, none⟩) (v := .int .i64 m) (by go_keep) hnb)
        | fail)
      all_goals
        have hR7 := (hR5.alloc (.cells #[.int .i64 v] 3)).grownJ hgrow7 (fun j e => by have := (World.ownsRow.lt hOr j e).1; omega)
        have hQ7 := ((hQ.trans (hP4.trans hP5)).alloc (.cells #[.int .i64 v] 3)).grownJ hgrow7 (fun j e => (World.ownsRow.lt hOr j e).1)
        go_wp2_with fail
        go_roundw
        case rel =>
          refine ⟨ys.length + 1, ys ++ [v], by omega, by go_num, by simp, ?_, hR7, hQ7⟩
          unfold OwnI
          rw [List.length_append, List.map_append]
          exact hown7
        case measure => simp [intOf]; omega
    · have hk' : k = zs.length := by omega
      go_wp2_with fail
      go_ret
      exact ⟨_, ys, _, rfl, hOr, by omega, hR, by omega, hQ⟩
/-- a base and rests are drawn -/
def DrOne (w : World) (e : Ending) (w' : World) : Prop := ∃ v1 v2 zs ys, e = .returned (.tuple #[v1, v2]) ∧ OwnI w' w.heap.size 3 v1 zs ∧ OwnI w' w.heap.size 3 v2 ys ∧ zs.length ≤ 4 ∧ ys.length ≤ 4 ∧ Below w.heap.size w w'
end Go.Proofs.Ytnbejgbkabaleaa
