/- Contracts of what the laws on scaled classes and on counts draw. -/
import Derived.Test.YtenghhoofpjcaaaD4
namespace Go.Proofs.Ytenghhoofpjcaaa
open Go.RowKit
theorem c_pickRW (n : Int) (hn : 1 ≤ n) (hn2 : n ≤ 1000000) {b0 : Nat} {w : World} {B : Nat} {s : Option Addr} {len p : Nat} (h : Rd b0 w B s len p) (hp : p < 1000000) (W : World) (hW : W = w ∨ W = w.drew) :
    Calls Try.prog 54 #[.pointer (some ⟨B, 0, none⟩), .int .i64 n] W (PickR n b0 B s len p w) := by
  rcases hW with rfl | rfl
  · exact c_pickR n hn hn2 h hp
  · exact (c_pickR n hn hn2 h.drew hp).mono fun _ _ ⟨x, h1, h2, h3, h4, h6⟩ => ⟨x, h1, h2, h3, h4, ((Oth.refl _ _).drew).trans h6⟩
/-- the old blocks may be fewer -/
theorem Rd.keep_le {b0 b1 : Nat} {w : World} {B : Nat} {s : Option Addr} {len p : Nat} (h : Rd b0 w B s len p) (hl : b1 ≤ b0) : b1 ≤ B := Nat.le_trans hl h.le
theorem Rd.setp {b0 : Nat} {w : World} {B : Nat} {s : Option Addr} {len p : Nat} (h : Rd b0 w B s len p) (q : Nat) (hq : q ≤ 1000000) :
    Rd b0 (w.setCell ⟨B, 1, none⟩ (.int .i64 (q : Int))) B s len q := by
  obtain ⟨cap, c0⟩ := h.c0
  refine ⟨⟨cap, ?_⟩, ?_, ?_, h.bt.keep fun b i hb => ?_, h.le, h.hl, hq⟩
  · rw [cell_other (by simp)]; exact c0
  · rw [World.cell?_setCell_same' _ _ _ (by rw [h.c1]; rfl)]
  · simpa using h.fz
  · have := h.le
    rw [cell_other (by simp <;> omega)]
theorem c_DrawClassScaled (s : Option Addr) (len cap : Nat) (w : World) (h : Code0 w s len cap) : Calls Try.prog 28 #[.slice s len cap] w (DrawnCI 0 107 w) := by
  go_enter Try.func28, Try.ntmps28
  go_wp2_with fail
  refine (c_l6Open s len cap _ (h.below (ba (Below.refl _ _) _))).mono ?_
  rintro e w2 ⟨B, s', len', hB, rfl, hR2, hb2⟩
  have HB := Lib.hid hB
  clear hB
  go_wp2_with fail
  refine (c_l91Class hR2 (by omega)).mono ?_
  rintro e w3 ⟨r, m, p', m1, m2, r1, r2, rfl, hR3, hp3, hO3⟩
  have hb3 := hb2.trans (oth_below hO3 hR2)
  have hB3 := hR3.lt
  have hR3a := hR3.alloc (Obj.cells #[Value.int IntKind.i64 r, Value.int IntKind.i64 m] 24)
  have hb3a := ba hb3 (Obj.cells #[Value.int IntKind.i64 r, Value.int IntKind.i64 m] 24)
  go_wp2_with fail
  go_region_with (first | (go_at_call_of 54 (Value.int IntKind.i64 8); refine (c_pickRW 8 (by omega) (by omega) hR3a (by omega) _ (by first | exact .inl rfl | exact .inr rfl)).mono ?_; rintro e w4 ⟨x, x1, x2, rfl, hR4, hO4⟩; have hb4 := hb3a.trans (oth_below hO4 hR3a); have k2 : w4.cell? ⟨w3.heap.size, 0, none⟩ = some _ := oc hO4 hB3 0; have k3 : w4.cell? ⟨w3.heap.size, 1, none⟩ = some _ := oc hO4 hB3 1) | (go_at_call_of 54 (Value.int IntKind.i64 24); refine (c_pickRW 24 (by omega) (by omega) hR4 (by omega) _ (by first | exact .inl rfl | exact .inr rfl)).mono ?_; rintro e w5 ⟨y, y1, y2, rfl, hR5, hO5⟩; have hb5 := hb4.trans (oth_below hO5 hR4); have hO5' := hO4.trans hO5; have k0 : w5.cell? ⟨w.heap.size, 0, none⟩ = some _ := kc hb5 0; have k1 : w5.cell? ⟨w.heap.size, 1, none⟩ = some _ := kc hb5 1; have f0 := kf hb5 0; have f1 := kf hb5 1; have k4 : w5.cell? ⟨w3.heap.size, 0, none⟩ = some _ := oc hO5' hB3 0; have k5 : w5.cell? ⟨w3.heap.size, 1, none⟩ = some _ := oc hO5' hB3 1))
  all_goals
    have hb6 := bt2 (ba (Below.refl _ w) _) hb5
    go_wp2
    have hw : IntKind.i64.wrap (x + IntKind.i64.wrap (IntKind.i64.wrap (y.tdiv 23) * 100)) = x + y / 23 * 100 := by
      rw [Int.tdiv_eq_ediv_of_nonneg y1, IntWalk.i64_in (y / 23) (by omega), IntWalk.i64_in (y / 23 * 100) (by omega), IntWalk.i64_in _ (by omega)]
    refine bodyPost_ret (v := .tuple #[.agg #[.int .i64 r, .int .i64 m], .int .i64 (x + y / 23 * 100)]) (by simp [results, Try.results28, go_sem, k0, k1, hw]) rfl ⟨r, m, _, m1, m2, r1, r2, by omega, by omega, rfl, ?_⟩
    repeat (first | exact Below.refl _ _ | assumption | refine Below.drew ?_ | refine bel_drewN ?_ _ | refine ba ?_ _ | refine bt2 ?_ (by assumption) | refine Below.setCell ?_ (by simp <;> omega) _)
def DrawnCII (w : World) (e : Ending) (w' : World) : Prop :=
  ∃ r m a b : Int, 1 ≤ m ∧ m ≤ 24 ∧ 0 ≤ r ∧ r ≤ m ∧ -100 ≤ a ∧ a ≤ 2000099 ∧ a - 5 ≤ b ∧ b ≤ a + 54 ∧ e = .returned (.tuple #[.agg #[.int .i64 r, .int .i64 m], .int .i64 a, .int .i64 b]) ∧ Below w.heap.size w w'
theorem c_DrawClassCount (s : Option Addr) (len cap : Nat) (w : World) (h : Code0 w s len cap) : Calls Try.prog 34 #[.slice s len cap] w (DrawnCII w) := by
  go_enter Try.func34, Try.ntmps34
  go_wp2_with fail
  refine (c_l91With s len cap _ (h.below (ba (Below.refl _ _) _))).mono ?_
  rintro e w2 ⟨r, m, a, m1, m2, r1, r2, a1, a2, rfl, hb2⟩
  have hz := kz hb2
  go_wp2_with fail
  refine (c_l6Open s len cap _ (h.below (ba (bt2 (ba (Below.refl _ _) _) hb2) _))).mono ?_
  rintro e w3 ⟨B, s', len', hB, rfl, hR3, hb3⟩
  have hB3 : w2.heap.size < B := by have := hR3.le; simp at this; omega
  have HB := Lib.hid hB
  clear hB
  have hb3' := (ba hb2 _).trans (hb3.mono (by simp <;> omega))
  have c0 : w3.cell? ⟨B, 1, none⟩ = some (.int .i64 0) := hR3.c1
  have fz := hR3.fz
  have hR4 : Rd (w2.alloc (Obj.cells #[Value.int IntKind.i64 r, Value.int IntKind.i64 m] 24)).heap.size (w3.setCell ⟨B, 1, none⟩ (.int .i64 61)) B s' len' 61 := hR3.setp 61 (by omega)
  have q0 : (w3.setCell ⟨B, 1, none⟩ (.int .i64 61)).cell? ⟨w2.heap.size, 0, none⟩ = some (.int .i64 r) := by
    rw [cell_other (by simp <;> omega)]; exact kc hb3 0
  have q1 : (w3.setCell ⟨B, 1, none⟩ (.int .i64 61)).cell? ⟨w2.heap.size, 1, none⟩ = some (.int .i64 m) := by
    rw [cell_other (by simp <;> omega)]; exact kc hb3 1
  have hs4 : (w3.setCell ⟨B, 1, none⟩ (.int .i64 61)).heap.size = w3.heap.size := by simp [World.setCell]
  have hz3 : w2.heap.size < w3.heap.size := kz hb3
  have HS := Lib.hid hs4
  clear hs4
  have hb4 : Below (w.alloc (Obj.cells #[Value.int IntKind.i64 0, Value.int IntKind.i64 0] 24)).heap.size (w.alloc (Obj.cells #[Value.int IntKind.i64 0, Value.int IntKind.i64 0] 24)) (w3.setCell ⟨B, 1, none⟩ (.int .i64 61)) := hb3'.setCell (by simp; omega) _
  go_wp2_with fail
  go_region_with (go_at_call 54; refine (c_pickRW 60 (by omega) (by omega) hR4 (by omega) _ (by first | exact .inl rfl | exact .inr rfl)).mono ?_; rintro e w5 ⟨v, v1, v2, rfl, hR5, hO5⟩; have hb5 := hb4.trans (hO5.below (hR4.keep_le (by simp <;> omega)) (by have := hR4.lt; have := hR4.le; simp at *; omega)); have k0 : w5.cell? ⟨w.heap.size, 0, none⟩ = some _ := kc hb5 0; have k1 : w5.cell? ⟨w.heap.size, 1, none⟩ = some _ := kc hb5 1; have f0 := kf hb5 0; have f1 := kf hb5 1; have k4 : w5.cell? ⟨w2.heap.size, 0, none⟩ = some _ := (hO5.cell (by rw [HS.out]; exact hz3) (by simp; omega)).trans q0; have k5 : w5.cell? ⟨w2.heap.size, 1, none⟩ = some _ := (hO5.cell (by rw [HS.out]; exact hz3) (by simp; omega)).trans q1)
  all_goals
    have hb6 := bt2 (ba (Below.refl _ w) _) hb5
    go_wp2
    have hw : IntKind.i64.wrap (IntKind.i64.wrap (a + v) - 5) = a + v - 5 := by
      rw [IntWalk.i64_in (a + v) (by omega), IntWalk.i64_in _ (by omega)]
    refine bodyPost_ret (v := .tuple #[.agg #[.int .i64 r, .int .i64 m], .int .i64 a, .int .i64 (a + v - 5)]) (by simp [results, Try.results34, go_sem, k0, k1, hw]) rfl ⟨r, m, a, _, m1, m2, r1, r2, a1, a2, by omega, by omega, rfl, ?_⟩
    repeat (first | exact Below.refl _ _ | assumption | refine Below.drew ?_ | refine bel_drewN ?_ _ | refine ba ?_ _ | refine bt2 ?_ (by assumption) | refine Below.setCell ?_ (by simp <;> omega) _)
end Go.Proofs.Ytenghhoofpjcaaa
