/- Contracts of what the laws of chapter 7 draw: a tile, a tile and a number. -/
import Derived.Test.YtiplnfggiffngaaDt
namespace Go.Proofs.Ytiplnfggiffngaa
open Go.RowKit
def DrawnT (w : World) (e : Ending) (w' : World) : Prop :=
  ∃ (n : Int) (v : Value) (zs : List Int), 1 ≤ n ∧ n ≤ 24 ∧ zs.length ≤ 24 ∧ e = .returned (.tuple #[.int .i64 n, v]) ∧ OwnI w' w.heap.size 3 v zs ∧ Below w.heap.size w w'
theorem c_l92Some (s : Option Addr) (len cap : Nat) (w : World) (h : Code0 w s len cap) : Calls Try.prog 18 #[.slice s len cap] w (DrawnT w) := by
  go_enter Try.func18, Try.ntmps18
  go_wp2_with fail
  refine (c_l6Open s len cap _ h).mono ?_
  rintro e w2 ⟨B, s', len', hB, rfl, hR2, hb2⟩
  have HB := Lib.hid hB
  clear hB
  go_wp2_with fail
  refine (c_l92Tile hR2 (by omega)).mono ?_
  rintro e w3 ⟨n, v, zs, p', n1, n2, hl, rfl, hO, hR3, hp, hO3⟩
  go_wp2_with fail
  go_ret2
  exact ⟨n, v, zs, n1, n2, hl, rfl, hO.low hb2.size, hb2.trans (oth_below hO3 hR2)⟩
theorem c_DrawTileFind (s : Option Addr) (len cap : Nat) (w : World) (h : Code0 w s len cap) : Calls Try.prog 6 #[.slice s len cap] w (DrawnT w) := by
  go_enter Try.func6, Try.ntmps6
  go_wp2_with fail
  refine (c_l92Some s len cap _ h).mono ?_
  rintro e w2 ⟨n, v, zs, n1, n2, hl, rfl, hO, hT⟩
  go_wp2_with fail
  go_ret2
  exact ⟨n, v, zs, n1, n2, hl, rfl, hO, hT⟩
theorem c_DrawTileCount (s : Option Addr) (len cap : Nat) (w : World) (h : Code0 w s len cap) : Calls Try.prog 12 #[.slice s len cap] w (DrawnT w) := by
  go_enter Try.func12, Try.ntmps12
  go_wp2_with fail
  refine (c_l92Some s len cap _ h).mono ?_
  rintro e w2 ⟨n, v, zs, n1, n2, hl, rfl, hO, hT⟩
  go_wp2_with fail
  go_ret2
  exact ⟨n, v, zs, n1, n2, hl, rfl, hO, hT⟩
def DrawnTI (lo hi : Int) (w : World) (e : Ending) (w' : World) : Prop :=
  ∃ (n : Int) (v : Value) (zs : List Int) (t : Int), 1 ≤ n ∧ n ≤ 24 ∧ zs.length ≤ 24 ∧ lo ≤ t ∧ t ≤ hi ∧ e = .returned (.tuple #[.int .i64 n, v, .int .i64 t]) ∧ OwnI w' w.heap.size 3 v zs ∧ Below w.heap.size w w'
theorem ownI_oth7 {w w' : World} {B base : Nat} {e : TypeId} {v : Value} {zs : List Int} (h : OwnI w base e v zs) (k : Oth B w w') (hb : B < base) : OwnI w' base e v zs := rowV_oth h k hb
set_option maxHeartbeats 400000 in
theorem c_DrawTileScaled (s : Option Addr) (len cap : Nat) (w : World) (h : Code0 w s len cap) : Calls Try.prog 15 #[.slice s len cap] w (DrawnTI 0 1030 w) := by
  go_enter Try.func15, Try.ntmps15
  go_wp2_with fail
  refine (c_l6Open s len cap _ h).mono ?_
  rintro e w2 ⟨B, s', len', hB, rfl, hR2, hb2⟩
  have HB := Lib.hid hB
  have hBl := hR2.lt
  clear hB
  go_wp2_with fail
  refine (c_l92Tile hR2 (by omega)).mono ?_
  rintro e w3 ⟨n, v, zs, p', n1, n2, hl, rfl, hO, hR3, hp, hO3⟩
  go_wp2_with fail
  refine (c_pickR 14 (by omega) (by omega) hR3 (by omega)).mono ?_
  rintro e w4 ⟨x, x1, x2, rfl, hR4, hO4⟩
  go_wp2_with fail
  refine (c_pickR 24 (by omega) (by omega) hR4 (by omega)).mono ?_
  rintro e w5 ⟨y, y1, y2, rfl, hR5, hO5⟩
  obtain ⟨q0, q1, q2⟩ := quo7 (n := 23) y1 (by omega) (by omega)
  have hO' := ownI_oth7 (ownI_oth7 hO hO4 hBl) hO5 hBl
  have hT := hb2.trans (oth_below (hO3.trans (hO4.trans hO5)) hR2)
  go_wp2_with fail
  refine bodyPost_ret (v := .tuple #[.int .i64 n, v, .int .i64 (x + y / 23 * 1000)]) (by simp [results, Try.results15, go_sem]) rfl ⟨n, v, zs, _, n1, n2, hl, by omega, by omega, rfl, hO'.low hb2.size, hT⟩
end Go.Proofs.Ytiplnfggiffngaa
