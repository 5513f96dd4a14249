/- Chapter 6: SolveAll, the program and the model. -/
import Derived.Test.YtcbpbfencgnppaaMathZ
import Derived.Test.YtcbpbfencgnppaaMathM
import Derived.Test.YtcbpbfencgnppaaT1
import Derived.Test.YtcbpbfencgnppaaY1
import Derived.BigQuiet
namespace Go.Proofs.Ytcbpbfencgnppaa
open Go.RowKit
/-- a class in a box of its own -/
structure Bx2 (w : World) (B : Nat) (x y : Int) : Prop where
  c0 : w.cell? ⟨B, 0, none⟩ = some (.int .i64 x)
  c1 : w.cell? ⟨B, 1, none⟩ = some (.int .i64 y)
  f0 : w.frozen? ⟨B, 0, none⟩ = false
  f1 : w.frozen? ⟨B, 1, none⟩ = false
  lt : B < w.heap.size
theorem Bx2.keep {w w' : World} {B : Nat} {x y : Int} (h : Bx2 w B x y) (k : Below w.heap.size w w') : Bx2 w' B x y :=
  ⟨keepc k h.c0, keepc k h.c1, keepf k h.c0 h.f0, keepf k h.c1 h.f1, keeps k h.c0⟩
theorem Bx2.new (w : World) (x y : Int) : Bx2 (w.alloc (Obj.cells #[Value.int IntKind.i64 x, Value.int IntKind.i64 y] 26)) w.heap.size x y := ⟨by simp, by simp, by simp, by simp, by simp⟩
theorem Bx2.miss {w : World} {B D : Nat} {x y : Int} (h : Bx2 w B x y) (hn : D ≠ B) (i : Nat) (v : Value) : Bx2 (w.setCell ⟨D, i, none⟩ v) B x y :=
  ⟨by rw [cell_other (by first | (simp; done) | (simp; omega))]; exact h.c0, by rw [cell_other (by first | (simp; done) | (simp; omega))]; exact h.c1, by simpa using h.f0, by simpa using h.f1, by simpa [World.setCell] using h.lt⟩
theorem Bx2.set {w : World} {B : Nat} {x y : Int} (h : Bx2 w B x y) (x' y' : Int) : Bx2 ((w.setCell ⟨B, 0, none⟩ (.int .i64 x')).setCell ⟨B, 1, none⟩ (.int .i64 y')) B x' y' := by
  refine ⟨?_, ?_, by simpa using h.f0, by simpa using h.f1, by simpa [World.setCell] using h.lt⟩
  · rw [cell_other (by simp), World.cell?_setCell_same' _ _ _ (by rw [h.c0]; rfl)]
  · rw [World.cell?_setCell_same' _ _ _ (by rw [cell_other (by simp), h.c1]; rfl)]
theorem Bx2.drew {w : World} {B : Nat} {x y : Int} (h : Bx2 w B x y) : Bx2 w.drew B x y := ⟨h.c0, h.c1, h.f0, h.f1, h.lt⟩
/-- a list of three numbers, read -/
theorem three_of {w : World} {t : Option Addr} {l : List Int} (h : Ints w t l.length l) (h3 : l.length = 3) : ∃ b o, t = some ⟨b, o, none⟩ ∧ w.cell? ⟨b, o, none⟩ = some (.int .i64 (nAt l 0)) ∧ w.cell? ⟨b, o + 1, none⟩ = some (.int .i64 (nAt l 1)) ∧ w.cell? ⟨b, o + 2, none⟩ = some (.int .i64 (nAt l 2)) := by
  rcases h.lies with h0 | ⟨b, o, rfl, _, hc⟩
  · omega
  · exact ⟨b, o, rfl, hc 0 (by omega), hc 1 (by omega), hc 2 (by omega)⟩
def SolPost (w : World) (zss : List (List Int)) (e : Ending) (w' : World) : Prop := e = .returned (.tuple #[.agg #[.int .i64 (solR zss), .int .i64 (solM zss)], .bool (solB zss)]) ∧ Below w.heap.size w w'
theorem solPost_f {w w' : World} {zss : List (List Int)} (h : solO zss = none) (hb : Below w.heap.size w w') : SolPost w zss (.returned (.tuple #[.agg #[.int .i64 0, .int .i64 0], .bool false])) w' := by
  obtain ⟨h1, h2, h3⟩ := sol_none h
  exact ⟨by rw [h1, h2, h3], hb⟩
theorem solPost_t {w w' : World} {zss : List (List Int)} {x y : Int} (h : solO zss = some (x, y)) (hb : Below w.heap.size w w') : SolPost w zss (.returned (.tuple #[.agg #[.int .i64 x, .int .i64 y], .bool true])) w' := by
  obtain ⟨h1, h2, h3⟩ := sol_some h
  exact ⟨by rw [h1, h2, h3], hb⟩
set_option maxRecDepth 20000 in
set_option maxHeartbeats 4000000 in
theorem c_implSolveAll (s : Option Addr) (n cap : Nat) (zss : List (List Int)) (hn : n ≤ 1048576) (hr : ∀ i, i < n → (zss[i]?.getD []).length ≤ 1048576) (w : World) (hc : Ints2 w s n zss) : Calls Try.prog 11 #[.slice s n cap] w (SolPost w zss) := by
  have hl := hc.len
  by_cases h6 : ¬ n ≤ 6
  · have HA := Lib.hid (solO_ge (zss := zss) (by omega))
    go_enter Try.func11, Try.ntmps11
    go_wp2_with fail
    refine bodyPost_ret (v := .tuple #[.agg #[.int .i64 0, .int .i64 0], .bool false]) (by simp [results, Try.results11, go_sem]) rfl (solPost_f HA.out ?_)
    repeat (first | exact Below.refl _ _ | assumption | refine Below.drew ?_ | refine bel_drewN ?_ _ | refine ba ?_ _ | refine bt2 ?_ (by assumption) | refine Below.setCell ?_ (by simp <;> omega) _)
  · have h6' : n ≤ 6 := by omega
    have HA := Lib.hid (solO_le (zss := zss) (by omega))
    have HL := Lib.hid hl
    clear h6 hl
    have hA0 := Bx2.new w 0 0
    go_enter Try.func11, Try.ntmps11
    go_wp2_with fail
    refine (c_wholeClass _).mono ?_
    rintro e w1 ⟨rfl, hb1⟩
    have hA1 := (hA0.keep hb1).keep (ba (Below.refl _ w1) (Obj.cells #[Value.int IntKind.i64 0, Value.int IntKind.i64 1] 26))
    have hB1 := Bx2.new w1 0 1
    have hT1 : Below w.heap.size w (w1.alloc (Obj.cells #[Value.int IntKind.i64 0, Value.int IntKind.i64 1] 26)) := ba (bt2 (ba (Below.refl _ w) _) hb1) _
    have hne : w1.heap.size ≠ w.heap.size := by have := hb1.size; simp at this; omega
    have HF := Lib.hid (show solF (zss.drop 0) (0, 1) = solO zss by rw [HA.out]; rfl)
    have hin : inB 0 1 = true := by decide
    have hb1s := Lib.hid (show w.heap.size ≤ w1.heap.size by have := hb1.size; simp at this; omega)
    clear hA0 hb1
    go_wp2_with fail
    generalize hW1 : w1.alloc (Obj.cells #[Value.int IntKind.i64 0, Value.int IntKind.i64 1] 26) = W1 at *
    generalize hD : w1.heap.size = D at *
    have hDs : w.heap.size ≤ D := hb1s.out
    clear hW1 hD hb1s
    go_loopw [16] (fun i wr => ∃ (k : Nat) (x y : Int), k ≤ n ∧ i = .int .i64 k ∧ Bx2 wr w.heap.size 0 0 ∧ Bx2 wr D x y ∧ inB x y = true ∧ Hid (solF (zss.drop k) (x, y) = solO zss) ∧ Below w.heap.size w wr) (fun i _ => n - (intOf i).toNat)
    case atStart => exact ⟨0, 0, 1, Nat.zero_le _, rfl, hA1, hB1, hin, HF, hT1⟩
    case round =>
      clear hA1 hB1 hin HF hT1
      obtain ⟨k, x, y, hk, rfl, hA, hB, hin, HF, hT⟩ := hrel
      by_cases hlt : k < n
      · rcases (hc.keep hT).lies with h0 | ⟨b, off, rfl, hb, hcells⟩
        · omega
        obtain ⟨t, c, hx, hI⟩ := hcells k hlt
        have hdr := drop_atZ (zss := zss) (k := k) (by rw [HL.out]; exact hlt)
        rw [hdr] at HF
        clear hcells hdr
        have hlen := hr k hlt
        generalize hlE : zss[k]?.getD [] = l at *
        clear hlE
        by_cases h3 : l.length = 3
        · obtain ⟨b2, o2, rfl, y0, y1, y2⟩ := three_of hI h3
          rw [h3] at hx
          have hne1 : wr.heap.size ≠ b2 := World.new_ne wr ⟨b2, o2, none⟩ y0
          have ci := fun w => c_implSolveLine (nAt l 0) (nAt l 1) (nAt l 2) w
          cases hO : linO (nAt l 0) (nAt l 1) (nAt l 2)
          · have hs := Lib.hid ((solF_stop (t := zss.drop (k + 1)) (stp_f2 (c := (x, y)) hO)).symm.trans HF.out)
            simp only [hO, selI_f] at ci
            clear HF hI hO h3 hlen
            generalize nAt l 0 = p at *
            generalize nAt l 1 = q at *
            generalize nAt l 2 = m at *
            go_wp2_with fail
            go_region_held3 (fun w' => w'.cell? ⟨b2, o2, none⟩ = some (.int .i64 p) ∧ w'.cell? ⟨b2, o2 + 1, none⟩ = some (.int .i64 q) ∧ w'.cell? ⟨b2, o2 + 2, none⟩ = some (.int .i64 m)) (go_keep) (first | (go_at_call 8; refine (ci _).mono ?_; rintro e w5 ⟨rfl, hb5⟩; have g0 := keepc hb5 (a := ⟨b2, o2, none⟩) (v := .int .i64 p) (by go_keep); have g1 := keepc hb5 (a := ⟨b2, o2 + 1, none⟩) (v := .int .i64 q) (by go_keep); have g2 := keepc hb5 (a := ⟨b2, o2 + 2, none⟩) (v := .int .i64 m) (by go_keep); have hne3 : w5.heap.size ≠ b2 := World.new_ne w5 ⟨b2, o2, none⟩ g0; (try (have nb := newbox2 hb5; obtain ⟨n0, n1, n2, n3, n4⟩ := nb))) | fail)
            all_goals
              first
                | (have hK : Below wr.heap.size wr (w5.alloc (.cells #[.int .i64 0, .int .i64 0] 26)) := ba (bt2 (drew_below wr) hb5) _
                   have hE : Bx2 (w5.alloc (.cells #[.int .i64 0, .int .i64 0] 26)) w5.heap.size 0 0 := Bx2.new w5 0 0
                   generalize w5.alloc (.cells #[.int .i64 0, .int .i64 0] 26) = W6 at *)
                | (have hK : Below wr.heap.size wr ((w5.setCell ⟨wr.heap.size, 0, none⟩ (.int .i64 0)).setCell ⟨wr.heap.size, 1, none⟩ (.int .i64 0)) := ((bt2 (ba (Below.refl _ wr) _).drew hb5).setCell (Nat.le_refl _) _).setCell (Nat.le_refl _) _
                   have hE : Bx2 ((w5.setCell ⟨wr.heap.size, 0, none⟩ (.int .i64 0)).setCell ⟨wr.heap.size, 1, none⟩ (.int .i64 0)) wr.heap.size 0 0 := Bx2.set ⟨n0, n1, n2, n3, n4⟩ 0 0
                   generalize (w5.setCell ⟨wr.heap.size, 0, none⟩ (.int .i64 0)).setCell ⟨wr.heap.size, 1, none⟩ (.int .i64 0) = W6 at *)
              have hA6 := hA.keep hK
              have hT6 := bt2 hT hK
              obtain ⟨a0, a1, a2, a3, a4⟩ := hA6
              clear g0 g1 g2 hx y0 y1 y2
              go_wp2_with fail
              refine bodyPost_ret (v := .tuple #[.agg #[.int .i64 0, .int .i64 0], .bool false]) (by simp [results, Try.results11, go_sem, a0, a1]) rfl (solPost_f hs.out.symm ?_)
              repeat (first | exact Below.refl _ _ | assumption | refine Below.drew ?_ | refine bel_drewN ?_ _ | refine ba ?_ _ | refine bt2 ?_ (by assumption) | refine Below.setCell ?_ (by simp <;> omega) _)
          · have hci := lin_in hO
            cases hM : mtB x y (linX (nAt l 0) (nAt l 1) (nAt l 2)) (linN (nAt l 0) (nAt l 2))
            · have hs := Lib.hid ((solF_stop (t := zss.drop (k + 1)) (stp_f3 (c := (x, y)) hM)).symm.trans HF.out)
              have cm := fun w => c_implClassMeet x y (linX (nAt l 0) (nAt l 1) (nAt l 2)) (linN (nAt l 0) (nAt l 2)) w
              simp only [hO, selI_t] at ci
              simp only [hM, selI_f] at cm
              clear HF hI hO h3 hlen hM hci
              generalize linX (nAt l 0) (nAt l 1) (nAt l 2) = X at *
              generalize linN (nAt l 0) (nAt l 2) = N at *
              generalize nAt l 0 = p at *
              generalize nAt l 1 = q at *
              generalize nAt l 2 = m at *
              go_wp2_with fail
              go_region_held3 (fun w' => w'.cell? ⟨b2, o2, none⟩ = some (.int .i64 p) ∧ w'.cell? ⟨b2, o2 + 1, none⟩ = some (.int .i64 q) ∧ w'.cell? ⟨b2, o2 + 2, none⟩ = some (.int .i64 m)) (go_keep) (first | (go_at_call 8; refine (ci _).mono ?_; rintro e w5 ⟨rfl, hb5⟩; have g0 := keepc hb5 (a := ⟨b2, o2, none⟩) (v := .int .i64 p) (by go_keep); have g1 := keepc hb5 (a := ⟨b2, o2 + 1, none⟩) (v := .int .i64 q) (by go_keep); have g2 := keepc hb5 (a := ⟨b2, o2 + 2, none⟩) (v := .int .i64 m) (by go_keep); have hne3 : w5.heap.size ≠ b2 := World.new_ne w5 ⟨b2, o2, none⟩ g0; (try (have nb := newbox2 hb5; obtain ⟨n0, n1, n2, n3, n4⟩ := nb))) | fail)
              all_goals
                first
                  | (have hK : Below wr.heap.size wr (w5.alloc (.cells #[.int .i64 X, .int .i64 N] 26)) := ba (bt2 (drew_below wr) hb5) _
                     have hE : Bx2 (w5.alloc (.cells #[.int .i64 X, .int .i64 N] 26)) w5.heap.size X N := Bx2.new w5 X N
                     generalize w5.alloc (.cells #[.int .i64 X, .int .i64 N] 26) = W6 at *)
                  | (have hK : Below wr.heap.size wr ((w5.setCell ⟨wr.heap.size, 0, none⟩ (.int .i64 X)).setCell ⟨wr.heap.size, 1, none⟩ (.int .i64 N)) := ((bt2 (ba (Below.refl _ wr) _).drew hb5).setCell (Nat.le_refl _) _).setCell (Nat.le_refl _) _
                     have hE : Bx2 ((w5.setCell ⟨wr.heap.size, 0, none⟩ (.int .i64 X)).setCell ⟨wr.heap.size, 1, none⟩ (.int .i64 N)) wr.heap.size X N := Bx2.set ⟨n0, n1, n2, n3, n4⟩ X N
                     generalize (w5.setCell ⟨wr.heap.size, 0, none⟩ (.int .i64 X)).setCell ⟨wr.heap.size, 1, none⟩ (.int .i64 N) = W6 at *)
                have hA6 := hA.keep hK
                have hB6 := hB.keep hK
                have hT6 := bt2 hT hK
                obtain ⟨d0, d1, d2, d3, d4⟩ := hB6
                obtain ⟨e0, e1, e2, e3, e4⟩ := hE
                clear g0 g1 g2 hx y0 y1 y2 hK hT hA hB
                go_wp2_with fail
                refine (cm _).mono ?_
                rintro e w7 ⟨rfl, hb7⟩
                have hA7 := hA6.keep hb7
                have hB7 := Bx2.keep ⟨d0, d1, d2, d3, d4⟩ hb7
                have hT7 := bt2 hT6 hb7
                have hA8 := (hA7.miss hne 0 (.int .i64 0)).miss hne 1 (.int .i64 0)
                obtain ⟨a0, a1, a2, a3, a4⟩ := hA8
                obtain ⟨b0, b1, b2', b3, b4⟩ := hB7
                have hT8 := (hT7.setCell (p := ⟨D, 0, none⟩) hDs (.int .i64 0)).setCell (p := ⟨D, 1, none⟩) hDs (.int .i64 0)
                clear d0 d1 d2 d3 d4 e0 e1 e2 e3 e4
                go_wp2_with fail
                refine bodyPost_ret (v := .tuple #[.agg #[.int .i64 0, .int .i64 0], .bool false]) (by simp [results, Try.results11, go_sem, a0, a1]) rfl (solPost_f hs.out.symm ?_)
                repeat (first | exact Below.refl _ _ | assumption | refine Below.drew ?_ | refine bel_drewN ?_ _ | refine ba ?_ _ | refine bt2 ?_ (by assumption) | refine Below.setCell ?_ (by simp <;> omega) _)
            · have hs := Lib.hid ((solF_cons (t := zss.drop (k + 1)) (stp_t (c := (x, y)) h3 hO hM)).symm.trans HF.out)
              have cm := fun w => c_implClassMeet x y (linX (nAt l 0) (nAt l 1) (nAt l 2)) (linN (nAt l 0) (nAt l 2)) w
              have hmi := met_in hM
              simp only [hO, selI_t] at ci
              simp only [mtB_2 hin hci, show metB y (linX (nAt l 0) (nAt l 1) (nAt l 2)) (linN (nAt l 0) (nAt l 2)) x = true from (mtB_2 hin hci).symm.trans hM, selI_t] at cm
              clear HF hI hO h3 hlen hM hci
              generalize linX (nAt l 0) (nAt l 1) (nAt l 2) = X at *
              generalize linN (nAt l 0) (nAt l 2) = N at *
              generalize nAt l 0 = p at *
              generalize nAt l 1 = q at *
              generalize nAt l 2 = m at *
              generalize metX y X N x = X2 at *
              generalize lcmI y N = N2 at *
              go_wp2_with fail
              go_region_held3 (fun w' => w'.cell? ⟨b2, o2, none⟩ = some (.int .i64 p) ∧ w'.cell? ⟨b2, o2 + 1, none⟩ = some (.int .i64 q) ∧ w'.cell? ⟨b2, o2 + 2, none⟩ = some (.int .i64 m)) (go_keep) (first | (go_at_call 8; refine (ci _).mono ?_; rintro e w5 ⟨rfl, hb5⟩; have g0 := keepc hb5 (a := ⟨b2, o2, none⟩) (v := .int .i64 p) (by go_keep); have g1 := keepc hb5 (a := ⟨b2, o2 + 1, none⟩) (v := .int .i64 q) (by go_keep); have g2 := keepc hb5 (a := ⟨b2, o2 + 2, none⟩) (v := .int .i64 m) (by go_keep); have hne3 : w5.heap.size ≠ b2 := World.new_ne w5 ⟨b2, o2, none⟩ g0; (try (have nb := newbox2 hb5; obtain ⟨n0, n1, n2, n3, n4⟩ := nb))) | fail)
              all_goals
                first
                  | (have hK : Below wr.heap.size wr (w5.alloc (.cells #[.int .i64 X, .int .i64 N] 26)) := ba (bt2 (drew_below wr) hb5) _
                     have hE : Bx2 (w5.alloc (.cells #[.int .i64 X, .int .i64 N] 26)) w5.heap.size X N := Bx2.new w5 X N
                     generalize w5.alloc (.cells #[.int .i64 X, .int .i64 N] 26) = W6 at *)
                  | (have hK : Below wr.heap.size wr ((w5.setCell ⟨wr.heap.size, 0, none⟩ (.int .i64 X)).setCell ⟨wr.heap.size, 1, none⟩ (.int .i64 N)) := ((bt2 (ba (Below.refl _ wr) _).drew hb5).setCell (Nat.le_refl _) _).setCell (Nat.le_refl _) _
                     have hE : Bx2 ((w5.setCell ⟨wr.heap.size, 0, none⟩ (.int .i64 X)).setCell ⟨wr.heap.size, 1, none⟩ (.int .i64 N)) wr.heap.size X N := Bx2.set ⟨n0, n1, n2, n3, n4⟩ X N
                     generalize (w5.setCell ⟨wr.heap.size, 0, none⟩ (.int .i64 X)).setCell ⟨wr.heap.size, 1, none⟩ (.int .i64 N) = W6 at *)
                have hA6 := hA.keep hK
                have hB6 := hB.keep hK
                have hT6 := bt2 hT hK
                obtain ⟨d0, d1, d2, d3, d4⟩ := hB6
                obtain ⟨e0, e1, e2, e3, e4⟩ := hE
                clear g0 g1 g2 hx y0 y1 y2 hK hT hA hB
                go_wp2_with fail
                refine (cm _).mono ?_
                rintro e w7 ⟨rfl, hb7⟩
                have hA7 := hA6.keep hb7
                have hB7 := Bx2.keep ⟨d0, d1, d2, d3, d4⟩ hb7
                have hT7 := bt2 hT6 hb7
                have hA8 := (hA7.miss hne 0 (.int .i64 X2)).miss hne 1 (.int .i64 N2)
                have hB8 := hB7.set X2 N2
                obtain ⟨b0, b1, b2', b3, b4⟩ := hB7
                have hT8 := (hT7.setCell (p := ⟨D, 0, none⟩) hDs (.int .i64 X2)).setCell (p := ⟨D, 1, none⟩) hDs (.int .i64 N2)
                clear d0 d1 d2 d3 d4 e0 e1 e2 e3 e4
                go_wp2_with fail
                go_roundw
                case rel => exact ⟨k + 1, X2, N2, by omega, by go_num, hA8, hB8, hmi, hs, hT8⟩
                case measure => simp [intOf]; omega
        · have hs := Lib.hid ((solF_stop (t := zss.drop (k + 1)) (stp_f1 (c := (x, y)) h3)).symm.trans HF.out)
          have h3' : ((l.length : Int) != 3) = true := by simp; omega
          obtain ⟨a0, a1, a2, a3, a4⟩ := hA
          clear HF hI h3
          go_wp2_with fail
          refine bodyPost_ret (v := .tuple #[.agg #[.int .i64 0, .int .i64 0], .bool false]) (by simp [results, Try.results11, go_sem, a0, a1]) rfl (solPost_f hs.out.symm ?_)
          repeat (first | exact Below.refl _ _ | assumption | refine Below.drew ?_ | refine bel_drewN ?_ _ | refine ba ?_ _ | refine bt2 ?_ (by assumption) | refine Below.setCell ?_ (by simp <;> omega) _)
      · have hk' : k = n := by omega
        subst hk'
        have hs := Lib.hid (show solO zss = some (x, y) by rw [← HF.out, List.drop_of_length_le (by rw [HL.out]; exact Nat.le_refl _)]; rfl)
        obtain ⟨a0, a1, a2, a3, a4⟩ := hA
        obtain ⟨d0, d1, d2, d3, d4⟩ := hB
        clear HF hc hr
        go_wp2_with fail
        refine bodyPost_ret (v := .tuple #[.agg #[.int .i64 x, .int .i64 y], .bool true]) (by simp [results, Try.results11, go_sem, a0, a1]) rfl (solPost_t hs.out ?_)
        repeat (first | exact Below.refl _ _ | assumption | refine Below.drew ?_ | refine bel_drewN ?_ _ | refine ba ?_ _ | refine bt2 ?_ (by assumption) | refine Below.setCell ?_ (by simp <;> omega) _)
end Go.Proofs.Ytcbpbfencgnppaa
