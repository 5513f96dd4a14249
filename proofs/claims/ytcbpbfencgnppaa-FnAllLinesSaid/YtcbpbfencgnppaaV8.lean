/- The walk of the promise law FnAllLines. -/
import Derived.Test.YtcbpbfencgnppaaDh
import Derived.Test.YtcbpbfencgnppaaY5
import Derived.Test.YtcbpbfencgnppaaMathZa
import Derived.Test.YtcbpbfencgnppaaC3
namespace Go.Proofs.Ytcbpbfencgnppaa
open Go.RowKit
set_option maxRecDepth 20000 in
set_option maxHeartbeats 4000000 in
theorem w_FnAllLines (s : Option Addr) (len cap : Nat) (w : World) (h : Code0 w s len cap) : Calls Try.prog 4 #[.slice s len cap] w fun e w' => e = .returned (.bool true) ∧ Below w.heap.size w w' := by
  have hlc := h.lc
  have hcm := h.cm
  unfold maxLen at hcm
  by_cases hlen : ¬ len ≤ 1048576
  · go_enter Try.func4, Try.ntmps4
    go_wp2_with fail
    go_ret
    exact ⟨rfl, Below.refl _ _⟩
  have hlen2 : len ≤ 1048576 := by omega
  clear hlen
  go_enter Try.func4, Try.ntmps4
  go_wp2_with fail
  refine (c_DrawSolveAll s len cap _ h).mono ?_
  rintro e v1 ⟨so, co, zss, rfl, hI1, hn4, hr3, hB1⟩
  have hT1 := bt2 (Below.refl w.heap.size w) hB1
  have hn : zss.length ≤ 1048576 := by omega
  have hr : ∀ i, i < zss.length → (zss[i]?.getD []).length ≤ 1048576 := fun i hi => by have := hr3 i hi; omega
  clear hr3
  go_wp2_with fail
  refine (c_implSolveAll _ _ co zss hn hr _ hI1).mono ?_
  rintro e v2 ⟨rfl, hB2⟩
  have hX2 := Bx2.new v2 (solR zss) (solM zss)
  have hT2 := ba (bt2 hT1 hB2) (Obj.cells #[Value.int IntKind.i64 (solR zss), Value.int IntKind.i64 (solM zss)] 26)
  have hI2 := (hI1.keep hB2).keep (ba (Below.refl _ v2) (Obj.cells #[Value.int IntKind.i64 (solR zss), Value.int IntKind.i64 (solM zss)] 26))
  clear hI1
  go_wp2_with fail
  generalize v2.heap.size = D at *
  generalize v2.alloc (Obj.cells #[Value.int IntKind.i64 (solR zss), Value.int IntKind.i64 (solM zss)] 26) = V2 at *
  refine (c_specSolveAll _ _ co zss hn hr _ hI2).mono ?_
  rintro e v3 ⟨rfl, hB3⟩
  have hX3 := (hX2.keep hB3).keep (ba (Below.refl _ v3) (Obj.cells #[Value.int IntKind.i64 (solR zss), Value.int IntKind.i64 (solM zss)] 26))
  have hY3 := Bx2.new v3 (solR zss) (solM zss)
  have hT3 := ba (bt2 hT2 hB3) (Obj.cells #[Value.int IntKind.i64 (solR zss), Value.int IntKind.i64 (solM zss)] 26)
  have hI3 := (hI2.keep hB3).keep (ba (Below.refl _ v3) (Obj.cells #[Value.int IntKind.i64 (solR zss), Value.int IntKind.i64 (solM zss)] 26))
  clear hI2 hX2 hB2 hB3 hr
  have hXX := hX3
  obtain ⟨x0, x1, x2, x3, x4⟩ := hX3
  cases hb : solB zss
  · generalize solR zss = X at *
    generalize solM zss = Y at *
    go_wp2_with fail
    go_ret
    exact ⟨rfl, hT3⟩
  · obtain ⟨hin, hnil, hall⟩ := sol_each hb
    have HN := Lib.hid hnil
    have HA := Lib.hid hall
    have HL := Lib.hid (rfl : zss.length = zss.length)
    clear hnil hall hb
    generalize hXe : solR zss = X at *
    generalize hYe : solM zss = Y at *
    clear hXe hYe
    go_wp2_with fail
    generalize v3.alloc (Obj.cells #[Value.int IntKind.i64 X, Value.int IntKind.i64 Y] 26) = V3 at *
    clear x0 x1 x2 x3 x4 hY3
    generalize hLe : zss.length = L at *
    have HLE := Lib.hid hLe
    clear hLe
    go_loopw [8] (fun i wr => ∃ j : Nat, j ≤ L ∧ i = .int .i64 j ∧ Bx2 wr D X Y ∧ Ints2 wr so L zss ∧ Below w.heap.size w wr) (fun i _ => L - (intOf i).toNat)
    case atStart => exact ⟨0, Nat.zero_le _, rfl, hXX, hI3, hT3⟩
    case round =>
      clear hXX hI3 hT3
      obtain ⟨j, hj, rfl, hB, hI, hT⟩ := hrel
      by_cases hlt : j < L
      · rcases hI.lies with h0 | ⟨b, off, rfl, hb, hcells⟩
        · omega
        obtain ⟨t, c, hx, hIl⟩ := hcells j hlt
        have hj0 : (0 : Int) ≤ (j : Int) := by omega
        have hjl : (j : Int) < (L : Int) := by omega
        obtain ⟨h3, hO, hbel⟩ := HA.out (zss[j]?.getD []) (by rw [List.getElem?_eq_getElem (by rw [HLE.out]; exact hlt)]; exact List.getElem_mem _)
        clear hcells
        generalize zss[j]?.getD [] = l at *
        obtain ⟨b2, o2, rfl, y0, y1, y2⟩ := three_of hIl h3
        rw [h3] at hx
        have hne1 : wr.heap.size ≠ b2 := World.new_ne wr ⟨b2, o2, none⟩ y0
        have hne2 : wr.heap.size ≠ b := World.new_ne wr ⟨b, off + j, none⟩ hx
        have ci := fun w => c_implSolveLine (nAt l 0) (nAt l 1) (nAt l 2) w
        simp only [hO, selI_t] at ci
        clear hIl hO h3
        generalize linX (nAt l 0) (nAt l 1) (nAt l 2) = Z at *
        generalize linN (nAt l 0) (nAt l 2) = N at *
        generalize nAt l 0 = p at *
        generalize nAt l 1 = q at *
        generalize nAt l 2 = m at *
        have cb := fun w => c_implClassBelow X Y Z N w
        rw [hbel] at cb
        clear hbel
        go_wp2_with fail
        go_region_held3 (fun w' => w'.cell? ⟨b, off + j, none⟩ = some (.slice (some ⟨b2, o2, none⟩) 3 c) ∧ w'.cell? ⟨b2, o2, none⟩ = some (.int .i64 p) ∧ w'.cell? ⟨b2, o2 + 1, none⟩ = some (.int .i64 q) ∧ w'.cell? ⟨b2, o2 + 2, none⟩ = some (.int .i64 m)) (go_keep) (first | (go_at_call 8; refine (ci _).mono ?_; rintro e w5 ⟨rfl, hb5⟩; have g3 := keepc hb5 (a := ⟨b, off + j, none⟩) (v := .slice (some ⟨b2, o2, none⟩) 3 c) (by go_keep); have g0 := keepc hb5 (a := ⟨b2, o2, none⟩) (v := .int .i64 p) (by go_keep); have g1 := keepc hb5 (a := ⟨b2, o2 + 1, none⟩) (v := .int .i64 q) (by go_keep); have g2 := keepc hb5 (a := ⟨b2, o2 + 2, none⟩) (v := .int .i64 m) (by go_keep); have hne3 : w5.heap.size ≠ b2 := World.new_ne w5 ⟨b2, o2, none⟩ g0; have hne4 : w5.heap.size ≠ b := World.new_ne w5 ⟨b, off + j, none⟩ g3; (try (have nb := newbox2 hb5; obtain ⟨n0, n1, n2, n3, n4⟩ := nb))) | fail)
        all_goals
          first
            | (have hK : Below wr.heap.size wr (w5.alloc (.cells #[.int .i64 Z, .int .i64 N] 26)) := ba (bt2 (drew_below wr) hb5) _
               have hE : Bx2 (w5.alloc (.cells #[.int .i64 Z, .int .i64 N] 26)) w5.heap.size Z N := Bx2.new w5 Z N
               generalize w5.alloc (.cells #[.int .i64 Z, .int .i64 N] 26) = W6 at *)
            | (have hK : Below wr.heap.size wr ((w5.setCell ⟨wr.heap.size, 0, none⟩ (.int .i64 Z)).setCell ⟨wr.heap.size, 1, none⟩ (.int .i64 N)) := ((bt2 (ba (Below.refl _ wr) _).drew hb5).setCell (Nat.le_refl _) _).setCell (Nat.le_refl _) _
               have hE : Bx2 ((w5.setCell ⟨wr.heap.size, 0, none⟩ (.int .i64 Z)).setCell ⟨wr.heap.size, 1, none⟩ (.int .i64 N)) wr.heap.size Z N := Bx2.set ⟨n0, n1, n2, n3, n4⟩ Z N
               generalize (w5.setCell ⟨wr.heap.size, 0, none⟩ (.int .i64 Z)).setCell ⟨wr.heap.size, 1, none⟩ (.int .i64 N) = W6 at *)
          have hB6 := hB.keep hK
          have hI6 := hI.keep hK
          have hT6 := bt2 hT hK
          have HB6 := Lib.hid hB6
          obtain ⟨d0, d1, d2, d3, d4⟩ := hB6
          obtain ⟨e0, e1, e2, e3, e4⟩ := hE
          clear g0 g1 g2 g3 hx y0 y1 y2 hK hT hB hI
          go_wp2_with fail
          refine (cb _).mono ?_
          rintro e w7 ⟨rfl, hb7⟩
          have hB7 := Bx2.keep HB6.out hb7
          have hI7 := hI6.keep hb7
          have hT7 := bt2 hT6 hb7
          clear d0 d1 d2 d3 d4 e0 e1 e2 e3 e4
          go_wp2_with fail
          go_roundw
          case rel => exact ⟨j + 1, by omega, by go_num, hB7, hI7, hT7⟩
          case measure => simp [intOf]; omega
      · obtain ⟨d0, d1, d2, d3, d4⟩ := hB
        rcases Nat.eq_zero_or_pos L with h0 | h0
        · have hY : Y = 1 := HN.out (List.eq_nil_of_length_eq_zero (by rw [HLE.out]; exact h0))
          subst hY
          subst h0
          go_wp2_with fail
          go_ret
          exact ⟨rfl, hT⟩
        · have hL0 : (0 : Int) < (L : Int) := by omega
          go_wp2_with fail
          go_ret
          exact ⟨rfl, hT⟩
end Go.Proofs.Ytcbpbfencgnppaa
