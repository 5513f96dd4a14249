/- Nodes of the program's tree of splits: a class and its parts, linked; split. -/
import Derived.Test.YtnmlljhgilpocaaDoorS4
import Derived.Test.YtnmlljhgilpocaaDoorStepC
import Derived.Deep.Heap
import Derived.Laws.Rows
import Derived.Test.YtnmlljhgilpocaaDoorMgM
namespace Go.Proofs.YtnmlljhgilpocaaDoor
open Go.RowKit
def NodeO (w : World) (b : Nat) (c : Cl) (f q : Value) : Prop := w.heap[b]? = some (.cells #[.int .i64 c.1, .int .i64 c.2, f, q] 43 (0, 0))
theorem NodeO.cells {w : World} {b : Nat} {c : Cl} {f q : Value} (h : NodeO w b c f q) : w.cell? ⟨b, 0, none⟩ = some (.int .i64 c.1) ∧ w.cell? ⟨b, 1, none⟩ = some (.int .i64 c.2) ∧ w.cell? ⟨b, 2, none⟩ = some f ∧ w.cell? ⟨b, 3, none⟩ = some q ∧ w.frozen? ⟨b, 2, none⟩ = false ∧ w.frozen? ⟨b, 3, none⟩ = false := by
  unfold NodeO at h
  refine ⟨?_, ?_, ?_, ?_, ?_, ?_⟩ <;> simp [World.cell?, World.frozen?, h]
theorem NodeO.lt {w : World} {b : Nat} {c : Cl} {f q : Value} (h : NodeO w b c f q) : b < w.heap.size := block_lt h
def PartsK (wr : World) (B W0 : Nat) (c : Cl) (q0 : Value) (zs : List Cl) (k : Nat) : Prop :=
  wr.heap.size = W0 + 2 * k ∧ NodeO wr B c (if k = 0 then .pointer none else .pointer (some ⟨W0 + 1, 0, none⟩)) q0 ∧
  ∀ j, j < k → NodeO wr (W0 + 2 * j + 1) (rAt zs j, mAt zs j) (.pointer none) (if j + 1 = k then .pointer none else .pointer (some ⟨W0 + 2 * (j + 1) + 1, 0, none⟩))
def linkA (B W0 k : Nat) : Addr := match k with | 0 => ⟨B, 2, none⟩ | j + 1 => ⟨W0 + 2 * j + 1, 3, none⟩
theorem two_old (w : World) (A N : Obj) {y : Nat} (h : y < w.heap.size) : ((w.alloc A).alloc N).heap[y]? = w.heap[y]? := by
  rw [Below.heap_alloc (w.alloc A) N y (by simp; omega), Below.heap_alloc w A y h]
theorem two_top (w : World) (A N : Obj) : ((w.alloc A).alloc N).heap[w.heap.size + 1]? = some N := by
  have e : ((w.alloc A).alloc N).heap = (w.alloc A).heap.push N := rfl
  rw [e, show w.heap.size + 1 = (w.alloc A).heap.size by simp]
  exact Array.getElem?_push_size
theorem set_size (w : World) (a : Addr) (v : Value) : (w.setCell a v).heap.size = w.heap.size := by simp [World.setCell]
theorem node_first {w : World} {b : Nat} {c : Cl} {f q : Value} (h : NodeO w b c f q) (v : Value) : NodeO (w.setCell ⟨b, 2, none⟩ v) b c v q := heap_setCell_same w b 2 _ _ v h
theorem node_next {w : World} {b : Nat} {c : Cl} {f q : Value} (h : NodeO w b c f q) (v : Value) : NodeO (w.setCell ⟨b, 3, none⟩ v) b c f v := heap_setCell_same w b 3 _ _ v h
theorem node_far {w : World} {b x i : Nat} {c : Cl} {f q : Value} (h : NodeO w b c f q) (v : Value) (hne : b ≠ x) : NodeO (w.setCell ⟨x, i, none⟩ v) b c f q := (Go.Deep.blk_setCell_other w ⟨x, i, none⟩ v b hne).trans h
theorem node_two {w : World} {b : Nat} {c : Cl} {f q : Value} (h : NodeO w b c f q) (A N : Obj) : NodeO ((w.alloc A).alloc N) b c f q := (two_old w A N h.lt).trans h
theorem partsK_step {wr : World} {B W0 k : Nat} {c : Cl} {q0 : Value} {zs : List Cl} (A : Obj) (h : PartsK wr B W0 c q0 zs k) (hB : B < W0) :
    PartsK (((wr.setCell (linkA B W0 k) (.pointer (some ⟨wr.heap.size + 1, 0, none⟩))).alloc A).alloc (.cells #[.int .i64 (rAt zs k), .int .i64 (mAt zs k), .pointer none, .pointer none] 43)) B W0 c q0 zs (k + 1) := by
  obtain ⟨hs, hN, hNs⟩ := h
  have hnew : NodeO (((wr.setCell (linkA B W0 k) (.pointer (some ⟨wr.heap.size + 1, 0, none⟩))).alloc A).alloc (.cells #[.int .i64 (rAt zs k), .int .i64 (mAt zs k), .pointer none, .pointer none] 43)) (W0 + 2 * k + 1) (rAt zs k, mAt zs k) (.pointer none) (.pointer none) := by
    have := two_top (wr.setCell (linkA B W0 k) (.pointer (some ⟨wr.heap.size + 1, 0, none⟩))) A (.cells #[.int .i64 (rAt zs k), .int .i64 (mAt zs k), .pointer none, .pointer none] 43)
    rw [set_size, hs] at this
    unfold NodeO
    rw [hs]
    exact this
  refine ⟨by simp [hs]; omega, ?_, ?_⟩
  · rw [if_neg (by omega)]
    cases k with
    | zero =>
      simp only [linkA]
      have := node_two (node_first hN (.pointer (some ⟨wr.heap.size + 1, 0, none⟩))) A (.cells #[.int .i64 (rAt zs 0), .int .i64 (mAt zs 0), .pointer none, .pointer none] 43)
      rw [hs] at this ⊢
      exact this
    | succ k =>
      rw [if_neg (by omega)] at hN
      simp only [linkA]
      exact node_two (node_far hN _ (by omega)) A _
  · intro j hj
    by_cases e : j = k
    · subst e
      rw [if_pos rfl]
      exact hnew
    · rw [if_neg (by omega)]
      have hj' := hNs j (by omega)
      cases k with
      | zero => omega
      | succ k =>
        simp only [linkA]
        by_cases e2 : j = k
        · subst e2
          have := node_two (node_next hj' (.pointer (some ⟨wr.heap.size + 1, 0, none⟩))) A (.cells #[.int .i64 (rAt zs (j + 1)), .int .i64 (mAt zs (j + 1)), .pointer none, .pointer none] 43)
          rw [hs] at this ⊢
          exact this
        · rw [if_neg (by omega)] at hj'
          exact node_two (node_far hj' _ (by omega)) A _
theorem partsK_grown {wr w2 : World} {B k : Nat} (A N : Obj) (v : Value) (h : w2.grownBy wr (some B)) : w2.grownBy (((wr.setCell (linkA B w2.heap.size k) v).alloc A).alloc N) (some B) := by
  have hsz := h.size
  refine ⟨h.os, h.tape, h.output, by simp; omega, fun j hj hne => ?_⟩
  have hne' : j ≠ B := fun e => hne (by rw [e])
  rw [two_old _ _ _ (by rw [set_size]; omega), Go.Deep.blk_setCell_other _ _ _ _ (by cases k <;> simp only [linkA] <;> omega)]
  exact h.block j hj hne
set_option maxRecDepth 20000 in
set_option maxHeartbeats 1000000 in
theorem c_split (B : Nat) (r m k : Int) (q0 : Value) (w : World) (hN : NodeO w B (r, m) (.pointer none) q0) :
    Calls Tryd.prog 14 #[.pointer (some ⟨B, 0, none⟩), .int .i64 k] w fun e w' => e = .returned (.bool (parB r m k)) ∧ w.grownBy w' (some B) ∧ (parB r m k = true → ∃ W0, w.heap.size ≤ W0 ∧ PartsK w' B W0 (r, m) q0 (parL r m k) k.toNat) := by
  have hcon := c_implClassParts r m k w
  obtain ⟨h0, h1, h2, h3, f2, f3⟩ := hN.cells
  simp only at h0 h1
  have hBl := hN.lt
  cases hp : parB r m k
  · rw [hp, parR_f hp] at hcon
    go_enter Tryd.func14, Tryd.ntmps14
    go_wp2_with fail
    refine hcon.mono ?_
    rintro e w2 ⟨v, rfl, hO, hb⟩
    go_wp2_with fail
    go_ret
    exact ⟨rfl, ⟨hb.os, hb.tape, hb.output, hb.size, fun j hj _ => hb.block j hj⟩, fun h => by cases h⟩
  · rw [hp, parR_t hp] at hcon
    have hl := parL_length r m k
    have hk12 : k.toNat ≤ 12 := by
      have := parR_le r m k
      rw [parR_t hp, hl] at this
      exact this
    generalize hzs : parL r m k = zs at *
    generalize hkn : k.toNat = n at *
    go_enter Tryd.func14, Tryd.ntmps14
    go_wp2_with fail
    refine hcon.mono ?_
    rintro e w2 ⟨v, rfl, hO, hb⟩
    obtain ⟨so, co, hv, hL, hso⟩ := hO.spread
    rw [hl] at hv hL
    subst hv
    have hN2 : NodeO w2 B (r, m) (.pointer none) q0 := (hb.block B hBl).trans hN
    go_wp2_with fail
    go_loopw [7, 26] (fun a i wr => ∃ j : Nat, j ≤ n ∧ i = .int .i64 j ∧ a = .pointer (some (linkA B w2.heap.size j)) ∧ PartsK wr B w2.heap.size (r, m) q0 zs j ∧ w2.grownBy wr (some B)) (fun _ i _ => n - (intOf i).toNat)
    case atStart => exact ⟨0, Nat.zero_le _, rfl, rfl, ⟨rfl, hN2, fun j hj => by omega⟩, World.grownBy.refl _ _⟩
    case round =>
      obtain ⟨j, hj, rfl, rfl, hP, hG⟩ := hrel
      have hjw : j ≤ 1000 := by omega
      by_cases hlt : j < n
      · have hLr : Cls wr so n zs := cls_grown hL hG fun b off e e2 => by
          cases e2
          rcases hso with h | ⟨g, h, h5, _⟩
          · rw [h] at e; cases e
          · rw [h] at e; cases e; omega
        rcases hLr.lies with h00 | ⟨b, off, rfl, hb', hcells⟩
        · omega
        obtain ⟨hx, hy⟩ := hcells j hlt
        clear hcells
        obtain ⟨hs, hNB, hNs⟩ := hP
        have hBw2 : B < w2.heap.size := hN2.lt
        replace hs := Lib.hid hs
        have hBw : B < wr.heap.size := hNB.lt
        cases j with
        | zero =>
          obtain ⟨g0, g1, g2, g3, e2, e3⟩ := hNB.cells
          simp only [Nat.zero_mul, Nat.add_zero] at hx hy
          simp only [linkA]
          have hG2 := fun A N v => partsK_grown (k := 0) A N v hG
          have hP2 := partsK_step (.cells #[.int .i64 (rAt zs 0), .int .i64 (mAt zs 0)] 41) ⟨hs.out, hNB, hNs⟩ hBw2
          simp only [linkA] at hG2 hP2
          replace hG2 := Lib.hid hG2
          replace hP2 := Lib.hid hP2
          go_wp2_with fail
          have hlk : (⟨wr.heap.size + 1, 3, none⟩ : Addr) = linkA B w2.heap.size 1 := by simp only [linkA]; rw [hs.out]
          refine ⟨⟨1, by omega, rfl, by show _ = Value.pointer (some (linkA B w2.heap.size 1)); rw [← hlk], hP2.out, hG2.out _ _ _⟩, by simp [intOf]; omega⟩
        | succ j =>
          have hNj := hNs j (by omega)
          have hLw := hNj.lt
          obtain ⟨g0, g1, g2, g3, e2, e3⟩ := hNj.cells
          simp only [linkA]
          have hG2 := fun A N v => partsK_grown (k := j + 1) A N v hG
          have hP2 := partsK_step (.cells #[.int .i64 (rAt zs (j + 1)), .int .i64 (mAt zs (j + 1))] 41) ⟨hs.out, hNB, hNs⟩ hBw2
          simp only [linkA] at hG2 hP2
          have hlk : (⟨wr.heap.size + 1, 3, none⟩ : Addr) = linkA B w2.heap.size (j + 2) := by
            simp only [linkA]
            rw [hs.out]
          replace hG2 := Lib.hid hG2
          replace hP2 := Lib.hid hP2
          replace hlk := Lib.hid hlk
          clear hNs hNB
          generalize hLb : w2.heap.size + 2 * j + 1 = L at *
          replace hLb := Lib.hid hLb
          go_wp2_with fail
          refine ⟨⟨j + 2, by omega, congrArg (Value.int .i64) (by omega), by show _ = Value.pointer (some (linkA B w2.heap.size (j + 2))); rw [← hlk.out], hP2.out, hG2.out _ _ _⟩, by simp [intOf]; omega⟩
      · have hjn : n = j := by omega
        subst hjn
        go_wp2_with fail
        go_ret
        exact ⟨rfl, (grown_of hb).trans hG, fun _ => ⟨w2.heap.size, hb.size, hP⟩⟩
end Go.Proofs.YtnmlljhgilpocaaDoor
namespace Go.Proofs.YtnmlljhgilpocaaDoor
open Go.RowKit
theorem NodeO.keep {w w' : World} {b : Nat} {c : Cl} {f q : Value} (h : NodeO w b c f q) (k : Below w.heap.size w w') : NodeO w' b c f q := (k.block b h.lt).trans h
theorem PartsK.first {w : World} {B W0 n : Nat} {c : Cl} {q0 : Value} {zs : List Cl} (h : PartsK w B W0 c q0 zs n) (hn : 0 < n) : NodeO w B c (.pointer (some ⟨W0 + 1, 0, none⟩)) q0 := by
  have := h.2.1
  rwa [if_neg (by omega)] at this
theorem own_one (w : World) (r m : Int) : OwnC (w.alloc (.cells #[.int .i64 r, .int .i64 m] 41)) w.heap.size 41 (.slice (some ⟨w.heap.size, 0, none⟩) 1 1) [(r, m)] := World.ownsRow_lit w #[.int .i64 r, .int .i64 m] 1 (Nat.le_refl _) (by unfold maxLen; omega) rfl
theorem c_leaf (b : Nat) (r m : Int) (q : Value) (w : World) (hN : NodeO w b (r, m) (.pointer none) q) :
    Calls Tryd.prog 16 #[.pointer (some ⟨b, 0, none⟩)] w fun e w' => ∃ v, e = .returned v ∧ OwnC w' w.heap.size 41 v [(r, m)] ∧ Below w.heap.size w w' := by
  obtain ⟨h0, h1, h2, h3, _, _⟩ := hN.cells
  simp only at h0 h1
  have hbl := hN.lt
  go_enter Tryd.func16, Tryd.ntmps16
  go_wp2_with fail
  go_ret
  exact ⟨_, rfl, own_one w r m, ba (Below.refl _ _) _⟩
def ptrK (W0 n k : Nat) : Value := if k < n then .pointer (some ⟨W0 + 2 * k + 1, 0, none⟩) else .pointer none
set_option maxRecDepth 20000 in
set_option maxHeartbeats 1000000 in
theorem c_leaves (B W0 n : Nat) (c : Cl) (q0 : Value) (zs : List Cl) (w : World) (hP : PartsK w B W0 c q0 zs n) (hl : zs.length = n) (h1 : 1 ≤ n) (h2 : n ≤ 12) :
    Calls Tryd.prog 16 #[.pointer (some ⟨B, 0, none⟩)] w fun e w' => ∃ v, e = .returned v ∧ OwnC w' w.heap.size 41 v zs ∧ Below w.heap.size w w' := by
  have hF := hP.first (by omega)
  obtain ⟨_, _, g2, _, _, _⟩ := hF.cells
  have hNs := hP.2.2
  have HE := Lib.hid (show zs.take n = zs by rw [← hl]; exact List.take_length)
  have HT := Lib.hid (fun k (h : k < n) => show zs.take (k + 1) = zs.take k ++ [(rAt zs k, mAt zs k)] by
    rw [List.take_succ_eq_append_getElem (by omega), ← at_eq (by omega)])
  have HL := Lib.hid (fun k (h : k ≤ n) => show (zs.take k).length = k by rw [List.length_take]; omega)
  have hp0 : (Value.pointer (some ⟨W0 + 1, 0, none⟩)) = ptrK W0 n 0 := by unfold ptrK; rw [if_pos (by omega)]
  replace hNs := Lib.hid hNs
  replace hp0 := Lib.hid hp0
  clear hP hF hl
  go_enter Tryd.func16, Tryd.ntmps16
  go_wp2_with fail
  go_loopw [3, 4] (fun v p wr => ∃ k : Nat, k ≤ n ∧ p = ptrK W0 n k ∧ OwnC wr w.heap.size 41 v (zs.take k) ∧ Below w.heap.size w wr) (fun v _ _ => n - (match v with | .slice _ k _ => k | _ => 0))
  case atStart => exact ⟨0, Nat.zero_le _, hp0.out, by simpa using OwnC.nil _ _ _, Below.refl _ _⟩
  case round =>
    obtain ⟨k, hk, rfl, hO, hB⟩ := hrel
    by_cases hlt : k < n
    · have hN := hNs.out k hlt
      have hNr := hN.keep hB
      obtain ⟨_, _, _, e3, _, _⟩ := hN.cells
      have e3' : w.cell? ⟨W0 + 2 * k + 1, 3, none⟩ = some (ptrK W0 n (k + 1)) := by
        rw [e3]
        unfold ptrK
        by_cases e : k + 1 = n
        · rw [if_pos e, if_neg (by omega)]
        · rw [if_neg e, if_pos (by omega)]
      have hlf := c_leaf _ _ _ _ wr hNr
      have ep : ptrK W0 n k = .pointer (some ⟨W0 + 2 * k + 1, 0, none⟩) := by unfold ptrK; rw [if_pos hlt]
      have HT := Lib.hid (HT.out k hlt)
      have hLk := HL.out k hk
      have hLk1 := HL.out (k + 1) (by omega)
      rw [ep]
      obtain ⟨s3, c3, hv3, _, _⟩ := hO.spread
      rw [hLk] at hv3
      subst hv3
      have hbs := hB.size
      go_wp2_with fail
      refine hlf.mono ?_
      rintro e w5 ⟨v5, rfl, hO5, hb5⟩
      obtain ⟨s5, c5, rfl, hC5, _⟩ := hO5.spread
      have hB5 := bt2 hB hb5
      have hOk := hO.keep hb5
      have hs5 := hB5.size
      go_wp2_with (first | (at_builtin; refine wpList_append_cls rfl (.tmp 25) (.tmp 27) rfl w.heap.size _ _ rfl hOk s5 1 c5 _ rfl hC5 (by rw [hLk]; omega) hs5 ?_; intro v7 w7 hO7 hg7; have hB7 : Below w.heap.size w w7 := hB5.grown hg7 hs5 (fun g e => (World.ownsRow.lt hOk g e).1); have e7 := keepc hB7 e3'; rw [← HT.out] at hO7; obtain ⟨s7, c7, hv7, _, _⟩ := hO7.spread; rw [hLk1] at hv7; subst hv7) | fail)
      go_roundw
      case rel => exact ⟨k + 1, by omega, rfl, hO7, hB7⟩
      case measure => simp only; omega
    · have hkn : n = k := by omega
      subst hkn
      have ep : ptrK W0 n n = .pointer none := by unfold ptrK; rw [if_neg (by omega)]
      rw [HE.out] at hO
      rw [ep]
      go_wp2_with fail
      go_ret
      exact ⟨_, rfl, hO, hB⟩
end Go.Proofs.YtnmlljhgilpocaaDoor
