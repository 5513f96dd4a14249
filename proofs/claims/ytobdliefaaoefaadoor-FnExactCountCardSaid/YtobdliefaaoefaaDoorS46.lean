/- Nodes of the program's tree of splits: a class and its parts, linked; split. -/
import Derived.Test.YtobdliefaaoefaaDoorS4
import Derived.Test.YtobdliefaaoefaaDoorStepC
import Derived.Deep.Heap
import Derived.Laws.Rows
namespace Go.Proofs.YtobdliefaaoefaaDoor
open Go.RowKit
def NodeO (w : World) (b : Nat) (c : Cl) (f q : Value) : Prop := w.heap[b]? = some (.cells #[.int .i64 c.1, .int .i64 c.2, f, q] 57 (0, 0))
theorem NodeO.cells {w : World} {b : Nat} {c : Cl} {f q : Value} (h : NodeO w b c f q) : w.cell? ⟨b, 0, none⟩ = some (.int .i64 c.1) ∧ w.cell? ⟨b, 1, none⟩ = some (.int .i64 c.2) ∧ w.cell? ⟨b, 2, none⟩ = some f ∧ w.cell? ⟨b, 3, none⟩ = some q ∧ w.frozen? ⟨b, 2, none⟩ = false ∧ w.frozen? ⟨b, 3, none⟩ = false := by
  unfold NodeO at h
  refine ⟨?_, ?_, ?_, ?_, ?_, ?_⟩ <;> simp [World.cell?, World.frozen?, h]
theorem NodeO.lt {w : World} {b : Nat} {c : Cl} {f q : Value} (h : NodeO w b c f q) : b < w.heap.size := block_lt h
def PartsK (wr : World) (B W0 : Nat) (c : Cl) (q0 : Value) (zs : List Cl) (k : Nat) : Prop :=
  wr.heap.size = W0 + 2 * k ∧ NodeO wr B c (if k = 0 then .pointer none else .pointer (some ⟨W0 + 1, 0, none⟩)) q0 ∧
  ∀ j, j < k → NodeO wr (W0 + 2 * j + 1) (rAt zs j, mAt zs j) (.pointer none) (if j + 1 = k then .pointer none else .pointer (some ⟨W0 + 2 * (j + 1) + 1, 0, none⟩))
def linkA (B W0 k : Nat) : Addr := match k with | 0 => ⟨B, 2, none⟩ | j + 1 => ⟨W0 + 2 * j + 1, 3, none⟩
theorem two_old (w : World) (A N : Obj) {y : Nat} (h : y < w.heap.size) : ((w.alloc A).alloc N).heap[y]? = w.heap[y]? := by
  rw [Below.heap_alloc (w.alloc A) N y (by simp; omega), Below.heap_alloc w A y h]
theorem two_top (w : World) (A N : Obj) : ((w.alloc A).alloc N).heap[w.heap.size + 1]? = some N := by
  have e : ((w.alloc A).alloc N).heap = (w.alloc A).heap.push N := rfl
  rw [e, show w.heap.size + 1 = (w.alloc A).heap.size by simp]
  exact Array.getElem?_push_size
theorem set_size (w : World) (a : Addr) (v : Value) : (w.setCell a v).heap.size = w.heap.size := by simp [World.setCell]
theorem node_first {w : World} {b : Nat} {c : Cl} {f q : Value} (h : NodeO w b c f q) (v : Value) : NodeO (w.setCell ⟨b, 2, none⟩ v) b c v q := heap_setCell_same w b 2 _ _ v h
theorem node_next {w : World} {b : Nat} {c : Cl} {f q : Value} (h : NodeO w b c f q) (v : Value) : NodeO (w.setCell ⟨b, 3, none⟩ v) b c f v := heap_setCell_same w b 3 _ _ v h
theorem node_far {w : World} {b x i : Nat} {c : Cl} {f q : Value} (h : NodeO w b c f q) (v : Value) (hne : b ≠ x) : NodeO (w.setCell ⟨x, i, none⟩ v) b c f q := (Go.Deep.blk_setCell_other w ⟨x, i, none⟩ v b hne).trans h
theorem node_two {w : World} {b : Nat} {c : Cl} {f q : Value} (h : NodeO w b c f q) (A N : Obj) : NodeO ((w.alloc A).alloc N) b c f q := (two_old w A N h.lt).trans h
theorem partsK_step {wr : World} {B W0 k : Nat} {c : Cl} {q0 : Value} {zs : List Cl} (A : Obj) (h : PartsK wr B W0 c q0 zs k) (hB : B < W0) :
    PartsK (((wr.setCell (linkA B W0 k) (.pointer (some ⟨wr.heap.size + 1, 0, none⟩))).alloc A).alloc (.cells #[.int .i64 (rAt zs k), .int .i64 (mAt zs k), .pointer none, .pointer none] 57)) B W0 c q0 zs (k + 1) := by
  obtain ⟨hs, hN, hNs⟩ := h
  have hnew : NodeO (((wr.setCell (linkA B W0 k) (.pointer (some ⟨wr.heap.size + 1, 0, none⟩))).alloc A).alloc (.cells #[.int .i64 (rAt zs k), .int .i64 (mAt zs k), .pointer none, .pointer none] 57)) (W0 + 2 * k + 1) (rAt zs k, mAt zs k) (.pointer none) (.pointer none) := by
    have := two_top (wr.setCell (linkA B W0 k) (.pointer (some ⟨wr.heap.size + 1, 0, none⟩))) A (.cells #[.int .i64 (rAt zs k), .int .i64 (mAt zs k), .pointer none, .pointer none] 57)
    rw [set_size, hs] at this
    unfold NodeO
    rw [hs]
    exact this
  refine ⟨by simp [hs]; omega, ?_, ?_⟩
  · rw [if_neg (by omega)]
    cases k with
    | zero =>
      simp only [linkA]
      have := node_two (node_first hN (.pointer (some ⟨wr.heap.size + 1, 0, none⟩))) A (.cells #[.int .i64 (rAt zs 0), .int .i64 (mAt zs 0), .pointer none, .pointer none] 57)
      rw [hs] at this ⊢
      exact this
    | succ k =>
      rw [if_neg (by omega)] at hN
      simp only [linkA]
      exact node_two (node_far hN _ (by omega)) A _
  · intro j hj
    by_cases e : j = k
    · subst e
      rw [if_pos rfl]
      exact hnew
    · rw [if_neg (by omega)]
      have hj' := hNs j (by omega)
      cases k with
      | zero => omega
      | succ k =>
        simp only [linkA]
        by_cases e2 : j = k
        · subst e2
          have := node_two (node_next hj' (.pointer (some ⟨wr.heap.size + 1, 0, none⟩))) A (.cells #[.int .i64 (rAt zs (j + 1)), .int .i64 (mAt zs (j + 1)), .pointer none, .pointer none] 57)
          rw [hs] at this ⊢
          exact this
        · rw [if_neg (by omega)] at hj'
          exact node_two (node_far hj' _ (by omega)) A _
theorem partsK_grown {wr w2 : World} {B k : Nat} (A N : Obj) (v : Value) (h : w2.grownBy wr (some B)) : w2.grownBy (((wr.setCell (linkA B w2.heap.size k) v).alloc A).alloc N) (some B) := by
  have hsz := h.size
  refine ⟨h.os, h.tape, h.output, by simp; omega, fun j hj hne => ?_⟩
  have hne' : j ≠ B := fun e => hne (by rw [e])
  rw [two_old _ _ _ (by rw [set_size]; omega), Go.Deep.blk_setCell_other _ _ _ _ (by cases k <;> simp only [linkA] <;> omega)]
  exact h.block j hj hne
set_option maxRecDepth 20000 in
set_option maxHeartbeats 1000000 in
theorem c_split (B : Nat) (r m k : Int) (q0 : Value) (w : World) (hN : NodeO w B (r, m) (.pointer none) q0) :
    Calls Tryd.prog 27 #[.pointer (some ⟨B, 0, none⟩), .int .i64 k] w fun e w' => e = .returned (.bool (parB r m k)) ∧ w.grownBy w' (some B) ∧ (parB r m k = true → ∃ W0, w.heap.size ≤ W0 ∧ PartsK w' B W0 (r, m) q0 (parL r m k) k.toNat) := by
  have hcon := c_implClassParts r m k w
  obtain ⟨h0, h1, h2, h3, f2, f3⟩ := hN.cells
  simp only at h0 h1
  have hBl := hN.lt
  cases hp : parB r m k
  · rw [hp, parR_f hp] at hcon
    go_enter Tryd.func27, Tryd.ntmps27
    go_wp2_with fail
    refine hcon.mono ?_
    rintro e w2 ⟨v, rfl, hO, hb⟩
    go_wp2_with fail
    go_ret
    exact ⟨rfl, ⟨hb.os, hb.tape, hb.output, hb.size, fun j hj _ => hb.block j hj⟩, fun h => by cases h⟩
  · rw [hp, parR_t hp] at hcon
    have hl := parL_length r m k
    have hk12 : k.toNat ≤ 12 := by
      have := parR_le r m k
      rw [parR_t hp, hl] at this
      exact this
    generalize hzs : parL r m k = zs at *
    generalize hkn : k.toNat = n at *
    go_enter Tryd.func27, Tryd.ntmps27
    go_wp2_with fail
    refine hcon.mono ?_
    rintro e w2 ⟨v, rfl, hO, hb⟩
    obtain ⟨so, co, hv, hL, hso⟩ := hO.spread
    rw [hl] at hv hL
    subst hv
    have hN2 : NodeO w2 B (r, m) (.pointer none) q0 := (hb.block B hBl).trans hN
    go_wp2_with fail
    go_loopw [7, 26] (fun a i wr => ∃ j : Nat, j ≤ n ∧ i = .int .i64 j ∧ a = .pointer (some (linkA B w2.heap.size j)) ∧ PartsK wr B w2.heap.size (r, m) q0 zs j ∧ w2.grownBy wr (some B)) (fun _ i _ => n - (intOf i).toNat)
    case atStart => exact ⟨0, Nat.zero_le _, rfl, rfl, ⟨rfl, hN2, fun j hj => by omega⟩, World.grownBy.refl _ _⟩
    case round =>
      obtain ⟨j, hj, rfl, rfl, hP, hG⟩ := hrel
      have hjw : j ≤ 1000 := by omega
      by_cases hlt : j < n
      · have hLr : Cls wr so n zs := cls_grown hL hG fun b off e e2 => by
          cases e2
          rcases hso with h | ⟨g, h, h5, _⟩
          · rw [h] at e; cases e
          · rw [h] at e; cases e; omega
        rcases hLr.lies with h00 | ⟨b, off, rfl, hb', hcells⟩
        · omega
        obtain ⟨hx, hy⟩ := hcells j hlt
        clear hcells
        obtain ⟨hs, hNB, hNs⟩ := hP
        have hBw2 : B < w2.heap.size := hN2.lt
        replace hs := Lib.hid hs
        have hBw : B < wr.heap.size := hNB.lt
        cases j with
        | zero =>
          obtain ⟨g0, g1, g2, g3, e2, e3⟩ := hNB.cells
          simp only [Nat.zero_mul, Nat.add_zero] at hx hy
          simp only [linkA]
          have hG2 := fun A N v => partsK_grown (k := 0) A N v hG
          have hP2 := partsK_step (.cells #[.int .i64 (rAt zs 0), .int .i64 (mAt zs 0)] 31) ⟨hs.out, hNB, hNs⟩ hBw2
          simp only [linkA] at hG2 hP2
          replace hG2 := Lib.hid hG2
          replace hP2 := Lib.hid hP2
          go_wp2_with fail
          have hlk : (⟨wr.heap.size + 1, 3, none⟩ : Addr) = linkA B w2.heap.size 1 := by simp only [linkA]; rw [hs.out]
          refine ⟨⟨1, by omega, rfl, by show _ = Value.pointer (some (linkA B w2.heap.size 1)); rw [← hlk], hP2.out, hG2.out _ _ _⟩, by simp [intOf]; omega⟩
        | succ j =>
          have hNj := hNs j (by omega)
          have hLw := hNj.lt
          obtain ⟨g0, g1, g2, g3, e2, e3⟩ := hNj.cells
          simp only [linkA]
          have hG2 := fun A N v => partsK_grown (k := j + 1) A N v hG
          have hP2 := partsK_step (.cells #[.int .i64 (rAt zs (j + 1)), .int .i64 (mAt zs (j + 1))] 31) ⟨hs.out, hNB, hNs⟩ hBw2
          simp only [linkA] at hG2 hP2
          have hlk : (⟨wr.heap.size + 1, 3, none⟩ : Addr) = linkA B w2.heap.size (j + 2) := by
            simp only [linkA]
            rw [hs.out]
          replace hG2 := Lib.hid hG2
          replace hP2 := Lib.hid hP2
          replace hlk := Lib.hid hlk
          clear hNs hNB
          generalize hLb : w2.heap.size + 2 * j + 1 = L at *
          replace hLb := Lib.hid hLb
          go_wp2_with fail
          refine ⟨⟨j + 2, by omega, congrArg (Value.int .i64) (by omega), by show _ = Value.pointer (some (linkA B w2.heap.size (j + 2))); rw [← hlk.out], hP2.out, hG2.out _ _ _⟩, by simp [intOf]; omega⟩
      · have hjn : n = j := by omega
        subst hjn
        go_wp2_with fail
        go_ret
        exact ⟨rfl, (grown_of hb).trans hG, fun _ => ⟨w2.heap.size, hb.size, hP⟩⟩
end Go.Proofs.YtobdliefaaoefaaDoor
