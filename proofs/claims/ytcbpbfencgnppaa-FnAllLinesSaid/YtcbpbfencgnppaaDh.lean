/- Contracts of what the law FnAllLines draws: a list of lines. -/
import Derived.Test.YtcbpbfencgnppaaDg
import Derived.Test.YtcbpbfencgnppaaT1
import Derived.RangeFuncWrites
namespace Go.Proofs.Ytcbpbfencgnppaa
open Go.RowKit
/-- block g is a row of numbers -/
def RowB (w : World) (g : Nat) (l : List Int) : Prop := w.heap[g]? = some (.cells (l.map (Value.int .i64)).toArray 3 (0, 0))
theorem RowB.lt {w : World} {g : Nat} {l : List Int} (h : RowB w g l) : g < w.heap.size := (Array.getElem?_eq_some_iff.1 h).1
theorem RowB.new (w : World) (l : List Int) : RowB (w.alloc (.cells (l.map (Value.int .i64)).toArray 3)) w.heap.size l := World.alloc_heap_new w _
theorem RowB.kept {w w' : World} {row : Option Nat} {g : Nat} {l : List Int} (h : RowB w g l) (hg : w.grownBy w' row) (hne : some g ≠ row) : RowB w' g l := (hg.block g h.lt hne).trans h
theorem RowB.alloc {w : World} {g : Nat} {l : List Int} (h : RowB w g l) (o : Obj) : RowB (w.alloc o) g l := h.kept (World.grownBy_alloc w o none) (by simp)
theorem RowB.oth {w w' : World} {B g : Nat} {l : List Int} (h : RowB w g l) (k : Oth B w w') (hb : B < g) : RowB w' g l := (k.block g h.lt (by omega)).trans h
theorem RowB.keep {w w' : World} {g : Nat} {l : List Int} (h : RowB w g l) (k : Below w.heap.size w w') : RowB w' g l := (k.block g h.lt).trans h
theorem RowB.ints {w : World} {g : Nat} {l : List Int} (h : RowB w g l) : Ints w (some ⟨g, 0, none⟩) l.length l := by
  refine ⟨rfl, .inr ⟨_, 0, rfl, h.lt, fun i hi => ?_⟩⟩
  simp only [World.cell?, show w.heap[g]? = _ from h, Nat.zero_add]
  simp [hi]
theorem RowB.not_row {w : World} {g : Nat} {l : List Int} (h : RowB w g l) {base size k : Nat} {v : Value} {xs : List Value} (hr : w.ownsRow base 33 size v k xs) : some g ≠ v.ownBlock := by
  rcases hr.2 with ⟨rfl, _⟩ | ⟨g', cap, cur, rfl, _, hgb, _⟩
  · simp [Value.ownBlock]
  · intro e'
    obtain rfl : g = g' := by simpa [Value.ownBlock] using e'
    have := (show w.heap[g]? = _ from h).symm.trans hgb
    simp at this
/-- rows of numbers in memory of the call's own, above the reader -/
def RowsO (w : World) (B base : Nat) (v : Value) (zss : List (List Int)) : Prop :=
  ∃ vs, w.ownsRow base 33 1 v zss.length vs ∧ ∀ j, j < zss.length → ∃ g, B < g ∧ vs[j]? = some (.slice (some ⟨g, 0, none⟩) (zss[j]?.getD []).length (zss[j]?.getD []).length) ∧ RowB w g (zss[j]?.getD [])
theorem row_oth {w w' : World} {B base size n : Nat} {e : TypeId} {v : Value} {xs : List Value} (h : w.ownsRow base e size v n xs) (k : Oth B w w') (hb : B < base) : w'.ownsRow base e size v n xs := by
  obtain ⟨h1, h2⟩ := h
  refine ⟨h1, ?_⟩
  rcases h2 with h2 | ⟨g, cap, cur, hv, hg, hh, r⟩
  · exact .inl h2
  · exact .inr ⟨g, cap, cur, hv, hg, by rw [k.block g (block_lt hh) (by omega)]; exact hh, r⟩
theorem RowsO.oth {w w' : World} {B base : Nat} {v : Value} {zss : List (List Int)} (h : RowsO w B base v zss) (k : Oth B w w') (hb : B < base) : RowsO w' B base v zss := by
  obtain ⟨vs, h1, h2⟩ := h
  refine ⟨vs, row_oth h1 k hb, fun j hj => ?_⟩
  obtain ⟨g, a, b, c⟩ := h2 j hj
  exact ⟨g, a, b, c.oth k a⟩
/-- one row more -/
theorem RowsO.grow {w w1 : World} {B base m : Nat} {v v' : Value} {zss : List (List Int)} {l : List Int} {vs : List Value} {tmp : Obj} (h1 : w.ownsRow base 33 1 v zss.length vs)
    (h2 : ∀ j, j < zss.length → ∃ g, B < g ∧ vs[j]? = some (.slice (some ⟨g, 0, none⟩) (zss[j]?.getD []).length (zss[j]?.getD []).length) ∧ RowB w g (zss[j]?.getD []))
    (hw : B < w.heap.size) (hm : l.length = m) (hown : w1.ownsRow base 33 1 v' (zss.length + 1) (vs ++ [.slice (some ⟨w.heap.size, 0, none⟩) m m]))
    (hg : ((w.alloc (.cells (l.map (Value.int .i64)).toArray 3)).alloc tmp).grownBy w1 v.ownBlock) : RowsO w1 B base v' (zss ++ [l]) := by
  subst hm
  refine ⟨_, by rw [List.length_append]; exact hown, fun j hj => ?_⟩
  have hvl : vs.length = zss.length := by have := h1.1; omega
  have hrow := (h1.alloc (.cells (l.map (Value.int .i64)).toArray 3)).alloc tmp
  by_cases e : j < zss.length
  · obtain ⟨g, a, b, c⟩ := h2 j e
    have c' := (c.alloc (.cells (l.map (Value.int .i64)).toArray 3)).alloc tmp
    have hz : (zss ++ [l])[j]? = zss[j]? := List.getElem?_append_left e
    rw [hz]
    exact ⟨g, a, by rw [List.getElem?_append_left (by omega)]; exact b, c'.kept hg (c'.not_row hrow)⟩
  · have hj' : j = zss.length := by rw [List.length_append] at hj; simp at hj; omega
    subst hj'
    have c' := (RowB.new w l).alloc tmp
    have hz : (zss ++ [l])[zss.length]? = some l := by simp
    rw [hz]
    exact ⟨w.heap.size, hw, by rw [List.getElem?_append_right (by omega), hvl]; simp, c'.kept hg (c'.not_row hrow)⟩
theorem RowsO.ints2 {w : World} {B base : Nat} {v : Value} {zss : List (List Int)} (h : RowsO w B base v zss) : ∃ s cap, v = .slice s zss.length cap ∧ Ints2 w s zss.length zss := by
  obtain ⟨vs, h1, h2⟩ := h
  rcases h1.2 with ⟨rfl, h0⟩ | ⟨g, cap, cur, hv, hg, hh, _⟩
  · exact ⟨none, 0, by rw [h0], rfl, .inl h0⟩
  · subst hv
    refine ⟨_, cap, rfl, rfl, .inr ⟨g, 0, rfl, block_lt hh, fun i hi => ?_⟩⟩
    obtain ⟨g', _, b, c⟩ := h2 i hi
    rw [Nat.zero_add, World.ownsRow.cellAt h1 i (by omega)]
    exact ⟨_, _, b, c.ints⟩
theorem infoV : (Try.prog.info? 33).map (fun i => (i.zero, i.size, i.bytes)) = some (some (.slice none 0 0), 1, 24) := by kernel_rfl
def DrawnLL (w : World) (e : Ending) (w' : World) : Prop :=
  ∃ s cap zss, e = .returned (.slice s zss.length cap) ∧ Ints2 w' s zss.length zss ∧ zss.length ≤ 4 ∧ (∀ i, i < zss.length → (zss[i]?.getD []).length ≤ 3) ∧ Below w.heap.size w w'
theorem len_app {zss : List (List Int)} {l : List Int} {K : Nat} (h : ∀ i, i < zss.length → (zss[i]?.getD []).length ≤ K) (hl : l.length ≤ K) : ∀ i, i < (zss ++ [l]).length → ((zss ++ [l])[i]?.getD []).length ≤ K := by
  intro i hi
  by_cases e : i < zss.length
  · rw [List.getElem?_append_left e]; exact h i e
  · have : i = zss.length := by rw [List.length_append] at hi; simp at hi; omega
    subst this
    simpa using hl
theorem one_newV (w : World) (x : Value) (t : TypeId) : ∀ j u, [x][j]? = some u → (w.alloc (.cells #[x] t)).cell? ((⟨w.heap.size, 0, none⟩ : Addr).add j) = some u := by
  intro j u h
  match j, h with
  | 0, h => simpa [Addr.add] using h
set_option maxRecDepth 20000 in
set_option maxHeartbeats 4000000 in
theorem c_DrawSolveAll (s : Option Addr) (len cap : Nat) (w : World) (h : Code0 w s len cap) : Calls Try.prog 10 #[.slice s len cap] w (DrawnLL w) := by
  obtain ⟨i0, hi, hz0, hz1, hz2⟩ := info_parts infoV
  go_enter Try.func10, Try.ntmps10
  go_wp2_with fail
  refine (c_l6Open s len cap _ h).mono ?_
  rintro e w2 ⟨B, s', len', hB, rfl, hR2, hb2⟩
  have hB2 := hR2.lt
  have HB := Lib.hid hB
  have hR2 := hR2.alloc (.cells #[] 33)
  have hb2' := ba hb2 (.cells #[] 33)
  have hW0 : RowsO (w2.alloc (.cells #[] 33)) B w2.heap.size (.slice (some ⟨w2.heap.size, 0, none⟩) 0 0) [] := ⟨[], World.ownsRow_lit w2 #[] 0 (Nat.le_refl _) (by unfold maxLen; omega) rfl, fun j hj => by simp at hj⟩
  clear hB
  go_wp2_with fail
  generalize hbase : w2.heap.size = base at *
  have hbw : base ≤ (w2.alloc (.cells #[] 33)).heap.size := by rw [← hbase]; simp
  generalize w2.alloc (.cells #[] 33) = W2 at *
  clear hb2 hbase
  refine (c_pickR 4 (by omega) (by omega) hR2 (by omega)).mono ?_
  rintro e w3 ⟨n, n1, n2, rfl, hR3, hO3⟩
  have hb3 := hb2'.trans (oth_below hO3 hR2)
  have hW3 := hW0.oth hO3 hB2
  have hs3 : base ≤ w3.heap.size := Nat.le_trans hbw hO3.size
  clear hR2 hO3 hW0 hbw hb2'
  go_wp2_with fail
  go_loopw [4, 6] (fun v i wr => ∃ (k : Nat) (zss : List (List Int)), (k : Int) ≤ n ∧ i = .int .i64 k ∧ zss.length = k ∧ Hid (∀ i, i < zss.length → (zss[i]?.getD []).length ≤ 3) ∧ RowsO wr B base v zss ∧ (∃ p, Rd w.heap.size wr B s' len' p ∧ p ≤ 1 + 7 * k) ∧ base ≤ wr.heap.size ∧ Below w.heap.size w wr) (fun _ i _ => (n - intOf i).toNat)
  case atStart => exact ⟨0, [], by omega, rfl, rfl, Lib.hid (fun i hi => by simp at hi), hW3, ⟨_, hR3, by omega⟩, hs3, hb3⟩
  case round =>
    clear hW3 hR3 hs3 hb3
    obtain ⟨k, zss, hk, rfl, hzl, HZ, hW, ⟨p, hR, hp⟩, hs, hT⟩ := hrel
    by_cases hlt : (k : Int) < n
    · go_wp2_with fail
      refine (c_l92Line hR (by omega)).mono ?_
      rintro e w4 ⟨a, b, m, _, _, _, _, _, _, rfl, hR4, hO4⟩
      have hW4 := hW.oth hO4 hB2
      have hT4 := hT.trans (oth_below hO4 hR)
      have hs4 := Nat.le_trans hs hO4.size
      clear hR hO4 hW hT hs
      go_wp2_with fail
      refine (c_pickR 2 (by omega) (by omega) hR4 (by omega)).mono ?_
      rintro e w5 ⟨q, q1, q2, rfl, hR5, hO5⟩
      have hW5 := hW4.oth hO5 hB2
      have hT5 := hT4.trans (oth_below hO5 hR4)
      have hs5 := Nat.le_trans hs4 hO5.size
      clear hR4 hO5 hW4 hT4 hs4
      cases hq : (q == 0)
      · -- the line as it is
        obtain ⟨vs, ho1, ho2⟩ := hW5
        have hvl : vs.length = zss.length := by have := ho1.1; omega
        have hB5 := hR5.lt
        have HLE := Lib.hid (len_app (K := 3) (l := [a, b, m]) HZ.out (by simp))
        have hgw := fun (w7 : World) v7 hown hgrow => RowsO.grow (w1 := w7) (v' := v7) (l := [a, b, m]) (m := 3) (tmp := .cells #[.slice (some ⟨w5.heap.size, 0, none⟩) 3 3] 33) ho1 ho2 hB5 rfl hown hgrow
        have HGW := Lib.hid hgw
        have hR6 := (hR5.alloc (.cells #[.int .i64 a, .int .i64 b, .int .i64 m] 3)).alloc (.cells #[.slice (some ⟨w5.heap.size, 0, none⟩) 3 3] 33)
        have hT6 := ba (ba hT5 (.cells #[.int .i64 a, .int .i64 b, .int .i64 m] 3)) (.cells #[.slice (some ⟨w5.heap.size, 0, none⟩) 3 3] 33)
        have HLT := Lib.hid (fun g e => ho1.lt g e)
        have HK := Lib.hid hk
        have HZL := Lib.hid hzl
        clear ho2 hgw hvl hk
        have HLL := Lib.hid (show (zss ++ [[a, b, m]]).length = zss.length + 1 by simp)
        generalize hLe : zss.length = L at *
        have HLe := Lib.hid hLe
        have hL4 : L ≤ 3 := by have := HK.out; omega
        clear hzl
        go_wp2_with (at_builtin; refine wpList_append_own _ rfl _ _ 30 rfl base 33 i0 (.slice none 0 0) 1 24 Try.underlying30 hi hz0 hz1 hz2 rfl (by decide) _ L vs rfl ((ho1.alloc _).alloc _) ⟨w5.heap.size + 1, 0, none⟩ 1 1 [.slice (some ⟨w5.heap.size, 0, none⟩) 3 3] rfl rfl (by simpa using one_newV (w5.alloc (.cells #[.int .i64 a, .int .i64 b, .int .i64 m] 3)) (.slice (some ⟨w5.heap.size, 0, none⟩) 3 3) 33) (by simp [Value.oneCell']) (by unfold maxLen; omega) (by omega) (by simp; omega) ?_; intro v7 w7 hown7 hgrow7 _)
        have hW7 := HGW.out w7 v7 hown7 hgrow7
        have hR7 : Rd w.heap.size w7 B s' len' _ := hR6.keep fun j hj => hgrow7.block j (by simp; omega) (fun e => by have := (HLT.out j e.symm).1; omega)
        have hT7 : Below w.heap.size w w7 := hT6.grown hgrow7 (by have := hT6.size; exact this) (fun g e => by have := (HLT.out g e).1; have := HB.out; omega)
        have hs7 : base ≤ w7.heap.size := by have := hgrow7.size; simp at this; omega
        go_roundw
        case rel => exact ⟨k + 1, _, by have := HK.out; omega, by go_num, by rw [HLL.out, HZL.out], Lib.hid (by have := HLE.out; exact this), hW7, ⟨_, hR7, by omega⟩, hs7, hT7⟩
        case measure => simp [intOf]; omega
      · have hR5' := hR5.alloc (.cells #[.int .i64 2, .int .i64 3, .int .i64 4, .int .i64 5, .int .i64 7] 3)
        have hB5 := hR5.lt
        have hW5' := hW5.oth (Oth.of_below (ba (Below.refl _ w5) (.cells #[.int .i64 2, .int .i64 3, .int .i64 4, .int .i64 5, .int .i64 7] 3))) hB2
        have hT5' := ba hT5 (.cells #[.int .i64 2, .int .i64 3, .int .i64 4, .int .i64 5, .int .i64 7] 3)
        have hs5' : base ≤ (w5.alloc (.cells #[.int .i64 2, .int .i64 3, .int .i64 4, .int .i64 5, .int .i64 7] 3)).heap.size := by simp; omega
        go_wp2_with fail
        refine (c_pickR 5 (by omega) (by omega) hR5' (by omega)).mono ?_
        rintro e w6 ⟨x, x1, x2, rfl, hR8, hO8⟩
        obtain ⟨M, hc⟩ : ∃ M : Int, w6.cell? ⟨w5.heap.size, x.toNat, none⟩ = some (.int .i64 M) := by
          have hx : x = 0 ∨ x = 1 ∨ x = 2 ∨ x = 3 ∨ x = 4 := by omega
          rcases hx with rfl | rfl | rfl | rfl | rfl
          · exact ⟨2, oc hO8 hB5 0⟩
          · exact ⟨3, oc hO8 hB5 1⟩
          · exact ⟨4, oc hO8 hB5 2⟩
          · exact ⟨5, oc hO8 hB5 3⟩
          · exact ⟨7, oc hO8 hB5 4⟩
        have hW8 := hW5'.oth hO8 hB2
        have hT8 := hT5'.trans (oth_below hO8 hR5')
        have hs8 := Nat.le_trans hs5' hO8.size
        clear hR5 hR5' hO8 hW5 hW5' hT5 hT5' hs5 hs5' hB5
        obtain ⟨vs, ho1, ho2⟩ := hW8
        have hvl : vs.length = zss.length := by have := ho1.1; omega
        have hB5 := hR8.lt
        have HLE := Lib.hid (len_app (K := 3) (l := [1, b, M]) HZ.out (by simp))
        have hgw := fun (w7 : World) v7 hown hgrow => RowsO.grow (w1 := w7) (v' := v7) (l := [1, b, M]) (m := 3) (tmp := .cells #[.slice (some ⟨w6.heap.size, 0, none⟩) 3 3] 33) ho1 ho2 hB5 rfl hown hgrow
        have HGW := Lib.hid hgw
        have hR6 := (hR8.alloc (.cells #[.int .i64 1, .int .i64 b, .int .i64 M] 3)).alloc (.cells #[.slice (some ⟨w6.heap.size, 0, none⟩) 3 3] 33)
        have hT6 := ba (ba hT8 (.cells #[.int .i64 1, .int .i64 b, .int .i64 M] 3)) (.cells #[.slice (some ⟨w6.heap.size, 0, none⟩) 3 3] 33)
        have HLT := Lib.hid (fun g e => ho1.lt g e)
        have HK := Lib.hid hk
        have HZL := Lib.hid hzl
        clear ho2 hgw hvl hk
        have HLL := Lib.hid (show (zss ++ [[1, b, M]]).length = zss.length + 1 by simp)
        generalize hLe : zss.length = L at *
        have HLe := Lib.hid hLe
        have hL4 : L ≤ 3 := by have := HK.out; omega
        clear hzl
        go_wp2_with (at_builtin; refine wpList_append_own _ rfl _ _ 30 rfl base 33 i0 (.slice none 0 0) 1 24 Try.underlying30 hi hz0 hz1 hz2 rfl (by decide) _ L vs rfl ((ho1.alloc _).alloc _) ⟨w6.heap.size + 1, 0, none⟩ 1 1 [.slice (some ⟨w6.heap.size, 0, none⟩) 3 3] rfl rfl (by simpa using one_newV (w6.alloc (.cells #[.int .i64 1, .int .i64 b, .int .i64 M] 3)) (.slice (some ⟨w6.heap.size, 0, none⟩) 3 3) 33) (by simp [Value.oneCell']) (by unfold maxLen; omega) (by omega) (by simp; omega) ?_; intro v7 w7 hown7 hgrow7 _)
        have hW7 := HGW.out w7 v7 hown7 hgrow7
        have hR7 : Rd w.heap.size w7 B s' len' _ := hR6.keep fun j hj => hgrow7.block j (by simp; omega) (fun e => by have := (HLT.out j e.symm).1; omega)
        have hT7 : Below w.heap.size w w7 := hT6.grown hgrow7 (by have := hT6.size; exact this) (fun g e => by have := (HLT.out g e).1; have := HB.out; omega)
        have hs7 : base ≤ w7.heap.size := by have hq := hs8; have := hgrow7.size; simp at this; omega
        go_roundw
        case rel => exact ⟨k + 1, _, by have := HK.out; omega, by go_num, by rw [HLL.out, HZL.out], Lib.hid (by have := HLE.out; exact this), hW7, ⟨_, hR7, by omega⟩, hs7, hT7⟩
        case measure => simp [intOf]; omega
    · go_wp2_with fail
      refine (c_pickR 30 (by omega) (by omega) hR (by omega)).mono ?_
      rintro e w4 ⟨q, q1, q2, rfl, hR4, hO4⟩
      have hW4 := hW.oth hO4 hB2
      have hT4 := hT.trans (oth_below hO4 hR)
      have hs4 := Nat.le_trans hs hO4.size
      clear hR hO4 hW hT hs
      cases hq : (q == 0)
      · obtain ⟨so, co, rfl, hI4⟩ := hW4.ints2
        have hz4 : zss.length ≤ 4 := by omega
        subst hzl
        go_wp2_with fail
        go_ret
        exact ⟨so, co, _, rfl, hI4, hz4, HZ.out, hT4⟩
      · -- one row that is none
        obtain ⟨vs, ho1, ho2⟩ := hW4
        have hvl : vs.length = zss.length := by have := ho1.1; omega
        have hB5 := hR4.lt
        have HLE := Lib.hid (len_app (K := 3) (l := [1, 2]) HZ.out (by simp))
        have hgw := fun (w7 : World) v7 hown hgrow => RowsO.grow (w1 := w7) (v' := v7) (l := [1, 2]) (m := 2) (tmp := .cells #[.slice (some ⟨w4.heap.size, 0, none⟩) 2 2] 33) ho1 ho2 hB5 rfl hown hgrow
        have HGW := Lib.hid hgw
        have hR6 := (hR4.alloc (.cells #[.int .i64 1, .int .i64 2] 3)).alloc (.cells #[.slice (some ⟨w4.heap.size, 0, none⟩) 2 2] 33)
        have hT6 := ba (ba hT4 (.cells #[.int .i64 1, .int .i64 2] 3)) (.cells #[.slice (some ⟨w4.heap.size, 0, none⟩) 2 2] 33)
        have HLT := Lib.hid (fun g e => ho1.lt g e)
        have HK := Lib.hid hk
        have HZL := Lib.hid hzl
        clear ho2 hgw hvl hk
        have HLL := Lib.hid (show (zss ++ [[1, 2]]).length = zss.length + 1 by simp)
        generalize hLe : zss.length = L at *
        have HLe := Lib.hid hLe
        have hL4 : L ≤ 3 := by have := HK.out; omega
        clear hzl
        go_wp2_with (at_builtin; refine wpList_append_own _ rfl _ _ 30 rfl base 33 i0 (.slice none 0 0) 1 24 Try.underlying30 hi hz0 hz1 hz2 rfl (by decide) _ L vs rfl ((ho1.alloc _).alloc _) ⟨w4.heap.size + 1, 0, none⟩ 1 1 [.slice (some ⟨w4.heap.size, 0, none⟩) 2 2] rfl rfl (by simpa using one_newV (w4.alloc (.cells #[.int .i64 1, .int .i64 2] 3)) (.slice (some ⟨w4.heap.size, 0, none⟩) 2 2) 33) (by simp [Value.oneCell']) (by unfold maxLen; omega) (by omega) (by simp; omega) ?_; intro v7 w7 hown7 hgrow7 _)
        have hW7 := HGW.out w7 v7 hown7 hgrow7
        have hR7 : Rd w.heap.size w7 B s' len' _ := hR6.keep fun j hj => hgrow7.block j (by simp; omega) (fun e => by have := (HLT.out j e.symm).1; omega)
        have hT7 : Below w.heap.size w w7 := hT6.grown hgrow7 (by have := hT6.size; exact this) (fun g e => by have := (HLT.out g e).1; have := HB.out; omega)
        have hs7 : base ≤ w7.heap.size := by have := hgrow7.size; simp at this; omega
        obtain ⟨so, co, rfl, hI7⟩ := hW7.ints2
        go_ret
        exact ⟨so, co, zss ++ [[1, 2]], rfl, hI7, by rw [HLL.out]; omega, HLE.out, hT7⟩
end Go.Proofs.Ytcbpbfencgnppaa
