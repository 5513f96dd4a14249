/- Chapter 8: numbers in pairs: the library's Chunk; the word classes. -/
import Derived.Test.YtonecelkkeakiaaGreatDoorZo
import Derived.Test.YtonecelkkeakiaaGreatDoorMz16
import Derived.Test.YtonecelkkeakiaaGreatDoorMz15
import Derived.RangeFuncCalls
import Derived.OrdersIn
import Derived.OwnWalkIn
namespace Go.Proofs.YtonecelkkeakiaaGreatDoor
open Go.RowKit Go.Shelf
attribute [local go_sem] Oper.semAt_some
theorem cls_info : (Tryz.prog.info? 41).map (fun i => (i.zero, i.size, i.bytes)) = some (some (.agg #[.int .i64 0, .int .i64 0]), 2, 16) := by kernel_rfl
theorem c_chunk (s : Option Addr) (n cap : Nat) (w : World) : Calls Tryz.prog 93 #[.slice s n cap, .int .i64 2] w fun e w' => e = .returned (.func (.func 160) #[] #[.pointer (some ⟨w.heap.size, 0, none⟩), .pointer (some ⟨w.heap.size + 1, 0, none⟩)]) ∧ (w.alloc (.cells #[.slice s n cap] 79)).alloc (.cells #[.int .i64 2] 3) = w' := by
  go_enter Tryz.func93, Tryz.ntmps93
  go_wp2_with fail
  go_ret
  exact ⟨rfl, rfl⟩
theorem range_pre {k m : Nat} (h : k + 1 ≤ m) : List.range k ++ [k] <+: List.range m := by
  rw [← List.range_succ]
  refine ⟨(List.range m).drop (k + 1), ?_⟩
  have e : List.range (k + 1) = (List.range m).take (k + 1) := by rw [List.take_range, Nat.min_eq_left h]
  rw [e, List.take_append_drop]
set_option maxRecDepth 200000 in
set_option maxHeartbeats 400000 in
theorem chunk_in (n : Nat) (hn : 1 ≤ n) (g m cap : Nat) (hm : m ≤ 1000) (hcap : 2 * m ≤ cap) (l E D U B : Nat) (J : List Nat → World → Prop) (w : World) (hE : E < B) (hD : D < B) (hUE : E ≠ U) (hUD : D ≠ U)
    (hJ : ∀ s X Y, J s X → Below X.heap.size X Y → J s Y)
    (hY : ∀ pre x W1, J pre W1 → w.heap.size ≤ W1.heap.size → pre ++ [x] <+: List.range m → YieldAt Fence.wide (n - 1) Tryz.prog l #[.slice (some ⟨g, 2 * x, none⟩) 2 2] W1 fun e W' => e = .returned (.bool true) ∧ J (pre ++ [x]) W' ∧ KpR B U W1 W')
    (hS : w.cell? ⟨E, 0, none⟩ = some (.slice (some ⟨g, 0, none⟩) (2 * m) cap)) (hC : w.cell? ⟨D, 0, none⟩ = some (.int .i64 2)) (h0 : J [] w) :
    Calls Tryz.prog 160 #[.func (.yield l) #[] #[], .pointer (some ⟨E, 0, none⟩), .pointer (some ⟨D, 0, none⟩)] w fun e W' => (∃ v, e = .returned v) ∧ J (List.range m) W' := by
  go_enter Tryz.func160, Tryz.ntmps160
  go_wp2_with fail
  go_loopw [4, 5] (fun i _ wr => ∃ k j : Nat, k ≤ m ∧ j = 2 * k ∧ i = .int .i64 (j : Int) ∧ J (List.range k) wr ∧ wr.cell? ⟨E, 0, none⟩ = some (.slice (some ⟨g, 0, none⟩) (2 * m) cap) ∧ wr.cell? ⟨D, 0, none⟩ = some (.int .i64 2) ∧ w.heap.size ≤ wr.heap.size) (fun i _ _ => 2 * m - (intOf i).toNat)
  case atStart => exact ⟨0, 0, Nat.zero_le _, rfl, rfl, h0, hS, hC, Nat.le_refl _⟩
  case round =>
    obtain ⟨k, j, hk, hj, rfl, hJk, hs1, hc1, hsz⟩ := hrel
    clear hS hC h0
    obtain ⟨M, hM⟩ : ∃ M, 2 * m = M := ⟨_, rfl⟩
    rw [hM] at hs1 hcap ⊢
    by_cases hlt : k < m
    · have HHY := Lib.hid hY
      have HJ := Lib.hid hJ
      have HJK := Lib.hid hJk
      have hjM : j + 2 ≤ M := by omega
      have hM2 : M ≤ 2000 := by omega
      have HK := Lib.hid hlt
      have HJE := Lib.hid hj
      have HM := Lib.hid hM
      clear hY hJ hJk hlt hk hj hM hm
      have hlt2 : j < M := by omega
      have HJM := Lib.hid (And.intro hjM hM2)
      have HCP := Lib.hid hcap
      have HSZ := Lib.hid hsz
      clear hjM hM2 hcap hsz
      go_upto_region 3 with fail
      go_quiet (fail)
      go_upto_region 4 with fail
      have e5 : min (2 : Int) ((M - j : Nat) : Int) = 2 := by have := HJM.out; omega
      rw [e5]
      have hYk := HHY.out (List.range k) k (wr.drewN nq) (HJ.out _ _ _ HJK.out (bel_drewN (Below.refl _ _) nq)) (Nat.le_trans HSZ.out (Nat.le_refl _)) (range_pre HK.out)
      rw [← HJE.out] at hYk
      obtain ⟨fn, tm, asg, body, hy, hR⟩ := hYk
      have HR := Lib.hid hR
      have hcd : (wr.drewN nq).cell? ⟨E, 0, none⟩ = some (.slice (some ⟨g, 0, none⟩) M cap) := hs1
      have hc3 : j + 2 ≤ cap := by have := HJM.out; have := HCP.out; omega
      have hc4 : (j : Int) + 2 ≤ (cap : Int) := by omega
      have hwr : IntKind.i64.wrap ((j : Int) + 2) = (j : Int) + 2 := by have := HJM.out; rw [IntKind.wrap_i64]; omega
      clear hR e5
      refine (wpIn_wide (n := n)).1 ?_
      gi_wp2
      refine HR.out.mono ?_
      rintro e W3 ⟨rfl, hJ3, hK3⟩
      have hs3 : W3.cell? ⟨E, 0, none⟩ = some (.slice (some ⟨g, 0, none⟩) M cap) := by rw [← hcd]; simp only [World.cell?, hK3.block E hE hUE]
      have hd3 : W3.cell? ⟨D, 0, none⟩ = some (.int .i64 2) := by rw [← show (wr.drewN nq).cell? ⟨D, 0, none⟩ = some (.int .i64 2) from hc1]; simp only [World.cell?, hK3.block D hD hUD]
      have hz3 : wr.heap.size ≤ W3.heap.size := hK3.size
      clear hy hcd hs1 hc1 hc3 hc4
      gi_wp2
      go_wp2_with fail
      go_roundw
      case rel => exact ⟨k + 1, j + 2, HK.out, by have := HJE.out; omega, by go_num, by rw [List.range_succ]; exact hJ3, hs3, hd3, by have := HSZ.out; omega⟩
      case measure => have := HJM.out; simp [intOf]; omega
    · have hk' : k = m := by omega
      subst hk'
      have hjM : M = j := by omega
      rw [hjM] at hs1
      clear hM hj hjM hm hcap
      go_wp2_with fail
      go_end0
      exact ⟨⟨_, rfl⟩, hJk⟩
theorem chunk_seqV (n : Nat) (hn : 1 ≤ n) (g m cap : Nat) (hm : m ≤ 1000) (hcap : 2 * m ≤ cap) (E D U : Nat) (w : World) (hE : E < w.heap.size) (hD : D < w.heap.size) (hUE : E ≠ U) (hUD : D ≠ U) (hS : w.cell? ⟨E, 0, none⟩ = some (.slice (some ⟨g, 0, none⟩) (2 * m) cap)) (hC : w.cell? ⟨D, 0, none⟩ = some (.int .i64 2)) :
    SeqV Fence.wide n Tryz.prog 160 #[.pointer (some ⟨E, 0, none⟩), .pointer (some ⟨D, 0, none⟩)] (fun x => #[.slice (some ⟨g, 2 * x, none⟩) 2 2]) U E (List.range m) w := fun l J W hW _ _ hJ _ hY h0 =>
  callsIn_wide.2 (chunk_in n hn g m cap hm hcap l E D U w.heap.size J W hE hD hUE hUD hJ hY (keepc hW hS) (keepc hW hC) h0)
/-! a region of a round, walked as outside of rounds -/
theorem opIn_toRound {F : Fence} {n : Nat} {P : Program} {l : Nat} {o : Oper} (hro : F.round = none) (hnd : ∀ c, o.op ≠ .defer c) {a : Act} {w : World} {K : Act → World → Prop} {Q : Exit → Act → World → Prop} (h : o.wpIn F n P a w K Q) : o.wpIn (F.inRound l) n P a w K Q := by
  unfold Oper.wpIn at *
  refine ⟨h.1, ?_⟩
  have h2 := h.2
  rw [hro, Oper.semAt_none] at h2
  rw [Oper.semAt_eq _ _ _ hnd]
  generalize (execOp a.eval o).run P w = r at *
  cases r with
  | ok x w' => cases x <;> first | exact h2 | exact ⟨h2.1, CallsIn.inRound l h2.2⟩
  | halt x w' => cases x <;> exact h2
theorem anyIn_toRound {F : Fence} {n : Nat} {P : Program} {l : Nat} {md : Region.Mode} {ops : Array Oper} {Q : Exit → Act → World → Prop} (hro : F.round = none) (hnd : ∀ (j : Nat) o c, ops[j]? = some o → o.op ≠ .defer c) :
    ∀ (fuel : Nat) (listed : Array Bool) (a : Act) (w : World), wpAnyIn F n P md ops Q fuel listed a w → wpAnyIn (F.inRound l) n P md ops Q fuel listed a w
  | 0, _, _, _, h => h
  | fuel + 1, listed, a, w, h => by
    refine ⟨h.1, fun i hi => ?_⟩
    have h2 := h.2 i hi
    unfold wpOpIn at h2 ⊢
    cases ho : ops[i]? with
    | none =>
      rw [ho] at h2
      exact anyIn_toRound hro hnd fuel _ a w h2
    | some o =>
      rw [ho] at h2
      simp only at h2 ⊢
      split
      · rename_i hw
        rw [if_pos hw] at h2
        exact opIn_toRound hro (fun c => hnd i o c ho) (Oper.wpIn_mono (fun a' w' h3 => anyIn_toRound hro hnd fuel _ a' w' h3) h2)
      · rename_i hw
        rw [if_neg hw] at h2
        exact ⟨h2.1, anyIn_toRound hro hnd fuel _ _ w h2.2⟩
theorem no_defer {ops : Array Oper} (h : ops.all (fun o => match o.op with | .defer _ => false | _ => true) = true) : ∀ (j : Nat) o c, ops[j]? = some o → o.op ≠ .defer c := fun j o c ho e => by
  have := Array.all_eq_true.1 h j (Array.getElem?_eq_some_iff.1 ho).1
  rw [(Array.getElem?_eq_some_iff.1 ho).2, e] at this
  cases this
/-- what is gathered -/
structure GatC (U B0 : Nat) (w W : World) (zs : List Cl) (v : Value) : Prop where
  box : Boxed W U 26 v
  own : OwnC W B0 41 v zs
  low : Below w.heap.size w W
theorem gatC_own (U B0 B1 : Nat) (w : World) (f : List Nat → List Cl) (hU : U < B1) (hw : w.heap.size ≤ B1) : OwnFrom B1 (fun pre W => ∃ v, GatC U B0 w W (f pre) v) := by
  rintro s X Y row ⟨v, h1, h2, h3⟩ hg hr
  refine ⟨v, h1.kept hg (fun e => by have := (hr _ e.symm).1; omega), ?_, h3.trans ⟨hg.os, hg.tape, hg.output, hg.size, fun k hk => ?_⟩⟩
  · refine World.ownsRow.kept h2 hg ?_
    rcases h2.2 with ⟨h1, _⟩ | ⟨g, cap, cur, h1, _, hh, _⟩
    · rw [h1]; exact .inl rfl
    · rw [h1]
      refine .inr fun e => ?_
      obtain ⟨o, ho, hc⟩ := (hr g e.symm).2
      rw [hh] at ho
      cases ho
      cases hc
  · by_cases hl : k < X.heap.size
    · exact hg.block k hl (fun e => by have := (hr _ e.symm).1; omega)
    · have := h3.size
      omega
theorem two_newZ (W : World) (x y : Value) (t : TypeId) : ∀ (j : Nat) u, ([x, y] : List Value)[j]? = some u → (W.alloc (.cells #[x, y] t)).cell? ((⟨W.heap.size, 0, none⟩ : Addr).add j) = some u := by
  intro j u hj
  match j, hj with
  | 0, hj => simp at hj; subst hj; simp [Addr.add]
  | 1, hj => simp at hj; subst hj; simp [Addr.add]
  | j + 2, hj => simp at hj
/-- one more class is gathered -/
theorem cls_step {i : TypeInfo} (hi : Tryz.prog.info? 41 = some i) (hz0 : i.zero = some (.agg #[.int .i64 0, .int .i64 0])) (hz1 : i.size = 2) (hz2 : i.bytes = 16) {U B0 : Nat} {W w4 : World} {v : Value} {pre : List Cl} (hU : U < B0) (hW : B0 ≤ W.heap.size) (hpl : pre.length + 1 ≤ 100000)
    (hb : Boxed W U 26 v) (ho : OwnC W B0 41 v pre) (hB : Below W.drew.heap.size W.drew w4) (x y : Int) :
    ∃ so ln co w7, w4.cell? ⟨U, 0, none⟩ = some v ∧ (w4.alloc (.cells #[.int .i64 x, .int .i64 y] 41)).cell? ⟨U, 0, none⟩ = some v ∧
      (Builtin.append_ #[26, 26] 26 #[v, .slice (some ⟨w4.heap.size, 0, none⟩) 1 1]).run Tryz.prog (w4.alloc (.cells #[.int .i64 x, .int .i64 y] 41)) = .ok (.slice so ln co) w7 ∧ w7.cell? ⟨U, 0, none⟩ = some v ∧ w7.frozen? ⟨U, 0, none⟩ = false ∧
      (Boxed (w7.setCell ⟨U, 0, none⟩ (.slice so ln co)) U 26 (.slice so ln co) ∧ OwnC (w7.setCell ⟨U, 0, none⟩ (.slice so ln co)) B0 41 (.slice so ln co) (pre ++ [(x, y)]) ∧ w4.grownBy w7 v.ownBlock) := by
  have hBW : Below W.heap.size W w4 := (Below.refl _ W).drew.trans hB
  have hb4 : Boxed w4 U 26 v := (hBW.block U hb.lt).trans hb
  have ho4 : OwnC w4 B0 41 v pre := OwnC.keep ho hBW
  have hs4 := hBW.size
  obtain ⟨v7, w7, hrun, r1, r2, _⟩ := run_append_own (P := Tryz.prog) (w4.alloc (.cells #[.int .i64 x, .int .i64 y] 41)) B0 26 26 41 i (.agg #[.int .i64 0, .int .i64 0]) 2 16 Tryz.underlying26 hi hz0 hz1 hz2 rfl (by decide) v pre.length _ (World.ownsRow.alloc (show World.ownsRow _ _ _ _ _ _ _ from ho4) _) ⟨w4.heap.size, 0, none⟩ 1 1 [.int .i64 x, .int .i64 y] rfl (two_newZ w4 _ _ _) (by simp [Value.oneCell']) (by unfold maxLen; omega) (by omega) (by simp; omega)
  obtain ⟨so, ln, co, rfl⟩ : ∃ so ln co, v7 = .slice so ln co := by
    rcases r1.2 with ⟨h, _⟩ | ⟨g, cap, cur, h, _⟩
    · exact ⟨_, _, _, h⟩
    · exact ⟨_, _, _, h⟩
  have hne : some U ≠ v.ownBlock := fun e => by have := (World.ownsRow.lt ho4 U e.symm).1; omega
  have hb5 : Boxed (w4.alloc (.cells #[.int .i64 x, .int .i64 y] 41)) U 26 v := hb4.alloc _
  have hb7 : Boxed w7 U 26 v := hb5.kept r2 hne
  have hg : w4.grownBy w7 v.ownBlock := ⟨r2.os, r2.tape, r2.output, Nat.le_trans (by simp) r2.size, fun k hk hr => (r2.block k (by simp; omega) hr).trans (Below.heap_alloc _ _ _ hk)⟩
  refine ⟨so, ln, co, w7, hb4.cell, hb5.cell, hrun, hb7.cell, hb7.frozen, Boxed.set _ hb7, ?_, hg⟩
  unfold OwnC
  rw [List.length_append, cells2_append]
  refine World.ownsRow.kept r1 (row := some U) ⟨rfl, rfl, rfl, by simp [World.setCell], fun k _ hk => Below.heap_setCell _ _ _ _ (fun e => hk (by simp [e]))⟩ (.inr fun e => ?_)
  have := (World.ownsRow.lt r1 U e).1
  omega
theorem cls_end {U B0 : Nat} {w W w4 w7 : World} {v v7 : Value} {f : List Nat → List Cl} {pre : List Nat} {k : Nat} {x y : Int} {a : Act} (hU : U < B0) (hUw : w.heap.size ≤ U)
    (h : Boxed (w7.setCell ⟨U, 0, none⟩ v7) U 26 v7 ∧ OwnC (w7.setCell ⟨U, 0, none⟩ v7) B0 41 v7 (f pre ++ [(x, y)]) ∧ w4.grownBy w7 v.ownBlock) (hf : f (pre ++ [k]) = f pre ++ [(x, y)]) (hW : B0 ≤ W.heap.size) (hl : Below w.heap.size w W) (hB : Below W.drew.heap.size W.drew w4) (ho : OwnC W B0 41 v (f pre)) :
    postV B0 U B0 (fun pre W => ∃ v, GatC U B0 w W (f pre) v) (pre ++ [k]) W .normal a (w7.setCell ⟨U, 0, none⟩ v7) := by
  obtain ⟨h1, h2, h3⟩ := h
  have hBW : Below W.heap.size W w4 := (Below.refl _ W).drew.trans hB
  have hs := hBW.size
  have h3s := h3.size
  have hset : ∀ k, k ≠ U → (w7.setCell ⟨U, 0, none⟩ v7).heap[k]? = w7.heap[k]? := fun k hk => Below.heap_setCell _ _ _ _ hk
  have hsz : (w7.setCell ⟨U, 0, none⟩ v7).heap.size = w7.heap.size := by simp [World.setCell]
  have hvb : ∀ k, some k = v.ownBlock → B0 ≤ k := fun k e => (World.ownsRow.lt ho k e.symm).1
  refine ⟨⟨by omega, fun k o hk ho' hc => ?_⟩, ⟨by omega, fun k hk hkU => ?_⟩, v7, h1, by rw [hf]; exact h2, ?_⟩
  · have hkl := (Array.getElem?_eq_some_iff.1 ho').1
    have hne : some k ≠ v.ownBlock := by
      rcases ho.2 with ⟨e, _⟩ | ⟨g, cap, cur, e, _, hh, _⟩
      · rw [e]; simp [Value.ownBlock]
      · rw [e]
        intro e2
        simp only [Value.ownBlock, Option.some.injEq] at e2
        subst e2
        rw [hh] at ho'
        cases ho'
        cases hc
    rw [hset k (by omega), h3.block k (by omega) hne, hBW.block k hkl]
    exact ho'
  · have hne : some k ≠ v.ownBlock := fun e => by have := hvb k e; omega
    rw [hset k hkU, h3.block k (by omega) hne, hBW.block k (by omega)]
  · exact ((hl.trans (hBW.mono hl.size)).grown h3 (by have := hl.size; omega) (fun k e => by have := hvb k e.symm; omega)).setCell (p := ⟨U, 0, none⟩) hUw _
theorem row_ints {w : World} {B1 g n cap : Nat} {xs : List Int} (hO : OwnI w B1 3 (.slice (some ⟨g, 0, none⟩) n cap) xs) : n ≤ cap ∧ xs.length = n := by
  rcases hO.2 with ⟨h, _⟩ | ⟨g', cap', cur, h, _, _, h1, _⟩
  · cases h
  · simp only [Value.slice.injEq, Option.some.injEq, Addr.mk.injEq, and_true] at h
    obtain ⟨_, rfl, rfl⟩ := h
    exact ⟨h1, rfl⟩
set_option maxRecDepth 200000 in
set_option maxHeartbeats 4000000 in
/-- the classes of pairs of numbers are gathered and handed to become -/
theorem c_gather (t : ByteArray) (ok : Bool) (b B1 g m cap : Nat) (xs : List Int) (zs : List Cl) (hz : zs.length = m) (hm : m ≤ 1000) (h1 : 1 ≤ m) (hx : ∀ i, i < m → xs[2 * i]?.getD 0 = rAt zs i ∧ xs[2 * i + 1]?.getD 0 = mAt zs i) (w : World)
    (hO : OwnI w B1 3 (.slice (some ⟨g, 0, none⟩) (2 * m) cap) xs) (hbw : b < w.heap.size) (R : World → Prop) (hR : ∀ W D, W.heap[D]? = some (.deferred (some [])) → R W → R (W.putObj D (.deferred none)))
    (hbec : ∀ W s cp, OwnC W w.heap.size 41 (.slice s m cp) zs → Below w.heap.size w W → Calls Tryz.prog 94 #[.pointer (some ⟨b, 0, none⟩), .slice s m cp, .bool true] W fun e w' => e = .returned (.tuple #[.string t, .bool ok]) ∧ R w' ∧ KpB W.heap.size b W w') :
    Calls Tryz.prog 46 #[.pointer (some ⟨b, 0, none⟩), .slice (some ⟨g, 0, none⟩) (2 * m) cap] w fun e w' => e = .returned (.tuple #[.string t, .bool ok]) ∧ R w' ∧ KpB w.heap.size b w w' := by
  obtain ⟨i0, hi, hz0'⟩ := Option.map_eq_some_iff.1 cls_info
  have hz0 : i0.zero = some (.agg #[.int .i64 0, .int .i64 0]) := congrArg (·.1) hz0'
  have hz1 : i0.size = 2 := congrArg (·.2.1) hz0'
  have hz2 : i0.bytes = 16 := congrArg (·.2.2) hz0'
  clear hz0'
  obtain ⟨hcap, hxl⟩ := row_ints hO
  have hrem : (((2 * m : Nat) : Int) % 2 != 0) = false := by
    rw [bne_eq_false_iff_eq]
    omega
  have hcs : ∀ i, i < m → w.cell? ⟨g, 2 * i, none⟩ = some (.int .i64 (rAt zs i)) ∧ w.cell? ⟨g, 2 * i + 1, none⟩ = some (.int .i64 (mAt zs i)) := fun i hi => by
    obtain ⟨e1, e2⟩ := hx i hi
    have c1 := OwnI.cell hO hxl (2 * i) (by omega)
    have c2 := OwnI.cell hO hxl (2 * i + 1) (by omega)
    rw [e1] at c1
    rw [e2] at c2
    exact ⟨c1, c2⟩
  have hseq := fun (W : World) (hE : W.cell? ⟨w.heap.size + 1, 0, none⟩ = some (.slice (some ⟨g, 0, none⟩) (2 * m) cap)) (hD : W.cell? ⟨w.heap.size + 2, 0, none⟩ = some (.int .i64 2)) (hs : W.heap.size = w.heap.size + 3) =>
    chunk_seqV 4 (by omega) g m cap hm hcap (w.heap.size + 1) (w.heap.size + 2) w.heap.size W (by omega) (by omega) (by omega) (by omega) hE hD
  have HSEQ := Lib.hid hseq
  have HCS := Lib.hid hcs
  have HBEC := Lib.hid hbec
  have HMZ := Lib.hid (And.intro hz hm)
  have HM1 := Lib.hid h1
  clear hseq hcs hbec hx hxl hO hcap h1
  generalize hM : 2 * m = M at *
  clear hM hz hm
  refine (callsIn_wide (n := 5)).1 ?_
  refine callsIn_of_wp_marks Tryz.func46 rfl trivial ?_ rfl
  simp only [Tryz.ntmps46, List.size_toArray, List.length_cons, List.length_nil, Nat.reduceAdd, Nat.reduceSub, Array.replicate_succ, Array.replicate_zero, List.push_toArray, List.append_toArray, List.nil_append, List.cons_append]
  gi_wp2_with (refine ⟨trivial, ?_⟩; gi_at_call 93; refine (callsIn_wide.2 (c_chunk _ _ _ _)).mono ?_; rintro e w1 ⟨rfl, rfl⟩)
  obtain ⟨W0, hW0⟩ : ∃ W0, ((w.alloc (.cells #[.slice none 0 0] 26)).alloc (.cells #[.slice (some ⟨g, 0, none⟩) M cap] 79)).alloc (.cells #[.int .i64 2] 3) = W0 := ⟨_, rfl⟩
  have hws : W0.heap.size = w.heap.size + 3 := by rw [← hW0]; simp
  have b0 : Boxed W0 w.heap.size 26 (.slice none 0 0) := by rw [← hW0]; exact ((Boxed.new w 26 (.slice none 0 0)).alloc _).alloc _
  have b1 : Boxed W0 (w.heap.size + 1) 79 (.slice (some ⟨g, 0, none⟩) M cap) := by
    rw [← hW0]
    have h := Boxed.new (w.alloc (.cells #[.slice none 0 0] 26)) 79 (.slice (some ⟨g, 0, none⟩) M cap)
    rw [World.size_alloc] at h
    exact h.alloc _
  have b2 : Boxed W0 (w.heap.size + 2) 3 (.int .i64 2) := by
    rw [← hW0]
    have h := Boxed.new ((w.alloc (.cells #[.slice none 0 0] 26)).alloc (.cells #[.slice (some ⟨g, 0, none⟩) M cap] 79)) 3 (.int .i64 2)
    rw [World.size_alloc, World.size_alloc] at h
    exact h
  have hB0 : Below w.heap.size w W0 := by rw [← hW0]; exact ba (ba (ba (Below.refl _ _) _) _) _
  rw [hW0]
  clear hW0
  have HWS := Lib.hid hws
  have HI := Lib.hid hi
  clear hi hrem
  refine wpIn_rangeV (n := 5) rfl (by omega) (gf := 160) (lb := #[.pointer (some ⟨w.heap.size + 1, 0, none⟩), .pointer (some ⟨w.heap.size + 1 + 1, 0, none⟩)]) rfl trivial (enters_of Tryz.func160 (by kernel_rfl) rfl)
    (encs := fun x => #[.slice (some ⟨g, 2 * x, none⟩) 2 2]) (U := w.heap.size) (V := w.heap.size + 1) (L := List.range m) (by rw [hws]; omega)
    (HSEQ.out W0 b1.cell b2.cell hws) (fun _ => rfl)
    (fun pre W => ∃ v, GatC w.heap.size W0.heap.size w W (zs.take pre.length) v) (gatC_own _ _ _ _ _ (by rw [hws]; omega) (by rw [hws]; omega))
    (fun s X v => by
      rintro ⟨u, h1, h2, h3⟩
      exact ⟨u, h1.other (by omega) _, World.ownsRow.kept h2 (row := some (w.heap.size + 1)) ⟨rfl, rfl, rfl, by simp [World.setCell], fun k _ hk => Below.heap_setCell _ _ _ _ (fun e => hk (by simp [e]))⟩ (.inr fun e => by have := (World.ownsRow.lt h2 _ e).1; omega), h3.setCell (by simp) _⟩)
    ⟨.slice none 0 0, b0, World.ownsRow_nil _ _ _ _, hB0⟩
    (fun x => { tmps := #[.pointer (some ⟨b, 0, none⟩), .slice (some ⟨g, 0, none⟩) M cap, undef, undef, .string ⟨#[]⟩, .bool false, .pointer (some ⟨w.heap.size, 0, none⟩), .slice (some ⟨g, 2 * x, none⟩) 2 2, .slice (some ⟨g, 0, none⟩) M cap, .int .i64 (M : Int), .int .i64 ((M : Int) % 2), .bool false, .slice (some ⟨g, 0, none⟩) M cap,
      .func (.func 160) #[] #[.pointer (some ⟨w.heap.size + 1, 0, none⟩), .pointer (some ⟨w.heap.size + 1 + 1, 0, none⟩)], .slice (some ⟨g, 2 * x, none⟩) 2 2, undef, undef, undef, undef, undef, undef, undef, undef, undef, undef, undef, undef, undef, undef, undef], defers := [] }) ?assign ?body ?done
  case assign =>
    intro lp x W K hK
    gi_wp2
    simpa using hK
  case body =>
    rintro lp pre x W hlp hW ⟨v, hb, ho, hl⟩ hpre
    obtain ⟨hxk, hxm⟩ : x = pre.length ∧ x < m := by
      have h1 := hpre.length_le
      rw [List.length_append, List.length_singleton, List.length_range] at h1
      have h2 := hpre.getElem (i := pre.length) (by simp)
      simp at h2
      omega
    subst hxk
    have hf : zs.take (pre ++ [pre.length]).length = zs.take pre.length ++ [(rAt zs pre.length, mAt zs pre.length)] := by
      have hzl := HMZ.out.1
      rw [List.length_append, List.length_singleton, List.take_succ_eq_append_getElem (by omega)]
      have hlt : pre.length < zs.length := by omega
      have e : zs[pre.length] = (rAt zs pre.length, mAt zs pre.length) := by simp [rAt, mAt, hlt]
      rw [e]
    obtain ⟨c0, c1⟩ := HCS.out _ hxm
    have d0 := keepc hl c0
    have d1 := keepc hl c1
    have hpl : (zs.take pre.length).length + 1 ≤ 100000 := by have := HMZ.out; rw [List.length_take]; omega
    obtain ⟨so, ln, co, w7, k4, k5, hrun, hc7, hf7, hend⟩ := cls_step (i := i0) HI.out hz0 hz1 hz2 (U := w.heap.size) (B0 := W0.heap.size) (by rw [HWS.out]; omega) hW hpl hb ho (Below.refl _ _) (rAt zs pre.length) (mAt zs pre.length)
    have hfin := fun a => cls_end (f := fun p : List Nat => zs.take p.length) (a := a) (by rw [HWS.out]; omega) (Nat.le_refl _) hend hf hW hl (Below.refl _ _) ho
    have HFIN := Lib.hid hfin
    have k6 : (W.alloc (.cells #[.int .i64 (rAt zs pre.length), .int .i64 (mAt zs pre.length)] 41)).drew.cell? ⟨w.heap.size, 0, none⟩ = some v := k5
    have d2 : W.drew.cell? ⟨g, 2 * pre.length, none⟩ = some (.int .i64 (rAt zs pre.length)) := d0
    have d3 : W.drew.cell? ⟨g, 2 * pre.length + 1, none⟩ = some (.int .i64 (mAt zs pre.length)) := d1
    clear hb ho hl b0 b1 b2 hpre hB0 hf c0 c1 d0 d1 hpl hend hfin hxm
    gi_wp2
    refine wpIn_region_any (by kernel_rfl) ?_
    refine anyIn_toRound (F := Fence.wide) rfl (no_defer (by kernel_rfl)) _ _ _ _ ?_
    refine wpAnyIn_take (i := 1) (v := ?_) rfl rfl (by kernel_rfl) (by kernel_rfl) (by kernel_rfl) (fun _ _ _ h => h) ⟨Or.inl ⟨by rfl, ?_⟩, fun _ => rfl⟩ ?_
    rotate_left
    · intro w; go_simp; first | done | with_reducible rfl
    refine wpAnyIn_take (i := 2) (v := ?_) rfl rfl (by kernel_rfl) (by kernel_rfl) (by kernel_rfl) (fun _ _ _ h => h) ⟨Or.inl ⟨by rfl, ?_⟩, fun _ => rfl⟩ ?_
    rotate_left
    · intro w; go_simp; first | done | with_reducible rfl
    refine wpAnyIn_take (i := 4) (v := ?_) rfl rfl (by kernel_rfl) (by kernel_rfl) (by kernel_rfl) (fun _ _ _ h => h) ⟨Or.inl ⟨by rfl, ?_⟩, fun _ => rfl⟩ ?_
    rotate_left
    · intro w; go_simp; first | done | with_reducible rfl
    refine wpAnyIn_take (i := 5) (v := ?_) rfl rfl (by kernel_rfl) (by kernel_rfl) (by kernel_rfl) (fun _ _ _ h => h) ⟨Or.inl ⟨by rfl, ?_⟩, fun _ => rfl⟩ ?_
    rotate_left
    · intro w; go_simp; first | done | with_reducible rfl
    refine wpAnyIn_ready (rs := [0, 3, 6]) (by kernel_rfl) (by simp) ?_
    refine (AllReadyIn.cons rfl (fun K hK => ?_) (AllReadyIn.cons rfl (fun K hK => ?_) (AllReadyIn.cons rfl (fun K hK => ?_) AllReadyIn.nil)))
    · go_simp
      refine hK _ _ ?_
      clear hK K
      refine wpAnyIn_ready (rs := [3, 6]) (by kernel_rfl) (by simp) ?_
      refine (AllReadyIn.cons rfl (fun K hK => ?_) (AllReadyIn.cons rfl (fun K hK => ?_) AllReadyIn.nil))
      · go_simp
        refine hK _ _ ?_
        clear hK K
        refine wpAnyIn_ready (rs := [6]) (by kernel_rfl) (by simp) ?_
        refine (AllReadyIn.cons rfl (fun K hK => ?_) AllReadyIn.nil)
        go_simp
        refine hK _ _ ?_
        clear hK K
        refine wpAnyIn_take (i := 7) (v := ?_) rfl rfl (by kernel_rfl) (by kernel_rfl) (by kernel_rfl) (fun _ _ _ h => h) ⟨Or.inl ⟨by rfl, ?_⟩, fun _ => rfl⟩ ?_
        rotate_left
        · intro w; go_simp; first | done | with_reducible rfl
        refine wpAnyIn_ready (rs := [8]) (by kernel_rfl) (by simp) ?_
        refine (AllReadyIn.cons rfl (fun K hK => ?_) AllReadyIn.nil)
        go_simp
        refine hK _ _ ?_
        clear hK K
        refine wpAnyIn_ready (rs := [9]) (by kernel_rfl) (by simp) ?_
        refine (AllReadyIn.cons rfl (fun K hK => ?_) AllReadyIn.nil)
        refine stepIn_append rfl (.tmp 15) (.tmp 23) 26 rfl hrun rfl rfl ?_
        refine hK _ _ ?_
        clear hK K
        refine wpAnyIn_ready (rs := [10]) (by kernel_rfl) (by simp) ?_
        refine (AllReadyIn.cons rfl (fun K hK => ?_) AllReadyIn.nil)
        go_simp
        refine hK _ _ ?_
        clear hK K
        refine wpAnyIn_done (by kernel_rfl) ?_ _
        exact HFIN.out ⟨#[], []⟩
      · go_simp
        refine hK _ _ ?_
        clear hK K
        refine wpAnyIn_ready (rs := [3]) (by kernel_rfl) (by simp) ?_
        refine (AllReadyIn.cons rfl (fun K hK => ?_) AllReadyIn.nil)
        go_simp
        refine hK _ _ ?_
        clear hK K
        refine wpAnyIn_take (i := 7) (v := ?_) rfl rfl (by kernel_rfl) (by kernel_rfl) (by kernel_rfl) (fun _ _ _ h => h) ⟨Or.inl ⟨by rfl, ?_⟩, fun _ => rfl⟩ ?_
        rotate_left
        · intro w; go_simp; first | done | with_reducible rfl
        refine wpAnyIn_ready (rs := [8]) (by kernel_rfl) (by simp) ?_
        refine (AllReadyIn.cons rfl (fun K hK => ?_) AllReadyIn.nil)
        go_simp
        refine hK _ _ ?_
        clear hK K
        refine wpAnyIn_ready (rs := [9]) (by kernel_rfl) (by simp) ?_
        refine (AllReadyIn.cons rfl (fun K hK => ?_) AllReadyIn.nil)
        refine stepIn_append rfl (.tmp 15) (.tmp 23) 26 rfl hrun rfl rfl ?_
        refine hK _ _ ?_
        clear hK K
        refine wpAnyIn_ready (rs := [10]) (by kernel_rfl) (by simp) ?_
        refine (AllReadyIn.cons rfl (fun K hK => ?_) AllReadyIn.nil)
        go_simp
        refine hK _ _ ?_
        clear hK K
        refine wpAnyIn_done (by kernel_rfl) ?_ _
        exact HFIN.out ⟨#[], []⟩
    · go_simp
      refine hK _ _ ?_
      clear hK K
      refine wpAnyIn_ready (rs := [0, 6]) (by kernel_rfl) (by simp) ?_
      refine (AllReadyIn.cons rfl (fun K hK => ?_) (AllReadyIn.cons rfl (fun K hK => ?_) AllReadyIn.nil))
      · go_simp
        refine hK _ _ ?_
        clear hK K
        refine wpAnyIn_ready (rs := [6]) (by kernel_rfl) (by simp) ?_
        refine (AllReadyIn.cons rfl (fun K hK => ?_) AllReadyIn.nil)
        go_simp
        refine hK _ _ ?_
        clear hK K
        refine wpAnyIn_take (i := 7) (v := ?_) rfl rfl (by kernel_rfl) (by kernel_rfl) (by kernel_rfl) (fun _ _ _ h => h) ⟨Or.inl ⟨by rfl, ?_⟩, fun _ => rfl⟩ ?_
        rotate_left
        · intro w; go_simp; first | done | with_reducible rfl
        refine wpAnyIn_ready (rs := [8]) (by kernel_rfl) (by simp) ?_
        refine (AllReadyIn.cons rfl (fun K hK => ?_) AllReadyIn.nil)
        go_simp
        refine hK _ _ ?_
        clear hK K
        refine wpAnyIn_ready (rs := [9]) (by kernel_rfl) (by simp) ?_
        refine (AllReadyIn.cons rfl (fun K hK => ?_) AllReadyIn.nil)
        refine stepIn_append rfl (.tmp 15) (.tmp 23) 26 rfl hrun rfl rfl ?_
        refine hK _ _ ?_
        clear hK K
        refine wpAnyIn_ready (rs := [10]) (by kernel_rfl) (by simp) ?_
        refine (AllReadyIn.cons rfl (fun K hK => ?_) AllReadyIn.nil)
        go_simp
        refine hK _ _ ?_
        clear hK K
        refine wpAnyIn_done (by kernel_rfl) ?_ _
        exact HFIN.out ⟨#[], []⟩
      · go_simp
        refine hK _ _ ?_
        clear hK K
        refine wpAnyIn_take (i := 7) (v := ?_) rfl rfl (by kernel_rfl) (by kernel_rfl) (by kernel_rfl) (fun _ _ _ h => h) ⟨Or.inl ⟨by rfl, ?_⟩, fun _ => rfl⟩ ?_
        rotate_left
        · intro w; go_simp; first | done | with_reducible rfl
        refine wpAnyIn_ready (rs := [0, 8]) (by kernel_rfl) (by simp) ?_
        refine (AllReadyIn.cons rfl (fun K hK => ?_) (AllReadyIn.cons rfl (fun K hK => ?_) AllReadyIn.nil))
        · go_simp
          refine hK _ _ ?_
          clear hK K
          refine wpAnyIn_ready (rs := [8]) (by kernel_rfl) (by simp) ?_
          refine (AllReadyIn.cons rfl (fun K hK => ?_) AllReadyIn.nil)
          go_simp
          refine hK _ _ ?_
          clear hK K
          refine wpAnyIn_ready (rs := [9]) (by kernel_rfl) (by simp) ?_
          refine (AllReadyIn.cons rfl (fun K hK => ?_) AllReadyIn.nil)
          refine stepIn_append rfl (.tmp 15) (.tmp 23) 26 rfl hrun rfl rfl ?_
          refine hK _ _ ?_
          clear hK K
          refine wpAnyIn_ready (rs := [10]) (by kernel_rfl) (by simp) ?_
          refine (AllReadyIn.cons rfl (fun K hK => ?_) AllReadyIn.nil)
          go_simp
          refine hK _ _ ?_
          clear hK K
          refine wpAnyIn_done (by kernel_rfl) ?_ _
          exact HFIN.out ⟨#[], []⟩
        · go_simp
          refine hK _ _ ?_
          clear hK K
          refine wpAnyIn_ready (rs := [0]) (by kernel_rfl) (by simp) ?_
          refine (AllReadyIn.cons rfl (fun K hK => ?_) AllReadyIn.nil)
          go_simp
          refine hK _ _ ?_
          clear hK K
          refine wpAnyIn_ready (rs := [9]) (by kernel_rfl) (by simp) ?_
          refine (AllReadyIn.cons rfl (fun K hK => ?_) AllReadyIn.nil)
          refine stepIn_append rfl (.tmp 15) (.tmp 23) 26 rfl hrun rfl rfl ?_
          refine hK _ _ ?_
          clear hK K
          refine wpAnyIn_ready (rs := [10]) (by kernel_rfl) (by simp) ?_
          refine (AllReadyIn.cons rfl (fun K hK => ?_) AllReadyIn.nil)
          go_simp
          refine hK _ _ ?_
          clear hK K
          refine wpAnyIn_done (by kernel_rfl) ?_ _
          exact HFIN.out ⟨#[], []⟩
    · go_simp
      refine hK _ _ ?_
      clear hK K
      refine wpAnyIn_ready (rs := [0, 3]) (by kernel_rfl) (by simp) ?_
      refine (AllReadyIn.cons rfl (fun K hK => ?_) (AllReadyIn.cons rfl (fun K hK => ?_) AllReadyIn.nil))
      · go_simp
        refine hK _ _ ?_
        clear hK K
        refine wpAnyIn_ready (rs := [3]) (by kernel_rfl) (by simp) ?_
        refine (AllReadyIn.cons rfl (fun K hK => ?_) AllReadyIn.nil)
        go_simp
        refine hK _ _ ?_
        clear hK K
        refine wpAnyIn_take (i := 7) (v := ?_) rfl rfl (by kernel_rfl) (by kernel_rfl) (by kernel_rfl) (fun _ _ _ h => h) ⟨Or.inl ⟨by rfl, ?_⟩, fun _ => rfl⟩ ?_
        rotate_left
        · intro w; go_simp; first | done | with_reducible rfl
        refine wpAnyIn_ready (rs := [8]) (by kernel_rfl) (by simp) ?_
        refine (AllReadyIn.cons rfl (fun K hK => ?_) AllReadyIn.nil)
        go_simp
        refine hK _ _ ?_
        clear hK K
        refine wpAnyIn_ready (rs := [9]) (by kernel_rfl) (by simp) ?_
        refine (AllReadyIn.cons rfl (fun K hK => ?_) AllReadyIn.nil)
        refine stepIn_append rfl (.tmp 15) (.tmp 23) 26 rfl hrun rfl rfl ?_
        refine hK _ _ ?_
        clear hK K
        refine wpAnyIn_ready (rs := [10]) (by kernel_rfl) (by simp) ?_
        refine (AllReadyIn.cons rfl (fun K hK => ?_) AllReadyIn.nil)
        go_simp
        refine hK _ _ ?_
        clear hK K
        refine wpAnyIn_done (by kernel_rfl) ?_ _
        exact HFIN.out ⟨#[], []⟩
      · go_simp
        refine hK _ _ ?_
        clear hK K
        refine wpAnyIn_take (i := 7) (v := ?_) rfl rfl (by kernel_rfl) (by kernel_rfl) (by kernel_rfl) (fun _ _ _ h => h) ⟨Or.inl ⟨by rfl, ?_⟩, fun _ => rfl⟩ ?_
        rotate_left
        · intro w; go_simp; first | done | with_reducible rfl
        refine wpAnyIn_ready (rs := [0, 8]) (by kernel_rfl) (by simp) ?_
        refine (AllReadyIn.cons rfl (fun K hK => ?_) (AllReadyIn.cons rfl (fun K hK => ?_) AllReadyIn.nil))
        · go_simp
          refine hK _ _ ?_
          clear hK K
          refine wpAnyIn_ready (rs := [8]) (by kernel_rfl) (by simp) ?_
          refine (AllReadyIn.cons rfl (fun K hK => ?_) AllReadyIn.nil)
          go_simp
          refine hK _ _ ?_
          clear hK K
          refine wpAnyIn_ready (rs := [9]) (by kernel_rfl) (by simp) ?_
          refine (AllReadyIn.cons rfl (fun K hK => ?_) AllReadyIn.nil)
          refine stepIn_append rfl (.tmp 15) (.tmp 23) 26 rfl hrun rfl rfl ?_
          refine hK _ _ ?_
          clear hK K
          refine wpAnyIn_ready (rs := [10]) (by kernel_rfl) (by simp) ?_
          refine (AllReadyIn.cons rfl (fun K hK => ?_) AllReadyIn.nil)
          go_simp
          refine hK _ _ ?_
          clear hK K
          refine wpAnyIn_done (by kernel_rfl) ?_ _
          exact HFIN.out ⟨#[], []⟩
        · go_simp
          refine hK _ _ ?_
          clear hK K
          refine wpAnyIn_ready (rs := [0]) (by kernel_rfl) (by simp) ?_
          refine (AllReadyIn.cons rfl (fun K hK => ?_) AllReadyIn.nil)
          go_simp
          refine hK _ _ ?_
          clear hK K
          refine wpAnyIn_ready (rs := [9]) (by kernel_rfl) (by simp) ?_
          refine (AllReadyIn.cons rfl (fun K hK => ?_) AllReadyIn.nil)
          refine stepIn_append rfl (.tmp 15) (.tmp 23) 26 rfl hrun rfl rfl ?_
          refine hK _ _ ?_
          clear hK K
          refine wpAnyIn_ready (rs := [10]) (by kernel_rfl) (by simp) ?_
          refine (AllReadyIn.cons rfl (fun K hK => ?_) AllReadyIn.nil)
          go_simp
          refine hK _ _ ?_
          clear hK K
          refine wpAnyIn_done (by kernel_rfl) ?_ _
          exact HFIN.out ⟨#[], []⟩
  case done =>
    rintro D W hD ⟨v, hb, ho, hl⟩ hK
    have hzl := HMZ.out
    rw [List.length_range, List.take_of_length_le (by omega)] at ho
    have hc := hb.cell
    obtain ⟨s, cp, rfl⟩ : ∃ s cp, v = .slice s m cp := by
      obtain ⟨s, cp, hv, _⟩ := OwnC.spread ho
      exact ⟨s, cp, by rw [hv, hzl.1]⟩
    have hbe := HBEC.out W s cp (OwnC.low ho (by rw [hws]; omega)) hl
    have HL := Lib.hid hl
    have hDW := (Array.getElem?_eq_some_iff.1 hK).1
    clear hb ho hl b0 b1 b2 hB0
    gi_wp2_with (refine ⟨trivial, ?_⟩; gi_at_call 94; refine (callsIn_wide.2 hbe).mono ?_; rintro e w2 ⟨rfl, hR2, hk2⟩)
    have hK2 : w2.heap[D]? = some (.deferred (some [])) := (hk2.block D hDW (by rw [hws] at hD; omega)).trans hK
    have hkf : KpB w.heap.size b w (w2.putObj D (.deferred none)) := by
      have h1 := (KpB.of_below (U := b) HL.out).trans (hk2.mono HL.out.size)
      refine ⟨h1.os, h1.tape, h1.output, by rw [World.putObj_size]; exact h1.size, fun k hk hkb => ?_⟩
      rw [World.putObj_heap_other (by rw [hws] at hD; omega)]
      exact h1.block k hk hkb
    refine ⟨by simp, .inl ⟨_, _, rfl, run_takeDeferred hK2, ?_⟩⟩
    refine ⟨.tuple #[.string t, .bool ok], ?_, ⟨rfl, hR _ _ hK2 hR2, hkf⟩⟩
    simp [results, Tryz.f46, go_sem]
theorem nsOf_at : ∀ (zs : List Cl) (i : Nat), i < zs.length → (ints (nsOf zs))[2 * i]?.getD 0 = ((rAt zs i).toNat : Int) ∧ (ints (nsOf zs))[2 * i + 1]?.getD 0 = ((mAt zs i).toNat : Int)
  | [], i, h => by simp at h
  | c :: t, 0, _ => by simp [nsOf, ints, rAt, mAt]
  | c :: t, i + 1, h => by
    have := nsOf_at t i (by simpa using h)
    rw [show 2 * (i + 1) = 2 * i + 1 + 1 by omega]
    simpa [nsOf, ints, rAt, mAt] using this
theorem c_wClasses (b B0 B1 g cap : Nat) (zs zs0 : List Cl) (hs : sysB zs = true) (hf : fitB zs) (w : World) (hB : Ben w b B0 zs0) (hO : OwnI w B1 3 (.slice (some ⟨g, 0, none⟩) (nsOf zs).length cap) (ints (nsOf zs))) (hw : B0 ≤ w.heap.size) :
    Calls Tryz.prog 46 #[.pointer (some ⟨b, 0, none⟩), .slice (some ⟨g, 0, none⟩) (nsOf zs).length cap] w fun e w' => e = .returned (.tuple #[.string ⟨#[111, 107]⟩, .bool true]) ∧ Ben w' b B0 zs ∧ KpB w.heap.size b w w' := by
  obtain ⟨u, h1, _⟩ := hB
  obtain ⟨l1, l2, _⟩ := sysB_facts hs
  rw [nsOf_length] at hO ⊢
  refine c_gather ⟨#[111, 107]⟩ true b B1 g zs.length cap (ints (nsOf zs)) zs rfl (by omega) l1 (fun i hi => ?_) w hO h1.lt (fun W => Ben W b B0 zs) (fun W D hD hR => ?_) (fun W s cp hOc hb => ?_)
  · obtain ⟨e1, e2⟩ := nsOf_at zs i hi
    obtain ⟨f1, f2, f3, f4⟩ := hf i hi
    rw [e1, e2]
    exact ⟨by omega, by omega⟩
  · obtain ⟨v, k1, k2⟩ := hR
    refine ⟨v, (World.putObj_heap_other (fun e => ?_)).trans k1, World.ownsRow.kept k2 (grownBy_putObj' W D (.deferred none)) ?_⟩
    · subst e
      have k1' : W.heap[b]? = _ := k1
      rw [hD] at k1'
      simp at k1'
    · rcases k2.2 with ⟨e, _⟩ | ⟨g', cap', cur, e, _, hh, _⟩
      · rw [e]; exact .inl rfl
      · rw [e]
        refine .inr fun e2 => ?_
        simp only [Value.ownBlock, Option.some.injEq] at e2
        subst e2
        rw [hh] at hD
        cases hD
  · exact c_become b B0 u s zs.length cp zs hs (by omega) rfl W ((hb.block b h1.lt).trans h1) (hOc.low hw)
end Go.Proofs.YtonecelkkeakiaaGreatDoor
