/- Chapter 8: all numbers of a line. -/
import Derived.Test.YtonecelkkeakiaaGreatDoorZg
import Derived.Stop.RegionWithIn
import Derived.Maps.AppendAt
import Derived.Laws.AppendOwn
namespace Go.Proofs.YtonecelkkeakiaaGreatDoor
open Go.RowKit Go.Shelf
attribute [local go_sem] Oper.semAt_some
theorem int_info : (Tryz.prog.info? 3).map (fun i => (i.zero, i.size, i.bytes)) = some (some (.int .i64 0), 1, 8) := by kernel_rfl
/-- numbers as whole numbers -/
def ints (ns : List Nat) : List Int := ns.map fun (n : Nat) => (n : Int)
/-- what is gathered -/
structure Gat (U B0 : Nat) (w W : World) (pre : List Nat) (v : Value) : Prop where
  box : Boxed W U 79 v
  own : OwnI W B0 3 v (ints pre)
  low : Below w.heap.size w W
theorem gat_own (U B0 B1 : Nat) (w : World) (hU : U < B1) (hw : w.heap.size ≤ B1) : OwnFrom B1 (fun pre W => ∃ v, Gat U B0 w W pre v) := by
  rintro s X Y row ⟨v, h1, h2, h3⟩ hg hr
  refine ⟨v, h1.kept hg (fun e => by have := (hr _ e.symm).1; omega), ?_, h3.trans ⟨hg.os, hg.tape, hg.output, hg.size, fun k hk => ?_⟩⟩
  · refine World.ownsRow.kept h2 hg ?_
    rcases h2.2 with ⟨h1, _⟩ | ⟨g, cap, cur, h1, _, hh, _⟩
    · rw [h1]; exact .inl rfl
    · rw [h1]
      refine .inr fun e => ?_
      obtain ⟨o, ho, hc⟩ := (hr g e.symm).2
      rw [hh] at ho
      cases ho
      cases hc
  · by_cases hl : k < X.heap.size
    · exact hg.block k hl (fun e => by have := (hr _ e.symm).1; omega)
    · have := h3.size
      omega
theorem one_new (W : World) (x : Value) (t : TypeId) : ∀ (j : Nat) u, ([x] : List Value)[j]? = some u → (W.alloc (.cells #[x] t)).cell? ((⟨W.heap.size, 0, none⟩ : Addr).add j) = some u := by
  intro j u hj
  match j, hj with
  | 0, hj => simp at hj; subst hj; simp [Addr.add]
  | j + 1, hj => simp at hj
/-- one more number is gathered -/
theorem told_step {i : TypeInfo} (hi : Tryz.prog.info? 3 = some i) (hz0 : i.zero = some (.int .i64 0)) (hz1 : i.size = 1) (hz2 : i.bytes = 8) {U B0 : Nat} {W w4 : World} {v : Value} {pre : List Nat} (hU : U < B0) (hW : B0 ≤ W.heap.size) (hpl : pre.length + 1 ≤ 100000)
    (hb : Boxed W U 79 v) (ho : OwnI W B0 3 v (ints pre)) (hB : Below W.drew.heap.size W.drew w4) (x : Nat) :
    ∃ so ln co w7, w4.cell? ⟨U, 0, none⟩ = some v ∧ (w4.alloc (.cells #[.int .i64 (x : Int)] 3)).cell? ⟨U, 0, none⟩ = some v ∧
      (Builtin.append_ #[79, 79] 79 #[v, .slice (some ⟨w4.heap.size, 0, none⟩) 1 1]).run Tryz.prog (w4.alloc (.cells #[.int .i64 (x : Int)] 3)) = .ok (.slice so ln co) w7 ∧ w7.cell? ⟨U, 0, none⟩ = some v ∧ w7.frozen? ⟨U, 0, none⟩ = false ∧
      (Boxed (w7.setCell ⟨U, 0, none⟩ (.slice so ln co)) U 79 (.slice so ln co) ∧ OwnI (w7.setCell ⟨U, 0, none⟩ (.slice so ln co)) B0 3 (.slice so ln co) (ints (pre ++ [x])) ∧ w4.grownBy w7 v.ownBlock) := by
  have hBW : Below W.heap.size W w4 := (Below.refl _ W).drew.trans hB
  have hb4 : Boxed w4 U 79 v := (hBW.block U hb.lt).trans hb
  have ho4 : OwnI w4 B0 3 v (ints pre) := OwnI.keep ho hBW
  have hs4 := hBW.size
  have hla : (ints pre).length = pre.length := by simp [ints]
  obtain ⟨v7, w7, hrun, r1, r2, _⟩ := run_append_own (P := Tryz.prog) (w4.alloc (.cells #[.int .i64 (x : Int)] 3)) B0 79 79 3 i (.int .i64 0) 1 8 Tryz.underlying79 hi hz0 hz1 hz2 rfl (by decide) v (ints pre).length _ (World.ownsRow.alloc (show World.ownsRow _ _ _ _ _ _ _ from ho4) _) ⟨w4.heap.size, 0, none⟩ 1 1 [.int .i64 (x : Int)] rfl (one_new w4 _ _) (by simp [Value.oneCell']) (by unfold maxLen; omega) (by omega) (by simp; omega)
  obtain ⟨so, ln, co, rfl⟩ : ∃ so ln co, v7 = .slice so ln co := by
    rcases r1.2 with ⟨h, _⟩ | ⟨g, cap, cur, h, _⟩
    · exact ⟨_, _, _, h⟩
    · exact ⟨_, _, _, h⟩
  have hne : some U ≠ v.ownBlock := fun e => by have := (World.ownsRow.lt ho4 U e.symm).1; omega
  have hb5 : Boxed (w4.alloc (.cells #[.int .i64 (x : Int)] 3)) U 79 v := hb4.alloc _
  have hb7 : Boxed w7 U 79 v := hb5.kept r2 hne
  have hg : w4.grownBy w7 v.ownBlock := ⟨r2.os, r2.tape, r2.output, Nat.le_trans (by simp) r2.size, fun k hk hr => (r2.block k (by simp; omega) hr).trans (Below.heap_alloc _ _ _ hk)⟩
  refine ⟨so, ln, co, w7, hb4.cell, hb5.cell, hrun, hb7.cell, hb7.frozen, Boxed.set _ hb7, ?_, hg⟩
  have e : ints (pre ++ [x]) = ints pre ++ [(x : Int)] := by simp [ints]
  unfold OwnI
  rw [e, List.length_append, List.map_append]
  refine World.ownsRow.kept r1 (row := some U) ⟨rfl, rfl, rfl, by simp [World.setCell], fun k _ hk => Below.heap_setCell _ _ _ _ (fun e => hk (by simp [e]))⟩ (.inr fun e => ?_)
  have := (World.ownsRow.lt r1 U e).1
  omega
theorem stepIn_append {F : Fence} {n : Nat} {P : Program} {ops : Array Oper} {o : Oper} {a : Act} {w w7 : World} {K : Act → World → Prop} {Q : Exit → Act → World → Prop} {E : Prop} {v xv v7 : Value}
    (hg : o.guard = none) (s x : Operand) (t : TypeId) (hop : o.op = .call { callee := .builtin .append, args := #[s, x], argTypes := #[t, t] }) (hrun : (Builtin.append_ #[t, t] o.type #[v, xv]).run P w = .ok v7 w7) (hs : a.eval s = v) (hx : a.eval x = xv) (hK : K (a.put o.dst v7) w7) :
    if Region.wanted o (yielded ops a.tmps) = true then Oper.wpIn F n P o a w K Q else E := by
  have hw : Region.wanted o (yielded ops a.tmps) = true := by simp [Region.wanted, hg]
  rw [if_pos hw]
  unfold Oper.wpIn
  refine ⟨?_, ?_⟩
  · simp [Oper.about, hop, resolve, Target.leads, Sem.run_pure]
  · rw [Oper.semAt_plain F _ _ (by rw [hop]; intro c hc'; cases hc')]
    simp [execOp, hop, resolve, invoke, builtin, hs, hx, hrun, Result.andThen]
    exact hK
theorem told_end {U B0 : Nat} {w W w4 w7 : World} {v v7 : Value} {pre : List Nat} {x : Nat} {a : Act} (hU : U < B0) (hUw : w.heap.size ≤ U)
    (h : Boxed (w7.setCell ⟨U, 0, none⟩ v7) U 79 v7 ∧ OwnI (w7.setCell ⟨U, 0, none⟩ v7) B0 3 v7 (ints (pre ++ [x])) ∧ w4.grownBy w7 v.ownBlock) (hW : B0 ≤ W.heap.size) (hl : Below w.heap.size w W) (hB : Below W.drew.heap.size W.drew w4) (ho : OwnI W B0 3 v (ints pre)) :
    postV B0 U B0 (fun pre W => ∃ v, Gat U B0 w W pre v) (pre ++ [x]) W .normal a (w7.setCell ⟨U, 0, none⟩ v7) := by
  obtain ⟨h1, h2, h3⟩ := h
  have hBW : Below W.heap.size W w4 := (Below.refl _ W).drew.trans hB
  have hs := hBW.size
  have h3s := h3.size
  have hset : ∀ k, k ≠ U → (w7.setCell ⟨U, 0, none⟩ v7).heap[k]? = w7.heap[k]? := fun k hk => Below.heap_setCell _ _ _ _ hk
  have hsz : (w7.setCell ⟨U, 0, none⟩ v7).heap.size = w7.heap.size := by simp [World.setCell]
  have hvb : ∀ k, some k = v.ownBlock → B0 ≤ k := fun k e => (World.ownsRow.lt ho k e.symm).1
  refine ⟨⟨by omega, fun k o hk ho' hc => ?_⟩, ⟨by omega, fun k hk hkU => ?_⟩, v7, h1, h2, ?_⟩
  · have hkl := (Array.getElem?_eq_some_iff.1 ho').1
    have hne : some k ≠ v.ownBlock := by
      rcases ho.2 with ⟨e, _⟩ | ⟨g, cap, cur, e, _, hh, _⟩
      · rw [e]; simp [Value.ownBlock]
      · rw [e]
        intro e2
        simp only [Value.ownBlock, Option.some.injEq] at e2
        subst e2
        rw [hh] at ho'
        cases ho'
        cases hc
    rw [hset k (by omega), h3.block k (by omega) hne, hBW.block k hkl]
    exact ho'
  · have hne : some k ≠ v.ownBlock := fun e => by have := hvb k e; omega
    rw [hset k hkU, h3.block k (by omega) hne, hBW.block k (by omega)]
  · exact ((hl.trans (hBW.mono hl.size)).grown h3 (by have := hl.size; omega) (fun k e => by have := hvb k e.symm; omega)).setCell (p := ⟨U, 0, none⟩) hUw _
set_option maxRecDepth 100000 in
set_option maxHeartbeats 4000000 in
theorem c_numbersTold (ns : List Nat) (hne : ns ≠ []) (hsz : (line ns).size ≤ 100000) (hlt : ∀ n ∈ ns, n < 10000) (hln : ns.length ≤ 100000) (w : World) :
    Calls Tryz.prog 129 #[.string (line ns)] w fun e w' => ∃ g cap, e = .returned (.slice (some ⟨g, 0, none⟩) ns.length cap) ∧ OwnI w' w.heap.size 3 (.slice (some ⟨g, 0, none⟩) ns.length cap) (ints ns) ∧ Below w.heap.size w w' := by
  obtain ⟨i0, hi, hz⟩ := Option.map_eq_some_iff.1 int_info
  have hz0 : i0.zero = some (.int .i64 0) := congrArg (·.1) hz
  have hz1 : i0.size = 1 := congrArg (·.2.1) hz
  have hz2 : i0.bytes = 8 := congrArg (·.2.2) hz
  clear hz
  refine (callsIn_wide (n := 5)).1 ?_
  refine callsIn_of_wp_marks Tryz.func129 rfl trivial ?_ rfl
  simp only [Tryz.ntmps129, List.size_toArray, List.length_cons, List.length_nil, Nat.reduceAdd, Nat.reduceSub, Array.replicate_succ, Array.replicate_zero, List.push_toArray, List.append_toArray, List.nil_append, List.cons_append]
  gi_wp2_with (refine ⟨trivial, ?_⟩; gi_at_call 195; refine (callsIn_wide.2 (c_SplitSeq _ _ _)).mono ?_; rintro e w1 ⟨rfl, rfl⟩)
  obtain ⟨W0, hW0⟩ : ∃ W0, (((w.alloc (.cells #[.slice none 0 0] 79)).alloc (.cells #[.string (line ns)] 9)).alloc (.cells #[.string ⟨#[32]⟩] 9)).alloc (.cells #[.int .i64 0] 3) = W0 := ⟨_, rfl⟩
  have hws : W0.heap.size = w.heap.size + 4 := by rw [← hW0]; simp
  have b0 : Boxed W0 w.heap.size 79 (.slice none 0 0) := by rw [← hW0]; exact (((Boxed.new w 79 (.slice none 0 0)).alloc _).alloc _).alloc _
  have b1 : Boxed W0 (w.heap.size + 1) 9 (.string (line ns)) := by
    rw [← hW0]
    have h := Boxed.new (w.alloc (.cells #[.slice none 0 0] 79)) 9 (.string (line ns))
    rw [World.size_alloc] at h
    exact (h.alloc _).alloc _
  have b2 : Boxed W0 (w.heap.size + 2) 9 (.string ⟨#[32]⟩) := by
    rw [← hW0]
    have h := Boxed.new ((w.alloc (.cells #[.slice none 0 0] 79)).alloc (.cells #[.string (line ns)] 9)) 9 (.string ⟨#[32]⟩)
    rw [World.size_alloc, World.size_alloc] at h
    exact h.alloc _
  have b3 : Boxed W0 (w.heap.size + 3) 3 (.int .i64 0) := by
    rw [← hW0]
    have h := Boxed.new (((w.alloc (.cells #[.slice none 0 0] 79)).alloc (.cells #[.string (line ns)] 9)).alloc (.cells #[.string ⟨#[32]⟩] 9)) 3 (.int .i64 0)
    rw [World.size_alloc, World.size_alloc, World.size_alloc] at h
    exact h
  have hB0 : Below w.heap.size w W0 := by rw [← hW0]; exact ba (ba (ba (ba (Below.refl _ _) _) _) _) _
  rw [hW0]
  clear hW0
  have HWS := Lib.hid hws
  have HI := Lib.hid hi
  clear hi
  refine wpIn_rangeV rfl (by omega) (gf := 297) (lb := #[.pointer (some ⟨w.heap.size + 1 + 1, 0, none⟩), .pointer (some ⟨w.heap.size + 1, 0, none⟩), .pointer (some ⟨w.heap.size + 1 + 1 + 1, 0, none⟩)]) rfl trivial (enters_of Tryz.func297 (by kernel_rfl) rfl)
    (encs := fun x => #[.string (txt x)]) (U := w.heap.size) (V := w.heap.size + 1) (L := ns) (by rw [hws]; omega)
    (split_seqV _ (by omega) ns hne hsz (w.heap.size + 2) (w.heap.size + 1) (w.heap.size + 3) w.heap.size W0 (by rw [hws]; omega) (by rw [hws]; omega) (by rw [hws]; omega) (by omega) (by omega) (by omega) (by omega) (by omega) ⟨b1, b2.cell, b3.cell⟩) (fun _ => rfl)
    (fun pre W => ∃ v, Gat w.heap.size W0.heap.size w W pre v) (gat_own _ _ _ _ (by rw [hws]; omega) (by rw [hws]; omega))
    (fun s X v => by
      rintro ⟨u, h1, h2, h3⟩
      exact ⟨u, h1.other (by omega) _, World.ownsRow.kept h2 (row := some (w.heap.size + 1)) ⟨rfl, rfl, rfl, by simp [World.setCell], fun k _ hk => Below.heap_setCell _ _ _ _ (fun e => hk (by simp [e]))⟩ (.inr fun e => by have := (World.ownsRow.lt h2 _ e).1; omega), h3.setCell (by simp) _⟩)
    ⟨.slice none 0 0, b0, World.ownsRow_nil _ _ _ _, hB0⟩
    (fun x => { tmps := #[.string (line ns), undef, .slice none 0 0, .pointer (some ⟨w.heap.size, 0, none⟩), .string (txt x), .string (line ns), .func (.func 297) #[] #[.pointer (some ⟨w.heap.size + 1 + 1, 0, none⟩), .pointer (some ⟨w.heap.size + 1, 0, none⟩), .pointer (some ⟨w.heap.size + 1 + 1 + 1, 0, none⟩)], .string (txt x), undef, undef, undef, undef, undef, undef], defers := [] }) ?assign ?body ?done
  case assign =>
    intro lp x W K hK
    gi_wp2
    simpa using hK
  case body =>
    rintro lp pre x W hlp hW ⟨v, hb, ho, hl⟩ hpre
    have hx : x < 10000 := hlt x (hpre.subset (by simp))
    have hpl : pre.length + 1 ≤ 100000 := by have := hpre.length_le; rw [List.length_append, List.length_singleton] at this; omega
    have hbs : w.heap.size < W.heap.size := hb.lt
    have hc := hb.cell
    have hf := hb.frozen
    have HB := Lib.hid hb
    have HO := Lib.hid ho
    have HL := Lib.hid hl
    have HLT := Lib.hid hlt
    have HSZ := Lib.hid hsz
    have HB0 := Lib.hid b0
    clear hb ho hl hlt hsz b0 b1 b2 b3 hpre hB0 hne
    gi_wp2
    refine wpIn_region_any (by kernel_rfl) ?_
    refine wpAnyIn_ready (rs := [0, 1]) (by kernel_rfl) (by simp) ?_
    refine AllReadyIn.cons rfl (fun K hK => ?_) (AllReadyIn.cons rfl (fun K hK => ?_) AllReadyIn.nil)
    · go_simp
      refine hK _ _ ?_
      clear hK K
      refine wpAnyIn_ready (rs := [1]) (by kernel_rfl) (by simp) ?_
      refine AllReadyIn.cons rfl (fun K hK => ?_) AllReadyIn.nil
      go_simp
      refine hK _ _ ?_
      clear hK K
      refine wpAnyIn_ready (rs := [2]) (by kernel_rfl) (by simp) ?_
      refine AllReadyIn.cons rfl (fun K hK => ?_) AllReadyIn.nil
      go_simp
      gi_wp2_with (refine ⟨trivial, ?_⟩; gi_at_call 196; refine (CallsIn.inRound lp (callsIn_wide.2 (c_numberTold x hx _))).mono ?_; rintro e w4 ⟨rfl, hB4⟩; obtain ⟨so, ln, co, w7, k4, k5, hrun, hc7, hf7, hend⟩ := told_step (i := i0) HI.out hz0 hz1 hz2 (by rw [HWS.out] at hW ⊢; omega) hW hpl HB.out HO.out hB4 x)
      refine wpAnyIn_ready (rs := [3]) (by kernel_rfl) (by simp) ?_
      refine AllReadyIn.cons rfl (fun K hK => ?_) AllReadyIn.nil
      go_simp
      refine hK _ _ ?_
      clear hK K
      refine wpAnyIn_ready (rs := [4]) (by kernel_rfl) (by simp) ?_
      refine AllReadyIn.cons rfl (fun K hK => ?_) AllReadyIn.nil
      refine stepIn_append rfl (.tmp 8) (.tmp 11) 79 rfl hrun rfl rfl ?_
      refine hK _ _ ?_
      clear hK K
      refine wpAnyIn_ready (rs := [5]) (by kernel_rfl) (by simp) ?_
      refine AllReadyIn.cons rfl (fun K hK => ?_) AllReadyIn.nil
      go_simp
      refine hK _ _ ?_
      clear hK K
      refine wpAnyIn_done (by kernel_rfl) ?_ _
      exact told_end (a := ⟨#[], []⟩) (by rw [HWS.out]; omega) (Nat.le_refl _) hend hW HL.out hB4 HO.out
    · go_simp
      refine hK _ _ ?_
      clear hK K
      refine wpAnyIn_ready (rs := [0, 2]) (by kernel_rfl) (by simp) ?_
      refine AllReadyIn.cons rfl (fun K hK => ?_) (AllReadyIn.cons rfl (fun K hK => ?_) AllReadyIn.nil)
      · go_simp
        refine hK _ _ ?_
        clear hK K
        refine wpAnyIn_ready (rs := [2]) (by kernel_rfl) (by simp) ?_
        refine AllReadyIn.cons rfl (fun K hK => ?_) AllReadyIn.nil
        go_simp
        gi_wp2_with (refine ⟨trivial, ?_⟩; gi_at_call 196; refine (CallsIn.inRound lp (callsIn_wide.2 (c_numberTold x hx _))).mono ?_; rintro e w4 ⟨rfl, hB4⟩; obtain ⟨so, ln, co, w7, k4, k5, hrun, hc7, hf7, hend⟩ := told_step (i := i0) HI.out hz0 hz1 hz2 (by rw [HWS.out] at hW ⊢; omega) hW hpl HB.out HO.out hB4 x)
        refine wpAnyIn_ready (rs := [3]) (by kernel_rfl) (by simp) ?_
        refine AllReadyIn.cons rfl (fun K hK => ?_) AllReadyIn.nil
        go_simp
        refine hK _ _ ?_
        clear hK K
        refine wpAnyIn_ready (rs := [4]) (by kernel_rfl) (by simp) ?_
        refine AllReadyIn.cons rfl (fun K hK => ?_) AllReadyIn.nil
        refine stepIn_append rfl (.tmp 8) (.tmp 11) 79 rfl hrun rfl rfl ?_
        refine hK _ _ ?_
        clear hK K
        refine wpAnyIn_ready (rs := [5]) (by kernel_rfl) (by simp) ?_
        refine AllReadyIn.cons rfl (fun K hK => ?_) AllReadyIn.nil
        go_simp
        refine hK _ _ ?_
        clear hK K
        refine wpAnyIn_done (by kernel_rfl) ?_ _
        exact told_end (a := ⟨#[], []⟩) (by rw [HWS.out]; omega) (Nat.le_refl _) hend hW HL.out hB4 HO.out
      · go_simp
        gi_wp2_with (refine ⟨trivial, ?_⟩; gi_at_call 196; refine (CallsIn.inRound lp (callsIn_wide.2 (c_numberTold x hx _))).mono ?_; rintro e w4 ⟨rfl, hB4⟩; obtain ⟨so, ln, co, w7, k4, k5, hrun, hc7, hf7, hend⟩ := told_step (i := i0) HI.out hz0 hz1 hz2 (by rw [HWS.out] at hW ⊢; omega) hW hpl HB.out HO.out hB4 x)
        refine wpAnyIn_ready (rs := [0, 3]) (by kernel_rfl) (by simp) ?_
        refine AllReadyIn.cons rfl (fun K hK => ?_) (AllReadyIn.cons rfl (fun K hK => ?_) AllReadyIn.nil)
        · go_simp
          refine hK _ _ ?_
          clear hK K
          refine wpAnyIn_ready (rs := [3]) (by kernel_rfl) (by simp) ?_
          refine AllReadyIn.cons rfl (fun K hK => ?_) AllReadyIn.nil
          go_simp
          refine hK _ _ ?_
          clear hK K
          refine wpAnyIn_ready (rs := [4]) (by kernel_rfl) (by simp) ?_
          refine AllReadyIn.cons rfl (fun K hK => ?_) AllReadyIn.nil
          refine stepIn_append rfl (.tmp 8) (.tmp 11) 79 rfl hrun rfl rfl ?_
          refine hK _ _ ?_
          clear hK K
          refine wpAnyIn_ready (rs := [5]) (by kernel_rfl) (by simp) ?_
          refine AllReadyIn.cons rfl (fun K hK => ?_) AllReadyIn.nil
          go_simp
          refine hK _ _ ?_
          clear hK K
          refine wpAnyIn_done (by kernel_rfl) ?_ _
          exact told_end (a := ⟨#[], []⟩) (by rw [HWS.out]; omega) (Nat.le_refl _) hend hW HL.out hB4 HO.out
        · go_simp
          refine hK _ _ ?_
          clear hK K
          refine wpAnyIn_ready (rs := [0]) (by kernel_rfl) (by simp) ?_
          refine AllReadyIn.cons rfl (fun K hK => ?_) AllReadyIn.nil
          go_simp
          refine hK _ _ ?_
          clear hK K
          refine wpAnyIn_ready (rs := [4]) (by kernel_rfl) (by simp) ?_
          refine AllReadyIn.cons rfl (fun K hK => ?_) AllReadyIn.nil
          refine stepIn_append rfl (.tmp 8) (.tmp 11) 79 rfl hrun rfl rfl ?_
          refine hK _ _ ?_
          clear hK K
          refine wpAnyIn_ready (rs := [5]) (by kernel_rfl) (by simp) ?_
          refine AllReadyIn.cons rfl (fun K hK => ?_) AllReadyIn.nil
          go_simp
          refine hK _ _ ?_
          clear hK K
          refine wpAnyIn_done (by kernel_rfl) ?_ _
          exact told_end (a := ⟨#[], []⟩) (by rw [HWS.out]; omega) (Nat.le_refl _) hend hW HL.out hB4 HO.out
  case done =>
    rintro D W hD ⟨v, hb, ho, hl⟩ hK
    have hc := hb.cell
    obtain ⟨g, cap, rfl⟩ : ∃ g cap, v = .slice (some ⟨g, 0, none⟩) ns.length cap := by
      rcases OwnI.cases ho with ⟨_, h⟩ | ⟨g, cap, h, _⟩
      · exfalso
        have := congrArg List.length h
        simp [ints] at this
        exact hne this
      · refine ⟨g, cap, ?_⟩
        rw [h]
        simp [ints]
    have hgD : g ≠ D := by
      rcases ho.2 with ⟨e, _⟩ | ⟨g', cap', cur, e, _, hh, _⟩
      · cases e
      · simp only [Value.slice.injEq, Option.some.injEq, Addr.mk.injEq, and_true] at e
        obtain ⟨rfl, _⟩ := e
        rintro rfl
        rw [hh] at hK
        cases hK
    have HO2 := Lib.hid (show OwnI (W.putObj D (.deferred none)) w.heap.size 3 (.slice (some ⟨g, 0, none⟩) ns.length cap) (ints ns) from
      OwnI.low (World.ownsRow.kept ho (grownBy_putObj' W D (.deferred none)) (.inr fun e => hgD (by simpa [Value.ownBlock] using e))) (by rw [hws]; omega))
    have HBW := Lib.hid (hl.trans (belowK_b (w := w) (Nat.le_refl _) W D _ (.deferred none) (by rw [hws] at hD; omega) hK rfl rfl))
    clear hb ho hl hlt hsz b0 b1 b2 b3 hB0 hgD
    gi_wp2
    refine ⟨by simp, .inl ⟨_, _, rfl, run_takeDeferred hK, ?_⟩⟩
    refine ⟨.slice (some ⟨g, 0, none⟩) ns.length cap, ?_, ⟨g, cap, rfl, HO2.out, HBW.out⟩⟩
    simp [results, Tryz.f129, go_sem]
end Go.Proofs.YtonecelkkeakiaaGreatDoor
