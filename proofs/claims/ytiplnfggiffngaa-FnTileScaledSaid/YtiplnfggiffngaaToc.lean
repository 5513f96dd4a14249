/- Chapter 7: the program's TileCount and TileFind. -/
import Derived.Test.YtiplnfggiffngaaTob
import Derived.Test.YtiplnfggiffngaaTm
import Derived.Test.YtiplnfggiffngaaR2a
import Derived.Test.YtiplnfggiffngaaS5
namespace Go.Proofs.Ytiplnfggiffngaa
open Go.RowKit Go.Shelf
attribute [local go_sem] Oper.semAt_some
theorem kpU_set (U l : Nat) (W : World) (v : Value) : KpU U l W (W.setCell ⟨U, 0, none⟩ v) := ⟨by simp [World.setCell], fun k _ hU _ => Below.heap_setCell _ _ _ _ hU⟩
theorem cell_last2 (w : World) (A B : Obj) (v : Value) (t : TypeId) : (((w.alloc A).alloc B).alloc (.cells #[v] t)).cell? ⟨w.heap.size + 1 + 1, 0, none⟩ = some v := by
  have h := World.cell?_alloc_new (w := (w.alloc A).alloc B) #[v] t 0
  rw [World.size_alloc, World.size_alloc] at h
  exact h
theorem c_implSeconds (N : Int) (s : Option Addr) (l cap : Nat) (w : World) : Calls Try.prog 20 #[.int .i64 N, .slice s l cap] w fun e w' => e = .returned (.func (.func 36) #[] #[.pointer (some ⟨w.heap.size, 0, none⟩), .pointer (some ⟨w.heap.size + 1, 0, none⟩)]) ∧ w' = (w.alloc (.cells #[.int .i64 N] 3)).alloc (.cells #[.slice s l cap] 40) := by
  go_enter Try.func20, Try.ntmps20
  go_wp2_with fail
  go_ret
  exact ⟨rfl, rfl⟩
theorem sec_stops (n : Nat) (hn : 1 ≤ n) (N : Nat) (a : List Int) (hT : Til (N : Int) a) (C A U : Nat) (s : Option Addr) (ln cap0 : Nat) (w : World) (hU : U < w.heap.size) (hc : w.cell? ⟨C, 0, none⟩ = some (.int .i64 (N : Int))) (ha : w.cell? ⟨A, 0, none⟩ = some (.slice s ln cap0)) (hz : Ints w s ln a) :
    SeqM Fence.wide n Try.prog 36 #[.pointer (some ⟨C, 0, none⟩), .pointer (some ⟨A, 0, none⟩)] encT RwT U (SAll N a) (SPart N a) (allS N a).length w := fun l J Jx W hW _ hl hJ hY h0 =>
  callsIn_wide.2 (sec_in n hn N a hT l C A U _ s ln cap0 J Jx W (Nat.lt_of_lt_of_le hU hW.size) hl hJ (Nat.le_refl _) hY (keepc hW hc) (keepc hW ha) (hz.keep hW) h0)
set_option maxRecDepth 100000 in
set_option maxHeartbeats 4000000 in
theorem c_implCount1 (N : Nat) (s : Option Addr) (l cap : Nat) (a : List Int) (hT : Til (N : Int) a) (hl : l ≤ 1048576) (w : World) (hz : Ints w s l a) : Calls Try.prog 10 #[.int .i64 (N : Int), .slice s l cap] w fun e w' => e = .returned (.tuple #[.int .i64 ((allS N a).length : Int), .bool true]) ∧ Below w.heap.size w w' := by
  have hB := tilB_t.2 hT
  refine (callsIn_wide (n := 5)).1 ?_
  refine callsIn_of_wp_marks Try.func10 rfl trivial ?_ rfl
  simp only [Try.ntmps10, List.size_toArray, List.length_cons, List.length_nil, Nat.reduceAdd, Nat.reduceSub, Array.replicate_succ, Array.replicate_zero, List.push_toArray, List.append_toArray, List.nil_append, List.cons_append]
  gi_wp2_with (refine ⟨trivial, ?_⟩; first
    | (gi_at_call 19; refine (callsIn_wide.2 (c_implTileIn _ _ _ _ a hl _ hz)).mono ?_; rintro e w1 ⟨rfl, hB1⟩)
    | (gi_at_call 20; refine (callsIn_wide.2 (c_implSeconds _ _ _ _ _)).mono ?_; rintro e w2 ⟨rfl, rfl⟩))
  have hM : (allS N a).length < 100000 := by rw [allS_length]; exact allT_cnt hT
  obtain ⟨W0, hW0⟩ : ∃ W0, ((w1.alloc (.cells #[.int .i64 0] 3)).alloc (.cells #[.int .i64 (N : Int)] 3)).alloc (.cells #[.slice s l cap] 40) = W0 := ⟨_, rfl⟩
  have hsz : W0.heap.size = w1.heap.size + 3 := by rw [← hW0]; simp
  have b0 : Boxed W0 w1.heap.size 3 (.int .i64 0) := by rw [← hW0]; exact ((Boxed.new w1 3 (.int .i64 0)).alloc _).alloc _
  have b1 : W0.cell? ⟨w1.heap.size + 1, 0, none⟩ = some (.int .i64 (N : Int)) := by rw [← hW0]; exact keepc (ba (Below.refl _ _) _) (by simp)
  have b2 : W0.cell? ⟨w1.heap.size + 1 + 1, 0, none⟩ = some (.slice s l cap) := by rw [← hW0]; exact cell_last2 _ _ _ _ _
  have hBW : Below w1.heap.size w1 W0 := by rw [← hW0]; exact ba (ba (ba (Below.refl _ _) _) _) _
  have hB0 : Below w.heap.size w W0 := hB1.trans (hBW.mono hB1.size)
  have hz0 := hz.keep hB0
  rw [hW0]
  clear hW0
  have HSZ := Lib.hid hsz
  have HB := Lib.hid hB0
  refine wpIn_rangeM rfl (by omega) (gf := 36) (lb := #[.pointer (some ⟨w1.heap.size + 1, 0, none⟩), .pointer (some ⟨w1.heap.size + 1 + 1, 0, none⟩)]) rfl trivial (enters_of Try.func36 (by kernel_rfl) rfl)
    (sec_stops _ (by omega) N a hT (w1.heap.size + 1) (w1.heap.size + 1 + 1) w1.heap.size s l cap W0 (by rw [hsz]; omega) b1 b2 hz0) (fun _ => rfl) rwT_put
    (fun pre W => Boxed W w1.heap.size 3 (.int .i64 (pre.length : Int)) ∧ Below w1.heap.size W0 W)
    (fun _ _ _ => False)
    (fun pre X Y h k => ⟨(k.block _ (by rw [hsz]; omega)).trans h.1, h.2.trans (k.mono (by rw [hsz]; omega))⟩)
    (fun _ _ _ _ _ hs _ _ => hs)
    ⟨b0, Below.refl _ _⟩
    (fun x => { tmps := #[.int .i64 (N : Int), .slice s l cap, undef, undef, .int .i64 0, .bool false, .pointer (some ⟨w1.heap.size, 0, none⟩), .int .i64 (N : Int), .slice s l cap, .bool true, .bool false, .int .i64 (N : Int), .slice s l cap, .func (.func 36) #[] #[.pointer (some ⟨w1.heap.size + 1, 0, none⟩), .pointer (some ⟨w1.heap.size + 1 + 1, 0, none⟩)], .slice (some ⟨x.g, 0, none⟩) x.b.length x.cap, undef, undef, undef], defers := [] }) ?assign ?body ?done ?stop
  case assign =>
    intro lp x W K hK
    simp only [encT]
    gi_wp2
    simpa using hK
  case body =>
    rintro lp pre x W hlp hW ⟨hv, hBl⟩ hr hlt
    have HV := Lib.hid hv
    have hc := hv.cell
    have hf := hv.frozen
    have hp : pre.length < 100000 := by omega
    have HS := Lib.hid (show (((pre ++ [x]).length : Nat) : Int) = (pre.length : Int) + 1 by simp)
    clear hsz b0 b1 b2 hv hlt hM
    gi_wp2
    refine ⟨(KeepsOthers.setCell _ _ _).from _, kpU_set _ _ _ _, ?_, hBl.setCell (Nat.le_refl _) _⟩
    rw [HS.out]
    exact Boxed.set _ HV.out
  case done =>
    rintro D xs W hD hS ⟨hv, hBl⟩ hK
    have hc := hv.cell
    have HL := Lib.hid (show xs.length = (allS N a).length by have := congrArg List.length hS; rw [List.length_map] at this; exact this)
    have hdw : w.heap.size ≤ D := by have := HB.out.size; omega
    have hBW := Lib.hid ((HB.out.trans (hBl.mono hB1.size)).trans (belowK_b (w := w) (Nat.le_refl _) W D _ (.deferred none) hdw hK rfl rfl))
    clear hsz b0 b1 b2 hv hM hS
    gi_wp2
    refine ⟨by simp, .inl ⟨_, _, rfl, run_takeDeferred hK, ?_⟩⟩
    refine ⟨.tuple #[.int .i64 (xs.length : Int), .bool true], ?_, ⟨by rw [HL.out], hBW.out⟩⟩
    simp [results, Try.f10, go_sem]
  case stop =>
    rintro D c pre W _ _ h _
    exact h.elim
theorem c_implTileCount (n : Int) (s : Option Addr) (l cap : Nat) (z : List Int) (hl : l ≤ 1048576) (w : World) (hz : Ints w s l z) : Calls Try.prog 10 #[.int .i64 n, .slice s l cap] w fun e w' => e = .returned (.tuple #[.int .i64 (cntR n z), .bool (tilB n z)]) ∧ Below w.heap.size w w' := by
  cases h : tilB n z
  · have hca := c_implTileIn n s l cap z hl w hz
    rw [h] at hca
    have e1 : cntR n z = 0 := by simp [cntR, h, selI]
    rw [e1]
    clear h e1
    go_enter Try.func10, Try.ntmps10
    go_wp2_with (go_at_call 19; refine (hca).mono ?_; rintro e w1 ⟨rfl, hb⟩)
    go_ret2
    exact ⟨rfl, by repeat (first | exact Below.refl _ _ | assumption | refine Below.drew ?_ | refine bel_drewN ?_ _ | refine ba ?_ _ | refine bt2 ?_ (by assumption) | refine Below.setCell ?_ (by simp <;> omega) _)⟩
  · have hT := tilB_t.1 h
    obtain ⟨N, rfl⟩ : ∃ N : Nat, n = (N : Int) := ⟨n.toNat, by have := hT.1; omega⟩
    have e1 : cntR (N : Int) z = ((allS N z).length : Int) := by simp [cntR, h, selI]
    rw [e1]
    exact c_implCount1 N s l cap z hT hl w hz
theorem ownI_turn {w w' : World} {base : Nat} {e : TypeId} {v : Value} {zs : List Int} {row : Option Nat} (h : OwnI w base e v zs) (hg : w.grownBy w' row) (hr : ∀ r, row = some r → ∃ o : Obj, w.heap[r]? = some o ∧ o.isCells = false) : OwnI w' base e v zs := by
  refine OwnI.other h hg ?_
  rcases h.2 with ⟨h1, _⟩ | ⟨g, cap, cur, h1, _, hh, _⟩
  · rw [h1]; exact .inl rfl
  · rw [h1]
    refine .inr fun e => ?_
    obtain ⟨o, ho, hc⟩ := hr g e.symm
    rw [hh] at ho
    cases ho
    cases hc
/-- what lies behind a round that has left -/
def FndX (B S0 : Nat) (W0 : World) : Code → List Itm → World → Prop
  | .ret, pre, W => ∃ x, pre = [x] ∧ (∃ v, Boxed W B 23 v ∧ OwnI W S0 3 v x.b) ∧ Boxed W (B + 1) 4 (.bool true) ∧ Below B W0 W
  | _, _, _ => False
theorem fndX_own (B S0 S1 : Nat) (W0 : World) (hB : B + 1 < S1) (c : Code) : OwnFrom S1 (FndX B S0 W0 c) := by
  intro s X Y row hs hg hr
  cases c with
  | ret =>
    obtain ⟨x, rfl, ⟨v, h1, h2⟩, h3, h4⟩ := hs
    refine ⟨x, rfl, ⟨v, h1.kept hg (fun e => by have := (hr _ e.symm).1; omega), ownI_turn h2 hg fun r e => (hr r e).2⟩, h3.kept hg (fun e => by have := (hr _ e.symm).1; omega), h4.trans ⟨hg.os, hg.tape, hg.output, hg.size, fun k hk => ?_⟩⟩
    by_cases hl : k < X.heap.size
    · exact hg.block k hl (fun e => by have := (hr _ e.symm).1; omega)
    · have := (cells_of_cell h1.cell)
      obtain ⟨o, ho, _⟩ := this
      have := (Array.getElem?_eq_some_iff.1 ho).1
      simp only at this
      omega
  | _ => exact hs.elim
theorem keepsFrom_below {B : Nat} {W W' : World} (h : Below W.heap.size W W') : KeepsFrom B W W' := ⟨h.size, fun k _ _ hk _ => (h.block k (Array.getElem?_eq_some_iff.1 hk).1).trans hk⟩
set_option maxRecDepth 100000 in
set_option maxHeartbeats 4000000 in
theorem c_implFind1 (N : Nat) (s : Option Addr) (l cap : Nat) (a : List Int) (hT : Til (N : Int) a) (hl : l ≤ 1048576) (w : World) (hz : Ints w s l a) : Calls Try.prog 7 #[.int .i64 (N : Int), .slice s l cap] w (RetLB w ((allS N a)[0]?.getD []) (!(allS N a).isEmpty)) := by
  have hB := tilB_t.2 hT
  refine (callsIn_wide (n := 5)).1 ?_
  refine callsIn_of_wp_marks Try.func7 rfl trivial ?_ rfl
  simp only [Try.ntmps7, List.size_toArray, List.length_cons, List.length_nil, Nat.reduceAdd, Nat.reduceSub, Array.replicate_succ, Array.replicate_zero, List.push_toArray, List.append_toArray, List.nil_append, List.cons_append]
  have hz1 : Ints ((w.alloc (.cells #[.slice none 0 0] 23)).alloc (.cells #[.bool false] 4)) s l a := hz.keep (ba (ba (Below.refl _ _) _) _)
  gi_wp2_with (refine ⟨trivial, ?_⟩; first
    | (gi_at_call 19; refine (callsIn_wide.2 (c_implTileIn _ _ _ _ a hl _ hz1)).mono ?_; rintro e w1 ⟨rfl, hB1⟩)
    | (gi_at_call 20; refine (callsIn_wide.2 (c_implSeconds _ _ _ _ _)).mono ?_; rintro e w2 ⟨rfl, rfl⟩))
  have hs1 : w.heap.size + 2 ≤ w1.heap.size := by have := hB1.size; simp at this; omega
  have u4 : Boxed w1 w.heap.size 23 (.slice none 0 0) := by
    have h := (Boxed.new w 23 (.slice none 0 0)).alloc (.cells #[.bool false] 4)
    exact (hB1.block _ (by simp; omega)).trans h
  have u5 : Boxed w1 (w.heap.size + 1) 4 (.bool false) := by
    have h := Boxed.new (w.alloc (.cells #[.slice none 0 0] 23)) 4 (.bool false)
    rw [World.size_alloc] at h
    exact (hB1.block _ (by simp)).trans h
  obtain ⟨W0, hW0⟩ : ∃ W0, (w1.alloc (.cells #[.int .i64 (N : Int)] 3)).alloc (.cells #[.slice s l cap] 40) = W0 := ⟨_, rfl⟩
  have hsz : W0.heap.size = w1.heap.size + 2 := by rw [← hW0]; simp
  have b4 : Boxed W0 w.heap.size 23 (.slice none 0 0) := by rw [← hW0]; exact (u4.alloc _).alloc _
  have b5 : Boxed W0 (w.heap.size + 1) 4 (.bool false) := by rw [← hW0]; exact (u5.alloc _).alloc _
  have b1 : W0.cell? ⟨w1.heap.size, 0, none⟩ = some (.int .i64 (N : Int)) := by rw [← hW0]; exact keepc (ba (Below.refl _ _) _) (by simp)
  have b2 : W0.cell? ⟨w1.heap.size + 1, 0, none⟩ = some (.slice s l cap) := by
    rw [← hW0]
    have h := World.cell?_alloc_new (w := w1.alloc (.cells #[.int .i64 (N : Int)] 3)) #[.slice s l cap] 40 0
    rw [World.size_alloc] at h
    exact h
  have hBW : Below w1.heap.size w1 W0 := by rw [← hW0]; exact ba (ba (Below.refl _ _) _) _
  have hB0 : Below w.heap.size w W0 := (ba (ba (Below.refl _ _) _) _).trans ((hB1.mono (by simp; omega)).trans (hBW.mono (by omega)))
  have hz0 := hz.keep hB0
  rw [hW0]
  clear hW0 u4 u5
  have HSZ := Lib.hid hsz
  have HB := Lib.hid hB0
  refine wpIn_rangeM rfl (by omega) (gf := 36) (lb := #[.pointer (some ⟨w1.heap.size, 0, none⟩), .pointer (some ⟨w1.heap.size + 1, 0, none⟩)]) rfl trivial (enters_of Try.func36 (by kernel_rfl) rfl)
    (sec_stops _ (by omega) N a hT w1.heap.size (w1.heap.size + 1) w.heap.size s l cap W0 (by rw [hsz]; omega) b1 b2 hz0) (fun _ => rfl) rwT_put
    (fun pre W => pre = [] ∧ Boxed W w.heap.size 23 (.slice none 0 0) ∧ Boxed W (w.heap.size + 1) 4 (.bool false) ∧ Below w.heap.size W0 W)
    (FndX w.heap.size w.heap.size W0)
    (fun pre X Y h k => ⟨h.1, (k.block _ (by rw [hsz]; omega)).trans h.2.1, (k.block _ (by rw [hsz]; omega)).trans h.2.2.1, h.2.2.2.trans (k.mono (by rw [hsz]; omega))⟩)
    (fun c => fndX_own _ _ _ _ (by rw [hsz]; omega) c)
    ⟨rfl, b4, b5, Below.refl _ _⟩
    (fun x => { tmps := #[.int .i64 (N : Int), .slice s l cap, undef, undef, .pointer (some ⟨w.heap.size, 0, none⟩), .pointer (some ⟨w.heap.size + 1, 0, none⟩), .slice (some ⟨x.g, 0, none⟩) x.b.length x.cap, .int .i64 (N : Int), .slice s l cap, .bool true, .bool false, .int .i64 (N : Int), .slice s l cap, .func (.func 36) #[] #[.pointer (some ⟨w1.heap.size, 0, none⟩), .pointer (some ⟨w1.heap.size + 1, 0, none⟩)], .slice (some ⟨x.g, 0, none⟩) x.b.length x.cap, undef, undef], defers := [] }) ?assign ?body ?done ?stop
  case assign =>
    intro lp x W K hK
    simp only [encT]
    gi_wp2
    simpa using hK
  case body =>
    rintro lp pre x W hlp hW ⟨rfl, hv4, hv5, hBl⟩ ⟨hr, hx0, hx1⟩ hlt
    have HV4 := Lib.hid hv4
    have HV5 := Lib.hid hv5
    have hc4 := hv4.cell
    have hf4 := hv4.frozen
    have hc5 := hv5.cell
    have hf5 := hv5.frozen
    have HBl := Lib.hid hBl
    clear hsz b4 b5 b1 b2 hv4 hv5 hlt hBl
    gi_wp2_with (refine ⟨trivial, ?_⟩; gi_at_call 21; refine (CallsIn.inRound lp (callsIn_wide.2 (c_cloneS x.g _ x.cap 0 x.b rfl hx0 (by omega) _ hr))).mono ?_; rintro e w5 ⟨v5, rfl, hO5, hB5⟩; obtain ⟨so, co, rfl, _, hso⟩ := hO5.spread; have k4 := keepc hB5 hc4; have f4 := keepf hB5 hc4 hf4; have k5 := keepc hB5 hc5; have f5 := keepf hB5 hc5 hf5)
    have e4 := (hB5.block w.heap.size (World.block_lt_of_cell? _ _ hc4)).trans HV4.out
    have e5 := (hB5.block (w.heap.size + 1) (World.block_lt_of_cell? _ _ hc5)).trans HV5.out
    have hW2 : w.heap.size + 2 ≤ W.heap.size := by have := HB.out.size; have := HSZ.out; omega
    have hlo : ∀ g, some g = (Value.slice so x.b.length co).ownBlock → W.heap.size ≤ g := by
      rcases hso with rfl | ⟨g, rfl, h1, _⟩
      · intro g e; cases e
      · intro g' e; cases e; exact h1
    refine ⟨(keepsFrom_below hB5).trans (((KeepsOthers.setCell _ _ _).trans (KeepsOthers.setCell _ _ _)).from _), x, rfl, ⟨.slice so x.b.length co, ?_, ?_⟩, ?_, ?_⟩
    · exact Boxed.other (Boxed.set (.slice so x.b.length co) e4) (by omega) _
    · have h1 : OwnI (w5.setCell ⟨w.heap.size, 0, none⟩ (.slice so x.b.length co)) W.heap.size 3 (.slice so x.b.length co) x.b := ownsRow_setCell_below hO5 (by show w.heap.size < W.heap.size; omega) _
      exact OwnI.low (ownsRow_setCell_below h1 (by show w.heap.size + 1 < W.heap.size; omega) _) (by omega)
    · exact Boxed.set _ (Boxed.other e5 (by omega) _)
    · exact ((HBl.out.trans (hB5.mono (by omega))).setCell (Nat.le_refl _) _).setCell (by show w.heap.size ≤ w.heap.size + 1; omega) _
  case done =>
    rintro D xs W hD hS ⟨rfl, hv4, hv5, hBl⟩ hK
    have HE := Lib.hid (show allS N a = [] from hS.symm)
    have hc4 := hv4.cell
    have hf4 := hv4.frozen
    have hc5 := hv5.cell
    have hf5 := hv5.frozen
    have hdw : w.heap.size ≤ D := by have := HB.out.size; omega
    have HBl := Lib.hid (HB.out.trans hBl)
    have HV4 := Lib.hid hv4
    have HV5 := Lib.hid hv5
    clear hsz b4 b5 b1 b2 hv4 hv5 hS hBl
    gi_wp2
    have hK2 := (KeepsOthers.setCell (W.setCell ⟨w.heap.size, 0, none⟩ (.slice none 0 0)) ⟨w.heap.size + 1, 0, none⟩ (.bool false)).same D _ ((KeepsOthers.setCell W ⟨w.heap.size, 0, none⟩ (.slice none 0 0)).same D _ hK rfl) rfl
    have z4 : Boxed ((W.setCell ⟨w.heap.size, 0, none⟩ (.slice none 0 0)).setCell ⟨w.heap.size + 1, 0, none⟩ (.bool false)) w.heap.size 23 (.slice none 0 0) := Boxed.other (Boxed.set _ HV4.out) (by omega) _
    have z5 : Boxed ((W.setCell ⟨w.heap.size, 0, none⟩ (.slice none 0 0)).setCell ⟨w.heap.size + 1, 0, none⟩ (.bool false)) (w.heap.size + 1) 4 (.bool false) := Boxed.set _ (Boxed.other HV5.out (by omega) _)
    have hBf : Below w.heap.size w ((W.setCell ⟨w.heap.size, 0, none⟩ (.slice none 0 0)).setCell ⟨w.heap.size + 1, 0, none⟩ (.bool false)) := (HBl.out.setCell (Nat.le_refl _) _).setCell (by show w.heap.size ≤ w.heap.size + 1; omega) _
    have y4 := cell_kept z4.cell (grownBy_putObj' _ D (.deferred none)) (fun r e => by cases e; exact ⟨_, hK2, rfl⟩)
    have y5 := cell_kept z5.cell (grownBy_putObj' _ D (.deferred none)) (fun r e => by cases e; exact ⟨_, hK2, rfl⟩)
    have hBp := hBf.trans (belowK_b (w := w) (Nat.le_refl _) _ D _ (.deferred none) hdw hK2 rfl rfl)
    refine ⟨by simp, .inl ⟨_, _, rfl, run_takeDeferred hK2, ?_⟩⟩
    refine ⟨.tuple #[.slice none 0 0, .bool false], ?_, ⟨.slice none 0 0, by rw [HE.out]; rfl, by rw [HE.out]; exact OwnI.nil _ _ _, hBp⟩⟩
    simp [results, Try.f7, go_sem, y4, y5]
  case stop =>
    rintro D c pre W hD hS h hK
    cases c with
    | ret =>
      obtain ⟨x, rfl, ⟨v, hv4, hO⟩, hv5, hBl⟩ := h
      obtain ⟨r, hr⟩ := hS
      have hc4 := hv4.cell
      have hc5 := hv5.cell
      have HE := Lib.hid (show allS N a = x.b :: r from hr.symm)
      have hdw : w.heap.size ≤ D := by have := HB.out.size; omega
      have HBl := Lib.hid (HB.out.trans hBl)
      have y4 := cell_kept hc4 (grownBy_putObj' _ D (.deferred none)) (fun r e => by cases e; exact ⟨_, hK, rfl⟩)
      have y5 := cell_kept hc5 (grownBy_putObj' _ D (.deferred none)) (fun r e => by cases e; exact ⟨_, hK, rfl⟩)
      have hBp := Lib.hid (HBl.out.trans (belowK_b (w := w) (Nat.le_refl _) _ D _ (.deferred none) hdw hK rfl rfl))
      have hO2 := ownI_turn hO (grownBy_putObj' W D (.deferred none)) (fun r e => by cases e; exact ⟨_, hK, rfl⟩)
      clear hsz b4 b5 b1 b2 hr hBl
      gi_wp2
      refine ⟨by simp, .inl ⟨_, _, rfl, run_takeDeferred hK, ?_⟩⟩
      refine ⟨.tuple #[v, .bool true], ?_, ⟨v, by rw [HE.out]; rfl, by rw [HE.out]; exact hO2, hBp.out⟩⟩
      simp [results, Try.f7, go_sem, y4, y5]
    | _ => exact h.elim
theorem fndL_le (n : Int) (z : List Int) : (fndL n z).length ≤ 24 := by
  unfold fndL
  cases h : fndQ n z
  · simp
  · have hT := tilB_t.1 (show tilB n z = true by simp only [fndQ, Bool.and_eq_true] at h; exact h.1)
    obtain ⟨N, rfl⟩ : ∃ N : Nat, n = (N : Int) := ⟨n.toNat, by have := hT.1; omega⟩
    rw [Int.toNat_natCast, cond_true]
    have hN := hT.2.1
    have hall := srtLL_all (Z := allT N z) (D := N / z.length) (fun j hj => by
      rw [List.getElem?_eq_getElem hj]
      exact allT_len hT _ (List.getElem_mem hj)) (allT N z).length (Nat.le_refl _)
    have hd := Nat.div_le_self N z.length
    rcases Nat.eq_zero_or_pos (allS N z).length with h0 | h0
    · rw [List.eq_nil_of_length_eq_zero h0]; simp
    · rw [List.getElem?_eq_getElem h0, Option.getD_some]
      rw [hall _ (List.getElem_mem h0)]
      omega
theorem c_implTileFind (n : Int) (s : Option Addr) (l cap : Nat) (z : List Int) (hl : l ≤ 1048576) (w : World) (hz : Ints w s l z) : Calls Try.prog 7 #[.int .i64 n, .slice s l cap] w (RetLB w (fndL n z) (fndQ n z)) := by
  cases h : tilB n z
  · have hz1 : Ints ((w.alloc (.cells #[.slice none 0 0] 23)).alloc (.cells #[.bool false] 4)) s l z := hz.keep (ba (ba (Below.refl _ _) _) _)
    have hca := c_implTileIn n s l cap z hl _ hz1
    rw [h] at hca
    have e2 : fndQ n z = false := by simp [fndQ, h]
    have e1 : fndL n z = [] := by simp [fndL, e2]
    rw [e1, e2]
    clear h e1 e2
    go_enter Try.func7, Try.ntmps7
    have c4 : ((w.alloc (.cells #[.slice none 0 0] 23)).alloc (.cells #[.bool false] 4)).cell? ⟨w.heap.size, 0, none⟩ = some (.slice none 0 0) := keepc (ba (Below.refl _ _) _) (by simp)
    have c5 : ((w.alloc (.cells #[.slice none 0 0] 23)).alloc (.cells #[.bool false] 4)).cell? ⟨w.heap.size + 1, 0, none⟩ = some (.bool false) := by
      have h := World.cell?_alloc_new (w := w.alloc (.cells #[.slice none 0 0] 23)) #[.bool false] 4 0
      rw [World.size_alloc] at h
      exact h
    have d4 := (Boxed.alloc (Boxed.new w 23 (.slice none 0 0)) (.cells #[.bool false] 4))
    have d5 := Boxed.new (w.alloc (.cells #[.slice none 0 0] 23)) 4 (.bool false)
    rw [World.size_alloc] at d5
    have D4 := Lib.hid d4
    have D5 := Lib.hid d5
    clear d4 d5
    go_wp2_with (go_at_call 19; refine hca.mono ?_; rintro e w1 ⟨rfl, hb⟩; have k4 := keepc hb c4; have k5 := keepc hb c5; have z4 := keepf hb c4 D4.out.frozen; have z5 := keepf hb c5 D5.out.frozen)
    have e4 := (hb.block w.heap.size (by simp; omega)).trans D4.out
    have e5 := (hb.block (w.heap.size + 1) (by simp)).trans D5.out
    have y4 := (Boxed.other (Boxed.set (.slice none 0 0) e4) (B' := w.heap.size + 1) (by omega) (.bool false)).cell
    have y5 := (Boxed.set (.bool false) (Boxed.other e5 (B' := w.heap.size) (by omega) (.slice none 0 0))).cell
    have hBf : Below w.heap.size w ((w1.setCell ⟨w.heap.size, 0, none⟩ (.slice none 0 0)).setCell ⟨w.heap.size + 1, 0, none⟩ (.bool false)) := (((ba (ba (Below.refl _ _) _) _).trans (hb.mono (by simp; omega))).setCell (Nat.le_refl _) _).setCell (by show w.heap.size ≤ w.heap.size + 1; omega) _
    exact bodyPost_ret (v := .tuple #[.slice none 0 0, .bool false]) (by simp [results, Try.results7, go_sem, y4, y5]) rfl ⟨_, rfl, OwnI.nil _ _ _, hBf⟩
  · have hT := tilB_t.1 h
    obtain ⟨N, rfl⟩ : ∃ N : Nat, n = (N : Int) := ⟨n.toNat, by have := hT.1; omega⟩
    have e2 : fndQ (N : Int) z = !(allS N z).isEmpty := by simp [fndQ, h]
    have e1 : fndL (N : Int) z = (allS N z)[0]?.getD [] := by
      unfold fndL
      rw [e2]
      cases hA : allS N z <;> simp [hA]
    rw [e1, e2]
    exact c_implFind1 N s l cap z hT hl w hz
end Go.Proofs.Ytiplnfggiffngaa
