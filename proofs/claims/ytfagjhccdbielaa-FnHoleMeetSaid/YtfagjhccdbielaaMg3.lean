/- The program's without: a copy of a list of classes without one. -/
import Derived.Test.YtfagjhccdbielaaS22
import Derived.Test.YtfagjhccdbielaaH1
import Derived.Laws.CopyOwn
import Derived.Test.YtfagjhccdbielaaMg5
import Derived.Test.YtfagjhccdbielaaS5
import Derived.Test.YtfagjhccdbielaaStepA
namespace Go.Proofs.Ytfagjhccdbielaa
open Go.RowKit
/-! 'copy' at elements of any size -/
theorem run_copy_rowK {P : Program} (w : World) (dT sT ty elem : TypeId) (g o dLen dCap : Nat) (a : Addr) (sLen sCap size : Nat) (cur : Array Value) (t : TypeId) (cs : List Value)
    (hu : P.underlying dT = some (.slice elem)) (hs : (P.info? elem).map (·.size) = some size)
    (hg : w.heap[g]? = some (.cells cur t (0, 0))) (hn : cs.length = Nat.min sLen dLen * size)
    (hsrc : ∀ j v, cs[j]? = some v → w.cell? (a.add j) = some v) (hfit : o + cs.length ≤ cur.size) (h1 : ∀ v ∈ cs, v.oneCell' = true) :
    (Builtin.copy_ #[dT, sT] ty #[.slice (some ⟨g, o, none⟩) dLen dCap, .slice (some a) sLen sCap]).run P w =
      .ok (goInt (Nat.min sLen dLen : Nat)) (w.setRow g (cur.toList.take o ++ cs ++ cur.toList.drop (o + cs.length)).toArray) := by
  have hl := run_loadCells_list (P := P) w a cs hsrc
  have hst := run_storeCells_at P g o t cs 0 cur w hg (by simpa using hfit) h1
  cases hq : P.info? elem with
  | none => simp [hq] at hs
  | some i =>
    have hi : i.size = size := by simpa [hq] using hs
    simp [Builtin.copy_, run_underlying hu, Builtin.lenOf, Builtin.firstCells, sizeOf, typeInfo, hq, hi, ← hn, hl, hst]
theorem run_copy_noneK {P : Program} (w : World) (dT sT ty elem : TypeId) (size : Nat) (d a : Option Addr) (dLen dCap sLen sCap : Nat) (hu : P.underlying dT = some (.slice elem)) (hs : (P.info? elem).map (·.size) = some size) (hn : Nat.min sLen dLen = 0) :
    (Builtin.copy_ #[dT, sT] ty #[.slice d dLen dCap, .slice a sLen sCap]).run P w = .ok (goInt 0) w := by
  cases hq : P.info? elem with
  | none => simp [hq] at hs
  | some i =>
    have hl : ∀ (x : Addr), (loadCells x 0).run P w = .ok #[] w := fun x => by simpa using run_loadCells_list (P := P) w x [] (by simp)
    cases d <;> cases a <;> simp [Builtin.copy_, run_underlying hu, Builtin.lenOf, Builtin.firstCells, sizeOf, typeInfo, hq, hn, storeCells, hl]
theorem wp_copyK {P : Program} {o : Oper} {a : Act} {w : World} {K : Act → World → Prop} {Q : Exit → Act → World → Prop} (d s : Operand) (dT sT : TypeId)
    (ho : o.op = .call { callee := .builtin .copy, args := #[d, s], argTypes := #[dT, sT] }) (elem : TypeId) (size : Nat) (hs0 : 0 < size) (hu : P.underlying dT = some (.slice elem)) (hsz : (P.info? elem).map (·.size) = some size)
    (dp sp : Option Addr) (dLen dCap sLen sCap : Nat) (hd : a.eval d = .slice dp dLen dCap) (hs : a.eval s = .slice sp sLen sCap)
    (g off : Nat) (cur : List Value) (t : TypeId) (hg : w.heap[g]? = some (.cells cur.toArray t (0, 0))) (cs : List Value) (hn : cs.length = Nat.min sLen dLen * size)
    (hpos : 0 < cs.length → dp = some ⟨g, off, none⟩ ∧ ∃ ad, sp = some ad ∧ ∀ j v, cs[j]? = some v → w.cell? (ad.add j) = some v)
    (hfit : off + cs.length ≤ cur.length) (h1 : ∀ v ∈ cs, v.oneCell' = true) (B : Nat) (w0 : World) (hb : Below B w0 w) (hBg : B ≤ g)
    (h : ∀ w', Hid (w'.heap[g]? = some (.cells (splice cur off cs).toArray t (0, 0))) → Below B w0 w' → K (a.put o.dst (goInt (Nat.min sLen dLen : Nat))) w') : Oper.wp P o a w K Q := by
  by_cases h0 : cs.length = 0
  · obtain rfl : cs = [] := List.eq_nil_of_length_eq_zero h0
    have hm : Nat.min sLen dLen = 0 := by
      rcases Nat.eq_zero_or_pos (Nat.min sLen dLen) with h | h
      · exact h
      · have := Nat.mul_pos h hs0; simp at hn; omega
    have hrun := run_copy_noneK (P := P) w dT sT o.type elem size dp sp dLen dCap sLen sCap hu hsz hm
    unfold Oper.wp
    simp only [execOp, ho, resolve, invoke, builtin, Sem.run_bind, Sem.run_pure, Result.andThen_ok, List.map_toArray, List.map_cons, List.map_nil, hd, hs, hrun]
    have := h w (show _ = _ by simpa [splice] using hg) hb
    rw [hm] at this
    exact this
  · obtain ⟨rfl, ad, rfl, hsrc⟩ := hpos (by omega)
    have hrun := run_copy_rowK (P := P) w dT sT o.type elem g off dLen dCap ad sLen sCap size cur.toArray t cs hu hsz hg hn hsrc (by simpa using hfit) h1
    unfold Oper.wp
    simp only [execOp, ho, resolve, invoke, builtin, Sem.run_bind, Sem.run_pure, Result.andThen_ok, List.map_toArray, List.map_cons, List.map_nil, hd, hs, hrun]
    exact h _ (show _ = _ by simpa [splice] using setRow_heap w g _ _ t _ hg) (below_setRow hb hBg _)
theorem wpList_copyK {P : Program} {w : World} {ops : Array Oper} {rest : List Oper} {o : Oper} {a : Act} {Q : Exit → Act → World → Prop} (hgd : o.guard = none) (d s : Operand) (dT sT : TypeId)
    (ho : o.op = .call { callee := .builtin .copy, args := #[d, s], argTypes := #[dT, sT] }) (elem : TypeId) (size : Nat) (hs0 : 0 < size) (hu : P.underlying dT = some (.slice elem)) (hsz : (P.info? elem).map (·.size) = some size)
    (dp sp : Option Addr) (dLen dCap sLen sCap : Nat) (hd : a.eval d = .slice dp dLen dCap) (hs : a.eval s = .slice sp sLen sCap)
    (g off : Nat) (cur : List Value) (t : TypeId) (hg : w.heap[g]? = some (.cells cur.toArray t (0, 0))) (cs : List Value) (hn : cs.length = Nat.min sLen dLen * size)
    (hpos : 0 < cs.length → dp = some ⟨g, off, none⟩ ∧ ∃ ad, sp = some ad ∧ ∀ j v, cs[j]? = some v → w.cell? (ad.add j) = some v)
    (hfit : off + cs.length ≤ cur.length) (h1 : ∀ v ∈ cs, v.oneCell' = true) (B : Nat) (w0 : World) (hb : Below B w0 w) (hBg : B ≤ g)
    (h : ∀ w', Hid (w'.heap[g]? = some (.cells (splice cur off cs).toArray t (0, 0))) → Below B w0 w' → wpList P ops Q rest (a.put o.dst (goInt (Nat.min sLen dLen : Nat))) w') :
    wpList P ops Q (o :: rest) a w :=
  wpList_plain hgd fun _ hK => wp_copyK d s dT sT ho elem size hs0 hu hsz dp sp dLen dCap sLen sCap hd hs g off cur t hg cs hn hpos hfit h1 B w0 hb hBg fun w' h2 h3 => hK _ _ (h w' h2 h3)
theorem step_copyK {P : Program} {ops : Array Oper} {o : Oper} {a : Act} {w : World} {K : Act → World → Prop} {Q : Exit → Act → World → Prop} {E : Prop} (hgd : o.guard = none) (d s : Operand) (dT sT : TypeId)
    (ho : o.op = .call { callee := .builtin .copy, args := #[d, s], argTypes := #[dT, sT] }) (elem : TypeId) (size : Nat) (hs0 : 0 < size) (hu : P.underlying dT = some (.slice elem)) (hsz : (P.info? elem).map (·.size) = some size)
    (dp sp : Option Addr) (dLen dCap sLen sCap : Nat) (hd : a.eval d = .slice dp dLen dCap) (hs : a.eval s = .slice sp sLen sCap)
    (g off : Nat) (cur : List Value) (t : TypeId) (hg : w.heap[g]? = some (.cells cur.toArray t (0, 0))) (cs : List Value) (hn : cs.length = Nat.min sLen dLen * size)
    (hpos : 0 < cs.length → dp = some ⟨g, off, none⟩ ∧ ∃ ad, sp = some ad ∧ ∀ j v, cs[j]? = some v → w.cell? (ad.add j) = some v)
    (hfit : off + cs.length ≤ cur.length) (h1 : ∀ v ∈ cs, v.oneCell' = true) (B : Nat) (w0 : World) (hb : Below B w0 w) (hBg : B ≤ g)
    (h : ∀ w', Hid (w'.heap[g]? = some (.cells (splice cur off cs).toArray t (0, 0))) → Below B w0 w' → K (a.put o.dst (goInt (Nat.min sLen dLen : Nat))) w') :
    if Region.wanted o (yielded ops a.tmps) = true then Oper.wp P o a w K Q else E := by
  have hw : Region.wanted o (yielded ops a.tmps) = true := by simp [Region.wanted, hgd]
  rw [if_pos hw]
  exact wp_copyK d s dT sT ho elem size hs0 hu hsz dp sp dLen dCap sLen sCap hd hs g off cur t hg cs hn hpos hfit h1 B w0 hb hBg h
/-- a list of classes in a block of its own, perhaps with room behind it -/
def WidC (w : World) (base : Nat) (v : Value) (zs : List Cl) : Prop := ∃ g cap cur, v = .slice (some ⟨g, 0, none⟩) zs.length cap ∧ base ≤ g ∧ zs.length ≤ cap ∧ w.heap[g]? = some (.cells cur 43 (0, 0)) ∧ cur.toList.take (zs.length * 2) = cells2 zs ∧ ∃ room, zs.length ≤ room ∧ room ≤ maxLen ∧ cur.size = room * 2
theorem WidC.keep {w w' : World} {base : Nat} {v : Value} {zs : List Cl} (h : WidC w base v zs) (k : Below w.heap.size w w') : WidC w' base v zs := by
  obtain ⟨g, cap, cur, hv, hg, hc, hh, r⟩ := h
  exact ⟨g, cap, cur, hv, hg, hc, by rw [k.block g (block_lt hh)]; exact hh, r⟩
theorem WidC.low {w : World} {base b2 : Nat} {v : Value} {zs : List Cl} (h : WidC w base v zs) (k : b2 ≤ base) : WidC w b2 v zs := by
  obtain ⟨g, cap, cur, hv, hg, hc, hh, r⟩ := h
  exact ⟨g, cap, cur, hv, Nat.le_trans k hg, hc, hh, r⟩
theorem OwnC.wid {w : World} {base g n cap : Nat} {zs : List Cl} (h : OwnC w base 43 (.slice (some ⟨g, 0, none⟩) n cap) zs) (hn : zs.length = n) : WidC w base (.slice (some ⟨g, 0, none⟩) n cap) zs := by
  subst hn
  have h' : w.ownsRow base 43 2 (.slice (some ⟨g, 0, none⟩) zs.length cap) zs.length (cells2 zs) := h
  rcases h'.2 with ⟨h1, _⟩ | ⟨g', cap', cur, h1, hb, hg, hn, hm, hz, ht⟩
  · simp at h1
  · simp only [Value.slice.injEq, Option.some.injEq, Addr.mk.injEq, and_true] at h1
    obtain ⟨rfl, _, rfl⟩ := h1
    exact ⟨g, cap, cur, rfl, hb, hn, hg, ht, cap, hn, hm, hz⟩
theorem WidC.own {w : World} {base : Nat} {v : Value} {zs : List Cl} (h : WidC w base v zs) : ∃ s cap room, v = .slice s zs.length cap ∧ OwnC w base 43 (.slice s zs.length room) zs := by
  obtain ⟨g, cap, cur, hv, hg, hc, hh, ht, room, r1, r2, r3⟩ := h
  exact ⟨_, cap, room, hv, by rw [cells2_length], .inr ⟨g, room, cur, rfl, hg, hh, r1, r2, r3, ht⟩⟩
theorem wid_cells {w : World} {g : Nat} {zs : List Cl} {cur : Array Value} (hh : w.heap[g]? = some (.cells cur 43 (0, 0))) (ht : cur.toList.take (zs.length * 2) = cells2 zs) (j : Nat) (u : Value) (hj : (cells2 zs)[j]? = some u) : w.cell? ⟨g, j, none⟩ = some u := by
  have hlt : j < zs.length * 2 := by rw [← cells2_length]; exact (List.getElem?_eq_some_iff.1 hj).1
  rw [← ht, List.getElem?_take_of_lt hlt, Array.getElem?_toList] at hj
  simp [World.cell?, hh, hj]
theorem WidC.cls {w : World} {base g n cap : Nat} {zs : List Cl} (h : WidC w base (.slice (some ⟨g, 0, none⟩) n cap) zs) : Cls w (some ⟨g, 0, none⟩) n zs ∧ base ≤ g ∧ n ≤ cap ∧ zs.length = n := by
  obtain ⟨g', cap', cur, hv, hg, hc, hh, ht, _⟩ := h
  simp only [Value.slice.injEq, Option.some.injEq, Addr.mk.injEq, and_true] at hv
  obtain ⟨rfl, rfl, rfl⟩ := hv
  refine ⟨⟨rfl, .inr ⟨g, 0, rfl, block_lt hh, fun i hi => ?_⟩⟩, hg, hc, rfl⟩
  rw [Nat.zero_add]
  exact ⟨wid_cells hh ht _ _ (cells2_0 zs i hi), wid_cells hh ht _ _ (cells2_1 zs i hi)⟩
theorem cells2_drop (zs : List Cl) (i : Nat) : (cells2 zs).drop (i * 2) = cells2 (zs.drop i) := by
  induction zs generalizing i with
  | nil => simp [cells2]
  | cons c t ih =>
    cases i with
    | zero => rfl
    | succ i =>
      rw [show (i + 1) * 2 = i * 2 + 1 + 1 by omega]
      simpa [cells2] using ih i
theorem cells2_take (zs : List Cl) (i : Nat) : (cells2 zs).take (i * 2) = cells2 (zs.take i) := by
  induction zs generalizing i with
  | nil => simp [cells2]
  | cons c t ih =>
    cases i with
    | zero => rfl
    | succ i =>
      rw [show (i + 1) * 2 = i * 2 + 1 + 1 by omega]
      simpa [cells2] using ih i
theorem splice_erase (zs : List Cl) (i : Nat) (hi : i < zs.length) : (splice (cells2 zs) (i * 2) (cells2 (zs.drop (i + 1)))).take ((zs.length - 1) * 2) = cells2 (zs.eraseIdx i) := by
  unfold splice
  rw [List.eraseIdx_eq_take_drop_succ, cells2_append, ← List.append_assoc, cells2_take]
  refine List.take_left' ?_
  rw [List.length_append, cells2_length, cells2_length, List.length_take, List.length_drop]
  omega
theorem splice_all (L cs : List Value) (h : L.length = cs.length) : splice L 0 cs = cs := by
  unfold splice
  rw [List.take_zero, List.nil_append, Nat.zero_add, ← h, List.drop_length, List.append_nil]
end Go.Proofs.Ytfagjhccdbielaa
namespace Go.Proofs.Ytfagjhccdbielaa
open Go.RowKit
theorem eraseIdx_len {zs : List Cl} {i : Nat} (h : i < zs.length) : (zs.eraseIdx i).length = zs.length - 1 := List.length_eraseIdx_of_lt h
theorem row_cur {w : World} {base k g n cap : Nat} {e : TypeId} {xs : List Value} (h : w.ownsRow base e k (.slice (some ⟨g, 0, none⟩) n cap) n xs) : ∃ L : List Value, w.heap[g]? = some (.cells L.toArray e (0, 0)) ∧ L.length = cap * k := by
  rcases h.2 with ⟨h1, _⟩ | ⟨g', cap', cur, h1, _, hg, _, _, hs, _⟩
  · simp at h1
  · simp only [Value.slice.injEq, Option.some.injEq, Addr.mk.injEq, and_true] at h1
    obtain ⟨rfl, _, rfl⟩ := h1
    exact ⟨cur.toList, by simpa using hg, by simpa using hs⟩
theorem slc_part {P : Prop} [Decidable P] {g d : Nat} (h : P) : (if P then (some ⟨g, d, none⟩ : Option Addr) else some ⟨g, 0, none⟩) = some ⟨g, d, none⟩ := if_pos h
set_option maxRecDepth 20000 in
set_option maxHeartbeats 1000000 in
theorem c_without (s : Option Addr) (n cap : Nat) (zs : List Cl) (i : Nat) (hn : n ≤ 1048576) (hi : i < n) (w : World) (hc : Cls w s n zs) :
    Calls Try.prog 53 #[.slice s n cap, .int .i64 i] w fun e w' => ∃ v, e = .returned v ∧ WidC w' w.heap.size v (zs.eraseIdx i) ∧ Below w.heap.size w w' := by
  have hlen := hc.len
  obtain ⟨i0, hi0, hz0, hz1, hz2⟩ := info_parts infoC
  have hsz : (Try.prog.info? 43).map (·.size) = some 2 := by simp [hi0, hz1]
  have HL := Lib.hid hlen
  clear hlen
  rcases hc.lies with h0 | ⟨b, off, rfl, hbw, hcells⟩
  · omega
  have HC := Lib.hid (cls_cells HL.out hcells)
  have HO := Lib.hid (cells2_oc zs)
  have HOd := Lib.hid (cells2_oc (zs.drop (i + 1)))
  have HN := Lib.hid (show (cells2 zs).length = Nat.min n n * 2 by rw [cells2_length, HL.out]; simp)
  have HNd := Lib.hid (show (cells2 (zs.drop (i + 1))).length = Nat.min (n - (i + 1)) (n - i) * 2 by
    rw [cells2_length, List.length_drop, HL.out, show Nat.min (n - (i + 1)) (n - i) = n - (i + 1) from Nat.min_eq_left (by omega)])
  have HNz := Lib.hid (show (cells2 zs).length = n * 2 by rw [cells2_length, HL.out])
  have HNe := Lib.hid (show (cells2 (zs.drop (i + 1))).length = (n - (i + 1)) * 2 by rw [cells2_length, List.length_drop, HL.out])
  clear hcells
  have hiz : (i : Int) < (n : Int) := by omega
  have hiz1 : (i : Int) ≤ (n : Int) := by omega
  have hiz0 : (0 : Int) ≤ (i : Int) := by omega
  go_enter Try.func53, Try.ntmps53
  go_wp2_with (first
    | (at_make; refine wpList_make_full _ rfl _ _ 23 rfl w.heap.size 43 i0 (.agg #[.int .i64 0, .int .i64 0]) 2 Try.underlying23 hi0 hz0 hz1 .i64 .i64 _ _ n rfl rfl rfl rfl (by rw [hz2]; omega) (by unfold maxLen; omega) (Nat.le_refl _) ?_; intro w1 hown hgrow; obtain ⟨L, hgL, hLl⟩ := row_cur hown; have hB1 : Below w.heap.size w w1 := (Below.refl _ _).grown hgrow (Nat.le_refl _) (fun k h => by cases h); have HC1 := Lib.hid (fun j (v : Value) (hj : (cells2 zs)[j]? = some v) => show w1.cell? ((⟨b, off, none⟩ : Addr).add j) = some v by rw [Addr.add_lit]; exact keepc hB1 (HC.out j v hj)); clear hown hgrow)
    | (refine wpList_copyK rfl _ _ 23 23 rfl 43 2 (by decide) Try.underlying23 hsz _ _ _ _ _ _ rfl rfl w.heap.size 0 L 43 hgL (cells2 zs) HN.out (fun _ => ⟨rfl, _, rfl, HC1.out⟩) (by rw [HNz.out, hLl]; omega) HO.out w.heap.size w hB1 (Nat.le_refl _) ?_; intro w2 HG2 hB2)
    | fail)
  have hg2 : w2.heap[w.heap.size]? = some (.cells (cells2 zs).toArray 43 (0, 0)) := by
    have := HG2.out
    rwa [splice_all _ _ (by rw [HNz.out, hLl])] at this
  clear HG2 hgL hLl HC1 hB1 HC
  have HCd := Lib.hid (fun (W : World) (hW : W.heap[w.heap.size]? = some (.cells (cells2 zs).toArray 43 (0, 0))) j (v : Value) (hj : (cells2 (zs.drop (i + 1)))[j]? = some v) => show W.cell? ((⟨w.heap.size, (i + 1) * 2, none⟩ : Addr).add j) = some v by
    rw [Addr.add_lit]
    rw [← cells2_drop, List.getElem?_drop] at hj
    simp [World.cell?, hW, hj])
  have hs1 : (n : Int) - 1 = ((n - 1 : Nat) : Int) := by omega
  have hs2 : ((n - 1 : Nat) : Int) ≤ (n : Int) := by omega
  have hw : IntKind.i64.wrap ((i : Int) + 1) = (i : Int) + 1 := IntWalk.i64_in _ (by omega)
  by_cases hA : i + 1 < n
  · have hAz : (i : Int) + 1 < (n : Int) := by omega
    have hA1 : (i : Int) + 1 ≤ (n : Int) := by omega
    have hA0 : (0 : Int) ≤ (i : Int) + 1 := by omega
    have hAn : ¬ n = i + 1 := by omega
    have hAm : ¬ n = i := by omega
    have hAt : ((i : Int) + 1).toNat = i + 1 := by omega
    go_region_held3 (fun _ => True) (trivial) (first
      | (refine step_copyK rfl _ _ 23 23 rfl 43 2 (by decide) Try.underlying23 hsz _ _ _ _ _ _ rfl rfl w.heap.size (i * 2) (cells2 zs) 43 hg2 (cells2 (zs.drop (i + 1))) HNd.out (fun _ => ⟨rfl, _, rfl, HCd.out _ hg2⟩) (by rw [HNe.out, HNz.out]; omega) HOd.out w.heap.size w hB2.drew (Nat.le_refl _) ?_; intro w5 HG5 hB5)
      | fail)
    all_goals
      clear hw
      have HW := Lib.hid (show w5.heap[w.heap.size]? = some (.cells (splice (cells2 zs) (i * 2) (cells2 (zs.drop (i + 1)))).toArray 43 (0, 0)) from HG5.out)
      clear HG5 hg2
      go_wp2_with fail
      go_ret
      refine ⟨_, rfl, ⟨w.heap.size, n - 1, _, ?_, Nat.le_refl _, Nat.le_of_eq ?_, HW.out, ?_, n, ?_, by unfold maxLen; omega, ?_⟩, hB5⟩
      · rw [eraseIdx_len (by rw [HL.out]; exact hi), HL.out]
        simp
      · rw [eraseIdx_len (by rw [HL.out]; exact hi), HL.out]
      · rw [eraseIdx_len (by rw [HL.out]; exact hi)]
        simpa using splice_erase zs i (by rw [HL.out]; exact hi)
      · rw [eraseIdx_len (by rw [HL.out]; exact hi), HL.out]; omega
      · rw [List.size_toArray, length_splice _ _ _ (by rw [HNe.out, HNz.out]; omega)]; exact HNz.out
  · have hA1 : (i : Int) + 1 ≤ (n : Int) := by omega
    have hA0 : (0 : Int) ≤ (i : Int) + 1 := by omega
    have hAn : n = i + 1 := by omega
    have hAm : ¬ n = i := by omega
    have hAt : ((i : Int) + 1).toNat = i + 1 := by omega
    have hz1 : (i : Int) ≤ (i : Int) + 1 := by omega
    have hz2 : (i : Int) < (i : Int) + 1 := by omega
    have hz3 : i < i + 1 := by omega
    have hz4 : i ≤ i + 1 := by omega
    have HV := Lib.hid (show (cells2 (zs.drop (i + 1))).length = 0 by rw [HNe.out]; omega)
    go_region_held3 (fun _ => True) (trivial) (first
      | (refine step_copyK rfl _ _ 23 23 rfl 43 2 (by decide) Try.underlying23 hsz _ _ 1 1 0 0 rfl rfl w.heap.size (i * 2) (cells2 zs) 43 hg2 (cells2 (zs.drop (i + 1))) HV.out (fun h => absurd h (by rw [HV.out]; omega)) (by rw [HV.out, HNz.out]; omega) HOd.out w.heap.size w hB2.drew (Nat.le_refl _) ?_; intro w5 HG5 hB5)
      | fail)
    all_goals
      clear hw
      have HW := Lib.hid (show w5.heap[w.heap.size]? = some (.cells (splice (cells2 zs) (i * 2) (cells2 (zs.drop (i + 1)))).toArray 43 (0, 0)) from HG5.out)
      clear HG5 hg2
      go_wp2_with fail
      go_ret
      refine ⟨_, rfl, ⟨w.heap.size, n - 1, _, ?_, Nat.le_refl _, Nat.le_of_eq ?_, HW.out, ?_, n, ?_, by unfold maxLen; omega, ?_⟩, hB5⟩
      · rw [eraseIdx_len (by rw [HL.out]; exact hi), HL.out]
        simp [hAn]
      · rw [eraseIdx_len (by rw [HL.out]; exact hi), HL.out]
      · rw [eraseIdx_len (by rw [HL.out]; exact hi)]
        simpa using splice_erase zs i (by rw [HL.out]; exact hi)
      · rw [eraseIdx_len (by rw [HL.out]; exact hi), HL.out]; omega
      · rw [List.size_toArray, length_splice _ _ _ (by rw [HNe.out, HNz.out]; omega)]; exact HNz.out
end Go.Proofs.Ytfagjhccdbielaa
namespace Go.Proofs.Ytfagjhccdbielaa
open Go.RowKit Go.Shelf
attribute [local go_sem] Oper.semAt_some
theorem kept_below {w w' : World} (h : Below w.heap.size w w') : KeepsOthers w w' := ⟨h.size, fun k _ hk _ => (h.block k (Array.getElem?_eq_some_iff.1 hk).1).trans hk⟩
/-- the others cover what class i has below E -/
def spaB (zs : List Cl) (i : Nat) (E : Int) : Bool := (List.range 1001).all fun j => !decide (rAt zs i + (j : Int) * mAt zs i < E) || covB (zs.eraseIdx i) (rAt zs i + (j : Int) * mAt zs i)
theorem spaB_iff {zs : List Cl} {i : Nat} {E : Int} (h : inB (rAt zs i) (mAt zs i) = true) (hE : E ≤ 1000) : spaB zs i E = true ↔ ∀ j : Nat, rAt zs i + (j : Int) * mAt zs i < E → covB (zs.eraseIdx i) (rAt zs i + (j : Int) * mAt zs i) = true := by
  obtain ⟨m1, _, r1, _⟩ := inB_iff.1 h
  unfold spaB
  rw [List.all_eq_true]
  constructor
  · intro H j hj
    have hb := Int.mul_le_mul_of_nonneg_left m1 (Int.natCast_nonneg j)
    have := H j (List.mem_range.2 (by omega))
    simpa [hj] using this
  · intro H j _
    by_cases hj : rAt zs i + (j : Int) * mAt zs i < E
    · simp [hj, H j hj]
    · simp [hj]
theorem spa_all {zs : List Cl} {i : Nat} {E : Int} {ys : List Int} (h : inB (rAt zs i) (mAt zs i) = true) (hE : E ≤ 1000) (hy : NumAll (rAt zs i) (mAt zs i) 0 E ys) (hn : ∀ y ∈ ys, covB (zs.eraseIdx i) y = true) : spaB zs i E = true := by
  obtain ⟨m1, _, r1, r2⟩ := inB_iff.1 h
  obtain ⟨k, rfl, hk, hj⟩ := hy
  rw [spaB_iff h hE]
  intro j hjE
  simp only [numK0 r1 r2] at hk
  have hjk : j < k := by
    rcases Nat.lt_or_ge j k with h | h
    · exact h
    · have := Int.mul_le_mul_of_nonneg_right (show (k : Int) ≤ (j : Int) by omega) (show 0 ≤ mAt zs i by omega)
      omega
  have := hn (numK (rAt zs i) (mAt zs i) 0 j) (by simp only [seqTo, List.mem_map, List.mem_range]; exact ⟨j, hjk, rfl⟩)
  rwa [numK0 r1 r2] at this
theorem spa_part {zs : List Cl} {i : Nat} {E x : Int} {ys p : List Int} (h : inB (rAt zs i) (mAt zs i) = true) (hE : E ≤ 1000) (hy : NumPart (rAt zs i) (mAt zs i) 0 E ys) (hp : ys = p ++ [x]) (hx : covB (zs.eraseIdx i) x = false) : spaB zs i E = false := by
  obtain ⟨m1, _, r1, r2⟩ := inB_iff.1 h
  obtain ⟨k, rfl, hj⟩ := hy
  rw [seqTo_succ] at hp
  obtain ⟨rfl, h2⟩ := List.append_inj' hp rfl
  obtain rfl : numK (rAt zs i) (mAt zs i) 0 k = x := by simpa using h2
  have hk := hj k (by omega)
  rw [numK0 r1 r2] at hk hx
  cases hs : spaB zs i E
  · rfl
  · rw [(spaB_iff h hE).1 hs k hk] at hx; cases hx
theorem allB_erase {zs : List Cl} (h : allB zs = true) (i : Nat) : allB (zs.eraseIdx i) = true := by
  unfold allB at *
  rw [List.all_eq_true] at *
  exact fun c hc => h c (List.eraseIdx_subset hc)
set_option maxRecDepth 100000 in
set_option maxHeartbeats 4000000 in
theorem c_spareAt (s : Option Addr) (n cap : Nat) (zs : List Cl) (i : Nat) (E : Int) (hn : n ≤ 1048576) (hi : i < n) (ha : allB zs = true) (hE1 : 1 ≤ E) (hE : E ≤ 1000) (w : World) (hc : Cls w s n zs) :
    Calls Try.prog 77 #[.slice s n cap, .int .i64 i, .int .i64 E] w fun e w' => e = .returned (.bool (spaB zs i E)) ∧ Below w.heap.size w w' := by
  have hlen := hc.len
  have hin := allB_at ha i (by rw [hlen]; exact hi)
  obtain ⟨m1, m2, r1, r2⟩ := inB_iff.1 hin
  rcases hc.lies with h0 | ⟨b, off, rfl, hbw, hcells⟩
  · omega
  obtain ⟨x0, x1⟩ := hcells i hi
  have HIN := Lib.hid hin
  have HA := Lib.hid (allB_erase ha i)
  have hc1 := hc.keep (ba (Below.refl _ _) (.cells #[.bool false] 4))
  have hwo := c_without _ n cap zs i hn hi _ hc1
  have hen := eraseIdx_len (show i < zs.length by rw [hlen]; exact hi)
  have HL := Lib.hid (show (zs.eraseIdx i).length ≤ 1048576 by rw [hen]; omega)
  have hiz0 : (0 : Int) ≤ (i : Int) := by omega
  have hiz : (i : Int) < (n : Int) := by omega
  clear hcells hin hen ha
  refine (callsIn_wide (n := 5)).1 ?_
  refine callsIn_of_wp_marks Try.func77 rfl trivial ?_ rfl
  simp only [Try.ntmps77, List.size_toArray, List.length_cons, List.length_nil, Nat.reduceAdd, Nat.reduceSub, Array.replicate_succ, Array.replicate_zero, List.push_toArray, List.append_toArray, List.nil_append, List.cons_append]
  gi_wp2_with (refine ⟨trivial, ?_⟩; first
    | (gi_at_call 53; refine (callsIn_wide.2 hwo).mono ?_; rintro e w2 ⟨v, rfl, hW2, hB2⟩; obtain ⟨gv, kv, cur, rfl, hgv, hkv, hhv, htv⟩ := hW2; have y0 := keepc hB2 (keep_alloc x0); have y1 := keepc hB2 (keep_alloc x1); have z0 := keep_alloc (o := .cells #[.slice (some ⟨gv, 0, none⟩) (zs.eraseIdx i).length kv] 23) y0; have z1 := keep_alloc (o := .cells #[.slice (some ⟨gv, 0, none⟩) (zs.eraseIdx i).length kv] 23) y1)
    | (gi_at_call 80; refine (callsIn_wide.2 (c_numbers _ _ _ _ _)).mono ?_; rintro e w3 ⟨rfl, rfl⟩))
  obtain ⟨W0, hW0⟩ : ∃ W0, (((w2.alloc (.cells #[.slice (some ⟨gv, 0, none⟩) (zs.eraseIdx i).length kv] 23)).alloc (.cells #[.int .i64 (rAt zs i), .int .i64 (mAt zs i)] 43)).alloc (.cells #[.int .i64 0] 3)).alloc (.cells #[.int .i64 E] 3) = W0 := ⟨_, rfl⟩
  have hsz : W0.heap.size = w2.heap.size + 4 := by rw [← hW0]; simp
  have hsw : w.heap.size < w2.heap.size := by have := hB2.size; simp at this; omega
  have hB02 : Below w2.heap.size w2 W0 := by rw [← hW0]; exact ba (ba (ba (ba (Below.refl _ _) _) _) _) _
  have hB0 : Below w.heap.size w W0 := bt2 (bt2 (ba (Below.refl _ _) _) hB2) hB02
  have q0 : W0.cell? ⟨w.heap.size, 0, none⟩ = some (.bool false) := keepc hB02 (keepc hB2 (by simp))
  have f0 : W0.frozen? ⟨w.heap.size, 0, none⟩ = false := keepf hB02 (keepc hB2 (by simp : (w.alloc (.cells #[.bool false] 4)).cell? ⟨w.heap.size, 0, none⟩ = some (.bool false))) (keepf hB2 (by simp : (w.alloc (.cells #[.bool false] 4)).cell? ⟨w.heap.size, 0, none⟩ = some (.bool false)) (by simp))
  have q1 : W0.cell? ⟨w2.heap.size, 0, none⟩ = some (.slice (some ⟨gv, 0, none⟩) (zs.eraseIdx i).length kv) := by rw [← hW0]; exact keep_alloc (keep_alloc (keep_alloc (by simp)))
  have q2 : W0.cell? ⟨w2.heap.size + 1, 0, none⟩ = some (.int .i64 (rAt zs i)) := by rw [← hW0]; exact keep_alloc (keep_alloc (by simp))
  have q3 : W0.cell? ⟨w2.heap.size + 1, 1, none⟩ = some (.int .i64 (mAt zs i)) := by rw [← hW0]; exact keep_alloc (keep_alloc (by simp))
  have q4 : W0.cell? ⟨w2.heap.size + 1 + 1, 0, none⟩ = some (.int .i64 0) := by rw [← hW0]; exact keep_alloc (cell_new2 _ _ _ _ _)
  have q5 : W0.cell? ⟨w2.heap.size + 1 + 1 + 1, 0, none⟩ = some (.int .i64 E) := by rw [← hW0]; exact cell_new3 _ _ _ _ _ _
  have hcl : Cls W0 (some ⟨gv, 0, none⟩) (zs.eraseIdx i).length (zs.eraseIdx i) := by
    have h := WidC.keep (base := 0) (v := .slice (some ⟨gv, 0, none⟩) (zs.eraseIdx i).length kv) ⟨gv, kv, cur, rfl, Nat.zero_le _, hkv, hhv, htv⟩ hB02
    exact h.cls.1
  rw [hW0]
  clear hW0 hhv htv hgv z0 z1 y0 y1 hwo hc1 x0 x1 hB2
  have HSZ := Lib.hid hsz
  refine wpIn_rangeFunc_ownF rfl (by omega) (gf := 91) (lb := #[.pointer (some ⟨w2.heap.size + 1, 0, none⟩), .pointer (some ⟨w2.heap.size + 1 + 1, 0, none⟩), .pointer (some ⟨w2.heap.size + 1 + 1 + 1, 0, none⟩)]) rfl trivial (enters_of Try.func91 (by kernel_rfl) rfl)
    (num_stops _ (by omega) (w2.heap.size + 1) (w2.heap.size + 1 + 1) (w2.heap.size + 1 + 1 + 1) (rAt zs i) (mAt zs i) 0 E m1 m2 r1 r2 (by omega) (by omega) (by omega) (Below W0.heap.size) (fun W W' h p hp => h.cell (by rw [hsz]; omega)) W0 (by rw [hsz]; omega) (by rw [hsz]; omega) (by rw [hsz]; omega) q2 q3 q4 q5) belowK_t (belowK_b (Nat.le_refl _)) (Below.refl _ _) (fun _ => rfl)
    (fun pre W => (∀ y ∈ pre, covB (zs.eraseIdx i) y = true) ∧ Below W0.heap.size W0 W)
    (fun c pre W => (c = .ret ∧ ∃ p x, pre = p ++ [x] ∧ covB (zs.eraseIdx i) x = false ∧ W.cell? ⟨w.heap.size, 0, none⟩ = some (.bool false)) ∧ Below w.heap.size w W)
    (OwnFrom.and (ownFrom_pure _ _) (ownFrom_below (Nat.le_refl _) (Nat.le_refl _)))
    (fun c => OwnFrom.and (Own.from (fun s A B row hs hg hr => by
      obtain ⟨h1, p, x, h2, h3, h4⟩ := hs
      exact ⟨h1, p, x, h2, h3, cell_kept h4 hg hr⟩) _) (ownFrom_below (Nat.le_refl _) (by rw [hsz]; omega)))
    ⟨by simp, Below.refl _ _⟩
    (fun x => { tmps := #[.slice (some ⟨b, off, none⟩) n cap, .int .i64 i, .int .i64 E, undef, undef, undef, .pointer (some ⟨w.heap.size, 0, none⟩), .pointer (some ⟨w2.heap.size, 0, none⟩), .int .i64 x, .slice (some ⟨b, off, none⟩) n cap, .int .i64 i, .slice (some ⟨gv, 0, none⟩) (zs.eraseIdx i).length kv, .slice (some ⟨b, off, none⟩) n cap, .int .i64 i, .pointer (some ⟨b, off + i * 2, none⟩), .agg #[.int .i64 (rAt zs i), .int .i64 (mAt zs i)], .int .i64 E, .func (.func 91) #[] #[.pointer (some ⟨w2.heap.size + 1, 0, none⟩), .pointer (some ⟨w2.heap.size + 1 + 1, 0, none⟩), .pointer (some ⟨w2.heap.size + 1 + 1 + 1, 0, none⟩)], .int .i64 x, undef, undef, undef, undef], defers := [] }) ?assign ?body ?done ?stop
  case assign =>
    intro l x W K hK
    gi_wp2
    exact hK
  case body =>
    rintro l pre x W ⟨hp, hB⟩ _
    have e0 := (hB.cell (p := ⟨w.heap.size, 0, none⟩) (by rw [HSZ.out]; dsimp only; omega)).trans q0
    have e1 := (hB.cell (p := ⟨w2.heap.size, 0, none⟩) (by rw [HSZ.out]; dsimp only; omega)).trans q1
    have g0 := (hB.frozen (p := ⟨w.heap.size, 0, none⟩) (by rw [HSZ.out]; dsimp only; omega)).trans f0
    have hs4 : w2.heap.size + 4 ≤ W.heap.size := by have := hB.size; rw [HSZ.out] at this; exact this
    have z0 : w.heap.size < W.heap.size := by omega
    have hclW := hcl.keep hB
    have hbW := hB0.trans (hB.mono (by rw [HSZ.out]; omega))
    have HP := Lib.hid hp
    clear hp q0 q1 q2 q3 q4 q5 f0 hsz
    cases he : covB (zs.eraseIdx i) x
    · gi_wp2_with (refine ⟨trivial, ?_⟩; gi_at_call 74; refine (CallsIn.inRound l (callsIn_wide.2 (c_covers _ _ _ (zs.eraseIdx i) x HL.out HA.out _ hclW))).mono ?_; rintro e w5 ⟨rfl, hb5⟩; have y0 := (hb5.cell (p := ⟨w.heap.size, 0, none⟩) z0).trans e0; have x0 := (hb5.frozen (p := ⟨w.heap.size, 0, none⟩) z0).trans g0; rw [he])
      have hbx := bt2 hbW hb5
      exact ⟨(kept_below hb5).trans (KeepsOthers.setCell _ _ _), ⟨rfl, pre, x, rfl, he, set_hit y0⟩, hbx.setCell (Nat.le_refl _) _⟩
    · gi_wp2_with (refine ⟨trivial, ?_⟩; gi_at_call 74; refine (CallsIn.inRound l (callsIn_wide.2 (c_covers _ _ _ (zs.eraseIdx i) x HL.out HA.out _ hclW))).mono ?_; rintro e w5 ⟨rfl, hb5⟩; have y0 := (hb5.cell (p := ⟨w.heap.size, 0, none⟩) z0).trans e0; have x0 := (hb5.frozen (p := ⟨w.heap.size, 0, none⟩) z0).trans g0; rw [he])
      refine ⟨kept_below hb5, hb5.mono hB.size, ?_, bt2 hB hb5⟩
      intro y hy
      rcases List.mem_append.1 hy with h | h
      · exact HP.out y h
      · have : y = x := by simpa using h
        subst this
        exact he
  case done =>
    rintro D ys W hD hS ⟨hp, hB⟩ hK
    have HF := Lib.hid (spa_all HIN.out hE hS hp)
    have e0 := (hB.cell (p := ⟨w.heap.size, 0, none⟩) (by rw [HSZ.out]; dsimp only; omega)).trans q0
    have g0 := (hB.frozen (p := ⟨w.heap.size, 0, none⟩) (by rw [HSZ.out]; dsimp only; omega)).trans f0
    have hbW := hB0.trans (hB.mono (by rw [HSZ.out]; omega))
    have hDw : w.heap.size ≤ D := by rw [HSZ.out] at hD; omega
    clear hp q0 q1 q2 q3 q4 q5 f0 hsz
    gi_wp2
    have hK' := (KeepsOthers.setCell W ⟨w.heap.size, 0, none⟩ (.bool true)).same D _ hK rfl
    refine ⟨by simp, .inl ⟨_, _, rfl, run_takeDeferred hK', ?_⟩⟩
    have u0 := cell_kept (set_hit (v := .bool true) e0) (grownBy_putObj' _ D (.deferred none)) (fun r e => by cases e; exact ⟨_, hK', rfl⟩)
    refine ⟨.bool true, ?_, by rw [HF.out], (hbW.setCell (Nat.le_refl _) _).trans (belowK_b (w := w) (Nat.le_refl _) _ D _ _ hDw hK' rfl rfl)⟩
    simp [results, Try.f77, go_sem, u0]
  case stop =>
    rintro D c pre W hD hpre ⟨⟨rfl, p, x, hpp, hx, c0⟩, hB⟩ hK
    have HF := Lib.hid (spa_part HIN.out hE hpre hpp hx)
    have hDw : w.heap.size ≤ D := by rw [HSZ.out] at hD; omega
    clear hpp hx q0 q1 q2 q3 q4 q5 f0 hsz
    gi_wp2
    refine ⟨by simp, .inl ⟨_, _, rfl, run_takeDeferred hK, ?_⟩⟩
    have u0 := cell_kept c0 (grownBy_putObj' _ D (.deferred none)) (fun r e => by cases e; exact ⟨_, hK, rfl⟩)
    refine ⟨.bool false, ?_, by rw [HF.out], hB.trans (belowK_b (w := w) (Nat.le_refl _) W D _ _ hDw hK rfl rfl)⟩
    simp [results, Try.f77, go_sem, u0]
end Go.Proofs.Ytfagjhccdbielaa
namespace Go.Proofs.Ytfagjhccdbielaa
open Go.RowKit
/-- the places below k of classes that are spare below E -/
def splK (zs : List Cl) (E : Int) : Nat → List Int
  | 0 => []
  | k + 1 => bif spaB zs k E then splK zs E k ++ [(k : Int)] else splK zs E k
def splL (zs : List Cl) (E : Int) : List Int := splK zs E zs.length
theorem splK_le (zs : List Cl) (E : Int) (k : Nat) : (splK zs E k).length ≤ k := by
  induction k with
  | zero => simp [splK]
  | succ k ih =>
    simp only [splK]
    cases spaB zs k E
    · simp only [cond_false]; omega
    · simp only [cond_true, List.length_append, List.length_singleton]; omega
set_option maxRecDepth 20000 in
set_option maxHeartbeats 1000000 in
theorem c_sparePlaces (s : Option Addr) (n cap : Nat) (zs : List Cl) (E : Int) (hn : n ≤ 1000) (ha : allB zs = true) (hE1 : 1 ≤ E) (hE : E ≤ 1000) (w : World) (hc : Cls w s n zs) :
    Calls Try.prog 48 #[.slice s n cap, .int .i64 E] w fun e w' => ∃ v, e = .returned v ∧ OwnI w' w.heap.size 3 v (splL zs E) ∧ Below w.heap.size w w' := by
  have hlen := hc.len
  obtain ⟨i0, hi, hz0, hz1, hz2⟩ := info_parts infoI
  have HT := Lib.hid (show splK zs E n = splL zs E by unfold splL; rw [hlen])
  have HA := Lib.hid ha
  clear hlen ha
  go_enter Try.func48, Try.ntmps48
  go_wp2_with fail
  go_loopw [5, 9] (fun v i wr => ∃ (k : Nat), k ≤ n ∧ i = .int .i64 k ∧ wr.ownsRow w.heap.size 3 1 v (splK zs E k).length ((splK zs E k).map (Value.int .i64)) ∧ Below w.heap.size w wr) (fun _ i _ => n - (intOf i).toNat)
  case atStart => exact ⟨0, Nat.zero_le _, rfl, World.ownsRow_nil _ _ _ _, Below.refl _ _⟩
  case round =>
    obtain ⟨k, hk, rfl, hO, hB⟩ := hrel
    have hcr := hc.keep hB
    by_cases hlt : k < n
    · have hKl := splK_le zs E k
      cases he : spaB zs k E
      · have HK := Lib.hid (show splK zs E (k + 1) = splK zs E k by simp only [splK, he, cond_false])
        go_wp2_with fail
        refine (c_spareAt _ _ _ zs k E (by omega) hlt HA.out hE1 hE _ hcr).mono ?_
        rintro e w5 ⟨rfl, hb5⟩
        have hB5 := bt2 hB hb5
        have hO5 := row_keep hO hb5
        rw [he]
        go_wp2_with fail
        go_roundw
        case rel => exact ⟨k + 1, by omega, by go_num, by rw [HK.out]; exact hO5, hB5⟩
        case measure => simp [intOf]; omega
      · have HK := Lib.hid (show splK zs E (k + 1) = splK zs E k ++ [(k : Int)] by simp only [splK, he, cond_true])
        go_wp2_with fail
        refine (c_spareAt _ _ _ zs k E (by omega) hlt HA.out hE1 hE _ hcr).mono ?_
        rintro e w5 ⟨rfl, hb5⟩
        have hB5 := bt2 hB hb5
        have hO5 := row_keep hO hb5
        have hbs : w.heap.size ≤ w5.heap.size := hB5.size
        rw [he]
        generalize hLe : (splK zs E k).length = L at *
        go_wp2_with (at_builtin; refine wpList_append_own _ rfl _ _ 27 rfl w.heap.size 3 i0 (.int .i64 0) 1 8 Try.underlying27 hi hz0 hz1 hz2 rfl (by decide) u5 L _ rfl (hO5.alloc _) ⟨w5.heap.size, 0, none⟩ 1 1 [.int .i64 k] rfl rfl (one_new w5 _ _) (by simp [Value.oneCell']) (by unfold maxLen; omega) (by omega) (by simp; omega) ?_; intro v7 w7 hown7 hgrow7 _)
        have hb7 : Below w.heap.size w w7 := (hB5.alloc hbs _).grown hgrow7 (by simp; omega) (fun g e => (hO5.lt g e).1)
        go_roundw
        case rel => exact ⟨k + 1, by omega, by go_num, by rw [HK.out, List.map_append, List.length_append, hLe]; exact hown7, hb7⟩
        case measure => simp [intOf]; omega
    · have hk' : k = n := by omega
      subst hk'
      rw [HT.out] at hO
      have hOC : OwnI wr w.heap.size 3 u5 (splL zs E) := hO
      clear hO
      go_wp2_with fail
      go_ret
      exact ⟨_, rfl, hOC, hB⟩
def hspR (zs : List Cl) : List Int := bif sysB zs then splL zs (perI zs) else []
theorem hspR_t {zs : List Cl} (h : sysB zs = true) : hspR zs = splL zs (perI zs) := by simp [hspR, h]
theorem hspR_f {zs : List Cl} (h : sysB zs = false) : hspR zs = [] := by simp [hspR, h]
theorem hspR_le (zs : List Cl) : (hspR zs).length ≤ 1000 := by
  cases h : sysB zs
  · simp [hspR_f h]
  · rw [hspR_t h]
    have := splK_le zs (perI zs) zs.length
    have := (sysB_facts h).2.1
    unfold splL
    omega
set_option maxHeartbeats 400000 in
theorem c_implHoleSpare (s : Option Addr) (n cap : Nat) (zs : List Cl) (hn : n ≤ 1048576) (w : World) (hc : Cls w s n zs) : Calls Try.prog 23 #[.slice s n cap] w (RetI w (hspR zs) (sysB zs)) := by
  cases hs : sysB zs
  · rw [hspR_f hs]
    have hcon := c_implSystemPeriod_f s n cap zs hn hs w hc
    go_enter Try.func23, Try.ntmps23
    go_wp2_with (go_at_call 36; refine hcon.mono ?_; rintro e w2 ⟨rfl, hb⟩)
    go_ret2
    exact ⟨_, rfl, World.ownsRow_nil _ _ _ _, hb⟩
  · rw [hspR_t hs]
    have hcon := c_implSystemPeriod_t s n cap zs hn hs w hc
    obtain ⟨hl1, hl2, ha, _, P1, P2⟩ := sysB_facts hs
    have hlen := hc.len
    go_enter Try.func23, Try.ntmps23
    go_wp2_with fail
    refine hcon.mono ?_
    rintro e w2 ⟨rfl, hb⟩
    have hc2 := hc.keep hb
    go_wp2_with fail
    refine (c_sparePlaces _ _ _ zs _ (by omega) ha P1 P2 _ hc2).mono ?_
    rintro e w3 ⟨v, rfl, hO, hb3⟩
    go_wp2_with fail
    go_ret2
    exact ⟨_, rfl, hO.low hb.size, bt2 hb hb3⟩
end Go.Proofs.Ytfagjhccdbielaa
namespace Go.Proofs.Ytfagjhccdbielaa
open Go.RowKit
theorem cells2_takeAt {zs : List Cl} {i j : Nat} {u : Value} (h : (cells2 (zs.take i))[j]? = some u) : (cells2 zs)[j]? = some u := by
  rw [← cells2_take] at h
  obtain ⟨hl, _⟩ := List.getElem?_eq_some_iff.1 h
  rw [List.length_take] at hl
  rwa [List.getElem?_take_of_lt (by omega)] at h
theorem cells2_dropAt {zs : List Cl} {i j : Nat} {u : Value} (h : (cells2 (zs.drop i))[j]? = some u) : (cells2 zs)[i * 2 + j]? = some u := by
  rwa [← cells2_drop, List.getElem?_drop] at h
theorem add_add (b a c j : Nat) : (⟨b, a + c, none⟩ : Addr).add j = (⟨b, a, none⟩ : Addr).add (c + j) := by
  rw [Addr.add_lit, Addr.add_lit, Nat.add_assoc]
def WoPost (zs : List Cl) (i : Nat) (w : World) (e : Ending) (w' : World) : Prop := ∃ v, e = .returned v ∧ OwnC w' w.heap.size 43 v (zs.eraseIdx i) ∧ Below w.heap.size w w'
set_option maxRecDepth 20000 in
set_option maxHeartbeats 2000000 in
theorem c_l3Without (s : Option Addr) (n cap : Nat) (zs : List Cl) (i : Nat) (hn : n ≤ 1048576) (hcap : n ≤ cap) (hcb : cap ≤ 9223372036854775807) (hi : i < n) (w : World) (hc : Cls w s n zs) :
    Calls Try.prog 78 #[.slice s n cap, .int .i64 i] w (WoPost zs i w) := by
  have hlen := hc.len
  obtain ⟨i0, hi0, hz0, hz1, hz2⟩ := info_parts infoC
  rcases hc.lies with h0 | ⟨b, off, rfl, hbw, hcells⟩
  · omega
  have HC := Lib.hid (cls_at hc (by omega))
  have hcA := hc.keep (ba (Below.refl _ _) (.cells #[] 43))
  have HT := Lib.hid (cells2_oc (zs.take i))
  have HD := Lib.hid (cells2_oc (zs.drop (i + 1)))
  have HNt := Lib.hid (show (cells2 (zs.take i)).length = i * 2 by rw [cells2_length, List.length_take]; omega)
  have HNd := Lib.hid (show (cells2 (zs.drop (i + 1))).length = (n - (i + 1)) * 2 by rw [cells2_length, List.length_drop, hlen])
  have HL := Lib.hid hlen
  have HCt := Lib.hid (fun (j : Nat) (u : Value) (hj : (cells2 (zs.take i))[j]? = some u) => show (w.alloc (.cells #[] 43)).cell? ((⟨b, off, none⟩ : Addr).add j) = some u from cls_at hcA (by omega) j u (cells2_takeAt hj))
  have HCd := Lib.hid (fun (W : World) (hW : Cls W (some ⟨b, off, none⟩) n zs) (j : Nat) (u : Value) (hj : (cells2 (zs.drop (i + 1)))[j]? = some u) => show W.cell? ((⟨b, off + (i + 1) * 2, none⟩ : Addr).add j) = some u by
    rw [add_add]
    exact cls_at hW (by omega) _ u (cells2_dropAt hj))
  have hO0 : (w.alloc (.cells #[] 43)).ownsRow w.heap.size 43 2 (.slice (some ⟨w.heap.size, 0, none⟩) 0 0) 0 [] := World.ownsRow_lit w #[] 0 (Nat.le_refl _) (by unfold maxLen; omega) rfl
  have hwb : w.heap.size ≠ b := by omega
  clear hcells hlen
  have hiz0 : (0 : Int) ≤ (i : Int) := by omega
  have hiz1 : (i : Int) ≤ (cap : Int) := by omega
  have hiz2 : (i : Int) ≤ (n : Int) := by omega
  have hiz : (i : Int) < (n : Int) := by omega
  have hnc : (n : Int) ≤ (cap : Int) := by omega
  have hA1 : (i : Int) + 1 ≤ (n : Int) := by omega
  have hA0 : (0 : Int) ≤ (i : Int) + 1 := by omega
  have hw : IntKind.i64.wrap ((i : Int) + 1) = (i : Int) + 1 := IntWalk.i64_in _ (by omega)
  have hAt : ((i : Int) + 1).toNat = i + 1 := by omega
  have hc0 : ¬ cap = 0 := by omega
  have hcap2 : i + 1 < cap ∨ cap = i + 1 := by omega
  go_enter Try.func78, Try.ntmps78
  go_wp2_with fail
  by_cases hA : i + 1 < cap
  · have hAn : ¬ cap = i + 1 := by omega
    clear hcap2
    go_region_held3 (fun _ => True) (trivial) (first
      | (refine step_append_own rfl (.tmp 5) (.tmp 8) 23 rfl w.heap.size 43 i0 (.agg #[.int .i64 0, .int .i64 0]) 2 16 Try.underlying23 hi0 hz0 hz1 hz2 rfl Nat.two_pos (.slice (some ⟨w.heap.size, 0, none⟩) 0 0) 0 [] rfl hO0 ⟨b, off, none⟩ i _ (cells2 (zs.take i)) rfl HNt.out HCt.out HT.out (by unfold maxLen; omega) (by omega) (by simp) ?_; intro v5 w5 hown5 hgrow5 _; have hc5 := Cls.other (hcA.keep (by repeat (first | exact Below.refl _ _ | assumption | refine Below.drew ?_ | refine bel_drewN ?_ _ | refine ba ?_ _ | refine bt2 ?_ (by assumption) | refine Below.setCell ?_ (by simp <;> omega) _))) hgrow5 hwb; have hB5 : Below w.heap.size w w5 := Below.grown (by repeat (first | exact Below.refl _ _ | assumption | refine Below.drew ?_ | refine bel_drewN ?_ _ | refine ba ?_ _ | refine bt2 ?_ (by assumption) | refine Below.setCell ?_ (by simp <;> omega) _)) hgrow5 (by simp) (fun g e => by cases e; exact Nat.le_refl _); have HCd5 := Lib.hid (HCd.out _ hc5); have hbs5 := hB5.size)
      | (refine step_append_own rfl (.tmp 9) (.tmp 13) 23 rfl w.heap.size 43 i0 (.agg #[.int .i64 0, .int .i64 0]) 2 16 Try.underlying23 hi0 hz0 hz1 hz2 rfl Nat.two_pos v5 (0 + i) ([] ++ cells2 (zs.take i)) rfl hown5 ⟨b, off + (i + 1) * 2, none⟩ (n - (i + 1)) (cap - (i + 1)) (cells2 (zs.drop (i + 1))) rfl HNd.out HCd5.out HD.out (by unfold maxLen; omega) (by omega) hbs5 ?_; intro v7 w7 hown7 hgrow7 _)
      | fail)
    all_goals
      have hB7 : Below w.heap.size w w7 := hB5.grown hgrow7 hbs5 (fun g e => (hown5.lt g e).1)
      have hOC : OwnC w7 w.heap.size 43 v7 (zs.eraseIdx i) := by
        unfold OwnC
        rw [eraseIdx_len (by rw [HL.out]; exact hi), HL.out, List.eraseIdx_eq_take_drop_succ, cells2_append, show n - 1 = 0 + i + (n - (i + 1)) by omega]
        simpa using hown7
      clear hown5 hown7 hgrow7 hgrow5
      go_wp2_with fail
      go_ret
      exact ⟨_, rfl, hOC, hB7⟩
  · have hAn : cap = i + 1 := by omega
    have hnn : n = i + 1 := by omega
    have hz1' : (i : Int) ≤ (i : Int) + 1 := by omega
    have hz2' : (i : Int) < (i : Int) + 1 := by omega
    have hz3 : i < i + 1 := by omega
    have hz4 : i ≤ i + 1 := by omega
    clear hcap2
    go_region_held3 (fun _ => True) (trivial) (first
      | (refine step_append_own rfl (.tmp 5) (.tmp 8) 23 rfl w.heap.size 43 i0 (.agg #[.int .i64 0, .int .i64 0]) 2 16 Try.underlying23 hi0 hz0 hz1 hz2 rfl Nat.two_pos (.slice (some ⟨w.heap.size, 0, none⟩) 0 0) 0 [] rfl hO0 ⟨b, off, none⟩ i _ (cells2 (zs.take i)) rfl HNt.out HCt.out HT.out (by unfold maxLen; omega) (by omega) (by simp) ?_; intro v5 w5 hown5 hgrow5 _; have hc5 := Cls.other (hcA.keep (by repeat (first | exact Below.refl _ _ | assumption | refine Below.drew ?_ | refine bel_drewN ?_ _ | refine ba ?_ _ | refine bt2 ?_ (by assumption) | refine Below.setCell ?_ (by simp <;> omega) _))) hgrow5 hwb; have hB5 : Below w.heap.size w w5 := Below.grown (by repeat (first | exact Below.refl _ _ | assumption | refine Below.drew ?_ | refine bel_drewN ?_ _ | refine ba ?_ _ | refine bt2 ?_ (by assumption) | refine Below.setCell ?_ (by simp <;> omega) _)) hgrow5 (by simp) (fun g e => by cases e; exact Nat.le_refl _); have HCd5 := Lib.hid (HCd.out _ hc5); have hbs5 := hB5.size)
      | (refine step_append_own rfl (.tmp 9) (.tmp 13) 23 rfl w.heap.size 43 i0 (.agg #[.int .i64 0, .int .i64 0]) 2 16 Try.underlying23 hi0 hz0 hz1 hz2 rfl Nat.two_pos v5 (0 + i) ([] ++ cells2 (zs.take i)) rfl hown5 ⟨b, off, none⟩ 0 0 [] rfl rfl (by simp) (by simp) (by unfold maxLen; omega) (by omega) hbs5 ?_; intro v7 w7 hown7 hgrow7 _)
      | fail)
    all_goals
      have hB7 : Below w.heap.size w w7 := hB5.grown hgrow7 hbs5 (fun g e => (hown5.lt g e).1)
      have hOC : OwnC w7 w.heap.size 43 v7 (zs.eraseIdx i) := by
        unfold OwnC
        rw [eraseIdx_len (by rw [HL.out]; exact hi), HL.out, List.eraseIdx_eq_take_drop_succ, List.drop_eq_nil_of_le (by rw [HL.out]; omega), List.append_nil, show n - 1 = 0 + i + 0 by omega]
        simpa using hown7
      clear hown5 hown7 hgrow7 hgrow5
      go_wp2_with fail
      go_ret
      exact ⟨_, rfl, hOC, hB7⟩
end Go.Proofs.Ytfagjhccdbielaa
