/- Chapter 7, the model: lists of lists of places of the call's own; the recursion that fills the circle. -/
import Derived.Test.YtchplpaniafhlaaTc
import Derived.Test.YtchplpaniafhlaaMathTc
import Derived.OwnWalk
import Derived.Laws.OwnMore
namespace Go.Proofs.Ytchplpaniafhlaa
open Go.RowKit
/-- a slice whose block holds numbers -/
def Ti (w : World) (s : Option Addr) : Prop := ∀ b off, s = some ⟨b, off, none⟩ → ∃ cur fz, w.heap[b]? = some (Obj.cells cur 3 fz)
/-- what a call leaves as it was: all below the base, and all blocks of numbers -/
structure Frm (w : World) (base : Nat) (w' : World) : Prop where
  os : w'.os = w.os
  tape : w'.tape = w.tape
  output : w'.output = w.output
  size : w.heap.size ≤ w'.heap.size
  low : ∀ b : Nat, b < base → b < w.heap.size → w'.heap[b]? = w.heap[b]?
  num : ∀ (b : Nat) (cur : Array Value) (fz : Nat × Nat), w.heap[b]? = some (Obj.cells cur 3 fz) → w'.heap[b]? = w.heap[b]?
theorem Frm.refl (w : World) (base : Nat) : Frm w base w := ⟨rfl, rfl, rfl, Nat.le_refl _, fun _ _ _ => rfl, fun _ _ _ _ => rfl⟩
theorem Frm.trans {a b c : World} {base : Nat} (h : Frm a base b) (k : Frm b base c) : Frm a base c :=
  ⟨k.os.trans h.os, k.tape.trans h.tape, k.output.trans h.output, Nat.le_trans h.size k.size, fun x hx hs => (k.low x hx (Nat.lt_of_lt_of_le hs h.size)).trans (h.low x hx hs),
    fun x cur fz hc => (k.num x cur fz ((h.num x cur fz hc).trans hc)).trans (h.num x cur fz hc)⟩
theorem Frm.of_below {w w' : World} (base : Nat) (h : Below w.heap.size w w') : Frm w base w' :=
  ⟨h.os, h.tape, h.output, h.size, fun b _ hs => h.block b hs, fun b _ _ hc => h.block b (block_lt hc)⟩
theorem Frm.below {w w' : World} (h : Frm w w.heap.size w') : Below w.heap.size w w' := ⟨h.os, h.tape, h.output, h.size, fun b hb => h.low b hb hb⟩
theorem Frm.of_grown {w w' : World} {base n : Nat} {v : Value} {vs : List Value} (hr : w.ownsRow base 22 1 v n vs) (hg : w.grownBy w' v.ownBlock) : Frm w base w' := by
  refine ⟨hg.os, hg.tape, hg.output, hg.size, fun b hb hs => ?_, fun b cur fz hc => ?_⟩
  · refine hg.block b hs fun e => ?_
    have := (hr.lt b e.symm).1
    omega
  · refine hg.block b (block_lt hc) fun e => ?_
    rcases hr.2 with ⟨rfl, _⟩ | ⟨g', cap, cur', rfl, _, hgb, _⟩
    · simp [Value.ownBlock] at e
    · obtain rfl : b = g' := by simpa [Value.ownBlock] using e
      rw [hc] at hgb
      simp at hgb
theorem Ti.frm {w w' : World} {base : Nat} {s : Option Addr} (h : Ti w s) (k : Frm w base w') : Ti w' s := fun b off e => by
  obtain ⟨cur, fz, hc⟩ := h b off e
  exact ⟨cur, fz, (k.num b cur fz hc).trans hc⟩
theorem Ints.frm {w w' : World} {base n : Nat} {s : Option Addr} {zs : List Int} (h : Ints w s n zs) (ht : Ti w s) (k : Frm w base w') : Ints w' s n zs := by
  refine ⟨h.len, ?_⟩
  rcases h.lies with h0 | ⟨b, off, hs, hb, hc⟩
  · exact .inl h0
  · refine .inr ⟨b, off, hs, Nat.lt_of_lt_of_le hb k.size, fun i hi => ?_⟩
    obtain ⟨cur, fz, hcb⟩ := ht b off hs
    rw [World.cell?_of_block (a := ⟨b, off + i, none⟩) (k.num b cur fz hcb)]
    exact hc i hi
theorem Ints.frm_low {w w' : World} {base n : Nat} {s : Option Addr} {zs : List Int} (h : Ints w s n zs) (ht : ∀ b off, s = some ⟨b, off, none⟩ → b < base) (k : Frm w base w') : Ints w' s n zs := by
  refine ⟨h.len, ?_⟩
  rcases h.lies with h0 | ⟨b, off, hs, hb, hc⟩
  · exact .inl h0
  · refine .inr ⟨b, off, hs, Nat.lt_of_lt_of_le hb k.size, fun i hi => ?_⟩
    rw [World.cell?_of_block (a := ⟨b, off + i, none⟩) (k.low b (ht b off hs) hb)]
    exact hc i hi
theorem OwnI.ti {w : World} {base n cap : Nat} {s : Option Addr} {zs : List Int} (h : OwnI w base 3 (.slice s n cap) zs) : Ti w s := fun b off e => by
  subst e
  rcases h.2 with ⟨h1, _⟩ | ⟨g, cap', cur, hv, _, hh, _⟩
  · simp at h1
  · simp only [Value.slice.injEq, Option.some.injEq, Addr.mk.injEq] at hv
    obtain ⟨⟨rfl, _, _⟩, _, _⟩ := hv
    exact ⟨cur, (0, 0), hh⟩
theorem OwnI.frm {w w' : World} {base b2 : Nat} {v : Value} {zs : List Int} (h : OwnI w base 3 v zs) (k : Frm w b2 w') : OwnI w' base 3 v zs := by
  refine ⟨h.1, ?_⟩
  rcases h.2 with h2 | ⟨g, cap, cur, hv, hg, hh, r⟩
  · exact .inl h2
  · exact .inr ⟨g, cap, cur, hv, hg, by rw [k.num g cur _ hh]; exact hh, r⟩
/-- a list of lists of numbers in the call's own memory -/
def LL (w : World) (base : Nat) (v : Value) (zss : List (List Int)) : Prop :=
  ∃ vs, w.ownsRow base 22 1 v zss.length vs ∧ ∀ j, j < zss.length → ∃ s c, vs[j]? = some (.slice s (zss[j]?.getD []).length c) ∧ Ints w s (zss[j]?.getD []).length (zss[j]?.getD []) ∧ Ti w s
theorem LL.below {w w' : World} {base : Nat} {v : Value} {zss : List (List Int)} (h : LL w base v zss) (k : Below w.heap.size w w') : LL w' base v zss := by
  obtain ⟨vs, h1, h2⟩ := h
  refine ⟨vs, row_keep h1 k, fun j hj => ?_⟩
  obtain ⟨s, c, e1, e2, e3⟩ := h2 j hj
  exact ⟨s, c, e1, e2.keep k, e3.frm (Frm.of_below base k)⟩
theorem LL.row {w : World} {base : Nat} {v : Value} {zss : List (List Int)} (h : LL w base v zss) : ∃ vs, w.ownsRow base 22 1 v zss.length vs ∧ (∀ g, v.ownBlock = some g → base ≤ g) ∧
    ∀ (w1 w2 : World) (v' : Value) (s : Option Addr) (l c : Nat) (z : List Int), Below w.heap.size w w1 → w1.ownsRow base 22 1 v zss.length vs → w1.grownBy w2 v.ownBlock → w2.ownsRow base 22 1 v' (zss.length + 1) (vs ++ [.slice s l c]) → Ints w1 s l z → Ti w1 s → LL w2 base v' (zss ++ [z]) ∧ Frm w base w2 := by
  obtain ⟨vs, h1, h2⟩ := h
  refine ⟨vs, h1, fun g e => (h1.lt g e).1, fun w1 w2 v' s l c z hb hr hg hown hI hT => ?_⟩
  have hF := Frm.of_grown hr hg
  have hl := hI.len
  subst hl
  refine ⟨⟨_, by rw [List.length_append]; exact hown, fun j hj => ?_⟩, (Frm.of_below base hb).trans hF⟩
  have hvl : vs.length = zss.length := by have := h1.1; omega
  by_cases e : j < zss.length
  · obtain ⟨s', c', e1, e2, e3⟩ := h2 j e
    have hz : (zss ++ [z])[j]? = zss[j]? := List.getElem?_append_left e
    rw [hz]
    have t1 := e3.frm (Frm.of_below base hb)
    exact ⟨s', c', by rw [List.getElem?_append_left (by omega)]; exact e1, (e2.keep hb).frm t1 hF, t1.frm hF⟩
  · have hj' : j = zss.length := by rw [List.length_append] at hj; simp at hj; omega
    subst hj'
    have hz : (zss ++ [z])[zss.length]? = some z := by simp
    rw [hz]
    exact ⟨s, c, by rw [List.getElem?_append_right (by omega), hvl]; simp, hI.frm hT hF, hT.frm hF⟩
theorem infoLL : (Try.prog.info? 22).map (fun i => (i.zero, i.size, i.bytes)) = some (some (.slice none 0 0), 1, 24) := by kernel_rfl
def FilPost (w : World) (base : Nat) (zss : List (List Int)) (e : Ending) (w' : World) : Prop := ∃ v', e = .returned v' ∧ LL w' base v' zss ∧ Frm w base w'
theorem int_pow {N P : Nat} (h : P = 2 ^ N) : (2 : Int) ^ N = (P : Int) := by subst h; simp
theorem shr_cast (u k : Nat) : (u : Int) / 2 ^ k = ((u / 2 ^ k : Nat) : Int) := by
  rw [show (2 : Int) ^ k = ((2 ^ k : Nat) : Int) by simp]; simp
theorem and_one {u k : Nat} (hu : u < 16777216) : bits .and .i64 ((u / 2 ^ k : Nat) : Int) 1 = ((u.testBit k).toNat : Int) := by
  have h := and_nat (u / 2 ^ k) 1 (by have := Nat.div_le_self u (2 ^ k); omega) (by omega)
  rw [bit_shr] at h
  exact h
theorem mskL_lt24 {n : Nat} (l : List Int) (hn : n ≤ 24) (h : ∀ x ∈ l, 0 ≤ x ∧ x < n) : mskL l < 16777216 := Nat.lt_of_lt_of_le (mskL_lt l h) (pow_le24 hn)
theorem row_slice {w : World} {base n size : Nat} {e : TypeId} {v : Value} {xs : List Value} (h : w.ownsRow base e size v n xs) : ∃ s c, v = .slice s n c := by
  rcases h.2 with ⟨rfl, h0⟩ | ⟨g, cap', cur, rfl, _⟩
  · exact ⟨none, 0, by rw [h0]⟩
  · exact ⟨_, _, rfl⟩
theorem own_news {w : World} {base g n cap : Nat} {b : List Int} (h : OwnI w base 3 (.slice (some ⟨g, 0, none⟩) n cap) b) (hn : b.length = n) : ∀ j u, (b.map (Value.int .i64))[j]? = some u → w.cell? ((⟨g, 0, none⟩ : Addr).add j) = some u := by
  intro j u hj
  rw [List.getElem?_map] at hj
  have hlt : j < b.length := by
    rcases Nat.lt_or_ge j b.length with h1 | h1
    · exact h1
    · rw [List.getElem?_eq_none h1] at hj; simp at hj
  have hc := h.cell hn j (by omega)
  rw [List.getElem?_eq_getElem hlt] at hj hc
  simp only [Option.map_some, Option.some.injEq, Option.getD_some] at hj hc
  subst hj
  have e : ((⟨g, 0, none⟩ : Addr).add j) = ⟨g, j, none⟩ := by unfold Addr.add; split <;> simp_all
  rw [e]
  exact hc
theorem ownR_zero {w : World} {B L : Nat} {v : Value} {xs : List Value} (h : w.ownsRow B 3 1 v (0 + L) ([] ++ xs)) : w.ownsRow B 3 1 v L xs := by
  rw [Nat.zero_add, List.nil_append] at h
  exact h
theorem ownI_snoc {w : World} {B base L c : Nat} {s : Option Addr} {b : List Int} {t : Int} (h : w.ownsRow B 3 1 (.slice s (L + 1) c) (L + 1) (b.map (Value.int .i64) ++ [.int .i64 t])) (hb : b.length = L) (hB : base ≤ B) : OwnI w base 3 (.slice s (L + 1) c) (b ++ [t]) := by
  refine OwnI.low (base := B) ?_ hB
  unfold OwnI
  rw [List.length_append, List.map_append, hb]
  exact h
theorem ints_one (b : List Int) : ∀ u ∈ b.map (Value.int .i64), u.oneCell' = true := by
  intro u hu
  obtain ⟨x, _, rfl⟩ := List.mem_map.1 hu
  rfl
/-- how the set of a moved tile grows -/
theorem msk_next {N : Nat} {a : List Int} {t : Int} {k : Nat} (hk : k < a.length) {X : Nat} (hX : (gZ a k + t) % (N : Int) = (X : Int)) : mskL ((tmvL N a t).take (k + 1)) = mskL ((tmvL N a t).take k) ||| 2 ^ X := by
  rw [show (tmvL N a t).take (k + 1) = (tmvL N a t).take k ++ [(gZ a k + t) % (N : Int)] from take_next (fun x => (x + t) % (N : Int)) a k hk, mskL_snoc, hX, Int.toNat_natCast]
theorem fil_used {N : Nat} {a : List Int} {used : Nat} {t : Int} (hT : Til (N : Int) a) (hu : used < 2 ^ N) (hd : setM N a t &&& used = 0) : used < used ||| setM N a t ∧ used ||| setM N a t < 2 ^ N := by
  refine ⟨or_gt hd (mskL_pos (movL_ne_aux hT t)), Nat.or_lt_two_pow hu (mskL_lt _ fun x hx => tmvL_bd a t hT.1 x hx)⟩
  where
  movL_ne_aux {N : Nat} {a : List Int} (hT : Til (N : Int) a) (t : Int) : tmvL N a t ≠ [] := tmvL_ne hT t
set_option maxRecDepth 20000 in
set_option maxHeartbeats 4000000 in
theorem c_l7Fill (N : Nat) (s : Option Addr) (l cap : Nat) (a : List Int) (hT : Til (N : Int) a) (base : Nat) (hs : ∀ b off, s = some ⟨b, off, none⟩ → b < base) : ∀ (f used : Nat) (sb : Option Addr) (lb cb : Nat) (b : List Int) (v : Value) (zss : List (List Int)) (w : World),
    2 ^ N - 1 - used < f → used < 2 ^ N → lb + (2 ^ N - 1 - used) ≤ 33554432 → 1 ≤ lb → zss.length + (fil N a f used b).length < 100000 → base ≤ w.heap.size → Ints w s l a → OwnI w base 3 (.slice sb lb cb) b → b.length = lb → LL w base v zss →
    Calls Try.prog 19 #[.int .i64 (N : Int), .slice s l cap, .int .i64 (used : Int), .slice sb lb cb, v, .int .i64 100000] w (FilPost w base (zss ++ fil N a f used b)) := by
  intro f
  induction f with
  | zero => intro used sb lb cb b v zss w hf; omega
  | succ f ih =>
    intro used sb lb cb b v zss w hf hu hlb hlb1 hzl hbw ha hb hbl hL
    obtain ⟨n1, n2, l1, l2⟩ := tsizes hT ha.len
    have hN24 : N ≤ 24 := by omega
    obtain ⟨P, hP⟩ : ∃ P, P = 2 ^ N := ⟨_, rfl⟩
    have hPi := int_pow hP
    have hP24 : P ≤ 16777216 := by rw [hP]; exact pow_le24 hN24
    have hP1 : 1 ≤ P := by rw [hP]; exact Nat.two_pow_pos N
    rw [← hP] at hf hu hlb ih
    obtain ⟨i0, hi, hz0, hz1, hz2⟩ := info_parts infoLL
    obtain ⟨vs, hrow, hvg, hgrow⟩ := hL.row
    have hs0 : ∃ sv cv, v = .slice sv zss.length cv := by
      rcases hrow.2 with ⟨rfl, h0⟩ | ⟨g, cap', cur, rfl, _⟩
      · exact ⟨none, 0, by rw [h0]⟩
      · exact ⟨_, _, rfl⟩
    obtain ⟨sv, cv, rfl⟩ := hs0
    have HZZ := Lib.hid (show zss.length < 100000 by omega)
    have hcz : decide ((100000 : Int) ≤ (zss.length : Int)) = false := decide_eq_false (by omega)
    by_cases hful : used = P - 1
    · have e : fil N a (f + 1) used b = [b] := by rw [hful, hP]; exact fil_full N a f b
      have HE := Lib.hid e
      have hui : ((used : Int) == (P : Int) - 1) = true := by simp; omega
      subst hbl
      have hbI := (spreadI hb).keep (ba (Below.refl w.heap.size w) (.cells #[.slice sb b.length cb] 22))
      have hbT := (hb.keep (ba (Below.refl w.heap.size w) (.cells #[.slice sb b.length cb] 22))).ti
      have HG := Lib.hid (fun w2 v' hown hg => hgrow (w.alloc (.cells #[.slice sb b.length cb] 22)) w2 v' sb b.length cb b (ba (Below.refl _ _) _) (hrow.alloc _) hg hown hbI hbT)
      clear hgrow hvg ih hL hf hlb hzl e hful hP ha hbI hbT
      generalize hZe : zss.length = Z at *
      go_enter Try.func19, Try.ntmps19
      go_wp2_with (first | (at_builtin; refine wpList_append_own _ rfl _ _ 31 rfl base 22 i0 (.slice none 0 0) 1 24 Try.underlying31 hi hz0 hz1 hz2 rfl (by decide) _ Z vs rfl (hrow.alloc _) ⟨w.heap.size, 0, none⟩ 1 1 [.slice sb b.length cb] rfl rfl (one_newR w _ _) (by simp [Value.oneCell']) (by have := HZZ.out; unfold maxLen; omega) (by have := HZZ.out; omega) (by simp; omega) ?_; intro v7 w7 hown7 hgrow7 _) | fail)
      go_ret
      obtain ⟨r1, r2⟩ := HG.out w7 v7 hown7 hgrow7
      exact ⟨_, rfl, by rw [HE.out]; exact r1, r2⟩
    · have hgb : ∃ gb, sb = some ⟨gb, 0, none⟩ := by
        rcases hb.cases with ⟨_, h0⟩ | ⟨gb, cb', hv, _⟩
        · rw [h0] at hbl; simp at hbl; omega
        · simp only [Value.slice.injEq] at hv
          exact ⟨gb, hv.1⟩
      obtain ⟨gb, rfl⟩ := hgb
      have hful' : used ≠ 2 ^ N - 1 := by rw [← hP]; exact hful
      have HE := Lib.hid (fil_more (a := a) (f := f) (b := b) hful')
      obtain ⟨x1, x2, x3⟩ := freX_facts (by rw [← hP]; exact hu) hful'
      have hui : ((used : Int) == (P : Int) - 1) = false := by simp; omega
      have HX2 := Lib.hid x2
      have HX3 := Lib.hid x3
      have HTx := Lib.hid (fun (x : Int) => show filT N used x = ((freX N used : Int) - x) % (N : Int) from rfl)
      have HP := Lib.hid hP
      have HFU := Lib.hid hful'
      clear x2 x3 hful hgrow hvg hP hful'
      have hu24 : used < 16777216 := by omega
      generalize hXe : freX N used = X at *
      go_enter Try.func19, Try.ntmps19
      go_wp2_with fail
      go_loopw [13] (fun i wr => ∃ k : Nat, i = .int .i64 k ∧ k ≤ X ∧ Below w.heap.size w wr) (fun i _ => X - (intOf i).toNat)
      case atStart => exact ⟨0, rfl, by omega, Below.refl _ _⟩
      case round =>
        obtain ⟨k, rfl, hk, hB⟩ := hrel
        have hsh := shr_cast used k
        have hk24 : (k : Int) ≤ 24 := by omega
        by_cases hkX : k < X
        · have hA : bits .and .i64 ((used / 2 ^ k : Nat) : Int) 1 = 1 := by rw [and_one hu24, HX3.out k hkX]; rfl
          generalize used / 2 ^ k = S at *
          go_wp2_with fail
          go_roundw
          case rel => exact ⟨k + 1, by go_num, by omega, hB⟩
          case measure => simp [intOf]; omega
        · have hkX' : k = X := by omega
          subst hkX'
          have hA : bits .and .i64 ((used / 2 ^ k : Nat) : Int) 1 = 0 := by rw [and_one hu24, HX2.out]; rfl
          generalize used / 2 ^ k = S at *
          have hF0 := Frm.of_below base hB
          have hLB : LL wr base (.slice sv zss.length cv) (zss ++ filI N a f used b 0) := by rw [filI_zero, List.append_nil]; exact hL.below hB
          have hbs0 : base ≤ wr.heap.size := Nat.le_trans hbw hB.size
          go_wp2_with fail
          clear hA hsh hB hcz hui
          go_loopw [4, 14] (fun v i wr => ∃ i' : Nat, i = .int .i64 i' ∧ i' ≤ a.length ∧ LL wr base v (zss ++ filI N a f used b i') ∧ Frm w base wr) (fun _ i _ => a.length - (intOf i).toNat)
          case atStart => exact ⟨0, rfl, by omega, hLB, hF0⟩
          case round =>
            clear hLB hF0 hbs0
            obtain ⟨i, rfl, hi', hLi, hFi⟩ := hrel
            have hal := ha.len
            by_cases hlt : i < a.length
            · have hai := ha.frm_low hs hFi
              rcases hai.lies with h0 | ⟨b1, o1, rfl, hbw1, hcells⟩
              · omega
              have hx : wr.cell? ⟨b1, o1 + i, none⟩ = some (.int .i64 (gZ a i)) := hcells i (by omega)
              obtain ⟨p0, p1⟩ := hT.2.2.2.2 _ (gZ_mem a i hlt)
              have hlz : (i : Int) < (l : Int) := by omega
              have q0 := Int.emod_nonneg ((k : Int) - gZ a i) (show (N : Int) ≠ 0 by omega)
              have q1 := Int.emod_lt_of_pos ((k : Int) - gZ a i) (show (0 : Int) < N by omega)
              have hcr := fun w => c_l1Rest ((k : Int) - gZ a i) N n1 (by omega) w
              have HSucc := Lib.hid (filI_succ (n := N) (f := f) (used := used) (b := b) hlt)
              have HTx' := HTx.out (gZ a i)
              rw [← HTx'] at q0 q1 hcr
              clear HTx'
              clear hcells
              generalize filT N used (gZ a i) = t at *
              generalize gZ a i = x at *
              go_wp2_with (first | (go_at_call 27; refine (hcr _).mono ?_; rintro e w5 ⟨rfl, rfl⟩) | fail)
              have hLe : (tmvL N a t).length = a.length := by simp [tmvL]
              have hM0 : mskL ((tmvL N a t).take 0) = 0 := rfl
              have HMx := Lib.hid (show (tmvL N a t).take a.length = tmvL N a t from List.take_of_length_le (by omega))
              have HMb := Lib.hid (fun k2 : Nat => mskL_lt24 ((tmvL N a t).take k2) hN24 (fun x hx => tmvL_bd a t n1 x (List.mem_of_mem_take hx)))
              have HMn := Lib.hid (fun k2 (h : k2 < a.length) (X : Nat) hX => msk_next (N := N) (a := a) (t := t) (k := k2) h (X := X) hX)
              clear hx hLe
              go_loopw [16, 17] (fun st ik wr2 => ∃ k2 : Nat, ik = .int .i64 k2 ∧ k2 ≤ a.length ∧ st = .int .i64 ((mskL ((tmvL N a t).take k2) : Nat) : Int) ∧ Below wr.heap.size wr wr2) (fun _ ik _ => a.length - (intOf ik).toNat)
              case atStart => exact ⟨0, rfl, by omega, by rw [hM0]; rfl, Below.refl _ _⟩
              case round =>
                clear hM0
                obtain ⟨k2, rfl, hk2, rfl, hB2⟩ := hrel
                by_cases hlt2 : k2 < a.length
                · rcases (hai.keep hB2).lies with h0 | ⟨b2, o2, he2, hbw2, hcells2⟩
                  · omega
                  cases he2
                  have hy : wr.cell? ⟨b1, o1 + k2, none⟩ = some (.int .i64 (gZ a k2)) := hcells2 k2 (by omega)
                  obtain ⟨y0, y1⟩ := hT.2.2.2.2 _ (gZ_mem a k2 hlt2)
                  have hk2l : (k2 : Int) < (l : Int) := by omega
                  have r0 := Int.emod_nonneg (gZ a k2 + t) (show (N : Int) ≠ 0 by omega)
                  have r1 := Int.emod_lt_of_pos (gZ a k2 + t) (show (0 : Int) < N by omega)
                  obtain ⟨X, hX⟩ : ∃ X : Nat, (gZ a k2 + t) % (N : Int) = (X : Int) := ⟨((gZ a k2 + t) % (N : Int)).toNat, by omega⟩
                  have hXt : (gZ a k2 + t).tmod (N : Int) = (X : Int) := by rw [Int.tmod_eq_emod_of_nonneg (by omega), hX]
                  rw [hX] at r0 r1
                  have hXn : X < N := by omega
                  have HM := Lib.hid (HMn.out k2 hlt2 X hX)
                  have hMl := HMb.out k2
                  obtain ⟨P', hP'⟩ : ∃ P', P' = 2 ^ X := ⟨_, rfl⟩
                  have hPi' := int_pow hP'
                  have hP24' : P' ≤ 16777216 := by rw [hP']; exact pow_le24 (by omega)
                  rw [← hP'] at HM
                  clear hP' hX hcells2
                  generalize gZ a k2 = y at *
                  have hor := or_nat (mskL ((tmvL N a t).take k2)) P' (by omega) (by omega)
                  generalize mskL ((tmvL N a t).take k2) = M at *
                  have hN0 : (N : Int) ≠ 0 := by omega
                  go_wp2_with fail
                  go_roundw
                  case rel => exact ⟨k2 + 1, by go_num, by omega, by rw [HM.out], hB2⟩
                  case measure => simp [intOf]; omega
                · have hk2' : k2 = a.length := by omega
                  subst hk2'
                  have hMl := HMb.out a.length
                  rw [HMx.out] at hMl ⊢
                  have HMs := Lib.hid (show mskL (tmvL N a t) = setM N a t from rfl)
                  generalize hMe : mskL (tmvL N a t) = M at *
                  have hand := and_nat M used (by omega) (by omega)
                  have hor := or_nat used M (by omega) (by omega)
                  rw [← HMs.out] at HSucc
                  by_cases hz : M &&& used = 0
                  · have hz' : (((M &&& used : Nat) : Int) == 0) = true := by rw [hz]; rfl
                    obtain ⟨e1, e2⟩ := fil_used (t := t) hT (by rw [← HP.out]; exact hu) (by rw [← HMs.out]; exact hz)
                    rw [← HMs.out] at e1 e2
                    rw [← HP.out] at e2
                    have HS2 : Hid (filI N a f used b (i + 1) = filI N a f used b i ++ fil N a f (used ||| M) (b ++ [t])) := Lib.hid (by
                      rw [HSucc.out, hz]; rfl)
                    have hcnt : (zss ++ filI N a f used b i).length + (fil N a f (used ||| M) (b ++ [t])).length < 100000 := by
                      have c1 := filI_len (n := N) (a := a) (f := f) (used := used) (b := b) (i + 1)
                      rw [HS2.out, List.length_append] at c1
                      have c2 := HE.out
                      rw [c2] at hzl
                      rw [List.length_append]
                      omega
                    have hLi2 := hLi.below hB2
                    have hFi2 := hFi.trans (Frm.of_below base hB2)
                    have hai2 := hai.keep hB2
                    have hbo := hb.frm hFi2
                    have hwb : base ≤ wr.heap.size := Nat.le_trans hbw hFi2.size
                    have HCall := Lib.hid (fun (w9 : World) (s9 : Option Addr) (L9 c9 : Nat) (hL9 : L9 = lb + 1) (h9 : Below wr.heap.size wr w9) (hO9 : OwnI w9 base 3 (.slice s9 L9 c9) (b ++ [t])) =>
                      ih (used ||| M) s9 L9 c9 (b ++ [t]) u4 (zss ++ filI N a f used b i) w9 (by omega) e2 (by omega) (by omega) hcnt (Nat.le_trans hwb h9.size) (hai2.keep h9) hO9 (by rw [List.length_append]; simp; omega) (hLi2.below h9))
                    obtain ⟨j0, hj, hj0, hj1, hj2⟩ := info_parts infoR
                    have hlit : (wr.alloc (.cells #[] 3)).ownsRow wr.heap.size 3 1 (.slice (some ⟨wr.heap.size, 0, none⟩) 0 0) 0 [] := World.ownsRow_lit wr #[] 0 (Nat.le_refl _) (by unfold maxLen; omega) rfl
                    have HNews := Lib.hid (own_news (hbo.keep (ba (Below.refl _ _) (.cells #[] 3))) hbl)
                    have HOnes := Lib.hid (ints_one b)
                    have HBl := Lib.hid hbl
                    have hlb9 : lb ≤ 33554432 := by omega
                    clear hbl hzl hcnt ih hLi hFi hai hbo hai2 hLi2 hlb e1 hf
                    generalize hUe : used ||| M = U at *
                    generalize M &&& used = Z at *
                    clear hz
                    go_wp2_with (first
                      | (at_builtin; refine wpList_append_own _ rfl _ _ 22 rfl wr.heap.size 3 j0 (.int .i64 0) 1 8 Try.underlying22 hj hj0 hj1 hj2 rfl (by decide) (.slice (some ⟨wr.heap.size, 0, none⟩) 0 0) 0 [] rfl hlit ⟨gb, 0, none⟩ lb cb (b.map (Value.int .i64)) rfl (by rw [List.length_map, HBl.out, Nat.mul_one]) HNews.out HOnes.out (by unfold maxLen; omega) (by omega) (by simp) ?_; intro v8 w8 hown8' hgrow8 _; have hown8 := ownR_zero hown8'; clear hown8'; obtain ⟨s8, c8, rfl⟩ := row_slice hown8; have hB8 : Below wr.heap.size wr w8 := (ba (Below.refl _ _) _).grown hgrow8 (by simp) (fun g e => by cases e; exact Nat.le_refl _))
                      | (at_builtin; refine wpList_append_own _ rfl _ _ 22 rfl wr.heap.size 3 j0 (.int .i64 0) 1 8 Try.underlying22 hj hj0 hj1 hj2 rfl (by decide) (.slice s8 lb c8) lb _ rfl (hown8.alloc _) ⟨w8.heap.size, 0, none⟩ 1 1 [.int .i64 t] rfl rfl (one_newR w8 _ _) (by simp [Value.oneCell']) (by unfold maxLen; omega) (by omega) (by have := hB8.size; simp; omega) ?_; intro v9 w9 hown9 hgrow9 _; obtain ⟨s9, c9, rfl⟩ := row_slice hown9; have hB9 : Below wr.heap.size wr w9 := (ba hB8 _).grown hgrow9 (by have := hB8.size; simp; omega) (fun g e => (hown8.lt g e).1))
                      | (go_at_call 19; refine (HCall.out w9 s9 (lb + 1) c9 rfl hB9 (ownI_snoc hown9 HBl.out hwb)).mono ?_; rintro e w10 ⟨v10, rfl, hL10, hF10⟩)
                      | fail)
                    go_roundw
                    case rel => exact ⟨i + 1, by go_num, by omega, by rw [HS2.out, ← List.append_assoc]; exact hL10, hFi2.trans ((Frm.of_below base hB9).trans hF10)⟩
                    case measure => simp [intOf]; omega
                  · have hz' : (((M &&& used : Nat) : Int) == 0) = false := by simpa using hz
                    have HN : Hid (filI N a f used b (i + 1) = filI N a f used b i) := Lib.hid (by
                      rw [HSucc.out, show (M &&& used == 0) = false by simpa using hz]; simp)
                    clear hz hor
                    generalize M &&& used = Z at *
                    go_wp2_with fail
                    go_roundw
                    case rel => exact ⟨i + 1, by go_num, by omega, by rw [HN.out]; exact hLi.below hB2, hFi.trans (Frm.of_below base hB2)⟩
                    case measure => simp [intOf]; omega
            · have hi2 : i = a.length := by omega
              subst hi2
              go_wp2_with fail
              go_ret
              exact ⟨_, rfl, by rw [HE.out]; exact hLi, hFi⟩
end Go.Proofs.Ytchplpaniafhlaa
