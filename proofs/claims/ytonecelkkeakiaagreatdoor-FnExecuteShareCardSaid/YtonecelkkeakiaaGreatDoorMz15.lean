/- A range over a function that gives out all its items, and writes one box of its own between two rounds; the body keeps the blocks below a bound but its own box. -/
import Derived.RangeFuncNested
import Derived.RangeFuncBound
import Derived.RangeFuncLeaves
import Derived.Below
import Derived.Test.YtonecelkkeakiaaGreatDoorMz14
import Derived.RangeFuncBox
import Derived.WalkMore
import Derived.Deep.Cut
import Derived.Deep.LoopGhost
import Derived.Deep.CutBlock
import Derived.Deep.CutRange
import Derived.Stop.RegionWithIn
import Derived.Maps.AppendAt
import Derived.Laws.AppendOwn
namespace Go.Proofs.YtonecelkkeakiaaGreatDoor
open Go.RowKit
variable {F : Fence} {n : Nat} {P : Program}
/-- what a round leaves of the blocks below B: all but the caller's own one, U -/
structure KpR (B U : Nat) (W W' : World) : Prop where
  size : W.heap.size ≤ W'.heap.size
  block : ∀ k, k < B → k ≠ U → W'.heap[k]? = W.heap[k]?
theorem KpR.refl (B U : Nat) (W : World) : KpR B U W W := ⟨Nat.le_refl _, fun _ _ _ => rfl⟩
theorem KpR.trans {B U : Nat} {W W1 W2 : World} (h : KpR B U W W1) (k : KpR B U W1 W2) : KpR B U W W2 := ⟨Nat.le_trans h.size k.size, fun i hi hU => (k.block i hi hU).trans (h.block i hi hU)⟩
def SeqV {α : Type} (F : Fence) (n : Nat) (P : Program) (g : Nat) (lb : Array Value) (encs : α → Array Value) (U V : Nat) (L : List α) (w : World) : Prop :=
  ∀ (l : Nat) (J : List α → World → Prop) (W : World), Below w.heap.size w W → w.heap.size ≤ l → l < W.heap.size →
    (∀ s X Y, J s X → Below X.heap.size X Y → J s Y) → (∀ s X v, J s X → J s (X.setCell ⟨V, 0, none⟩ v)) →
    (∀ pre x W1, J pre W1 → W.heap.size ≤ W1.heap.size → pre ++ [x] <+: L → YieldAt F (n - 1) P l (encs x) W1 fun e W' => e = .returned (.bool true) ∧ J (pre ++ [x]) W' ∧ KpR w.heap.size U W1 W') →
    J [] W →
    CallsIn F n P g (#[.func (.yield l) #[] #[]] ++ lb) W fun e W' => (∃ v, e = .returned v) ∧ J L W'
/-- how a round's body is left -/
def postV {α : Type} (B U : Nat) (B2 : Nat) (I : List α → World → Prop) (xs : List α) (W : World) : Exit → Act → World → Prop
  | .normal, _, W' => KeepsFrom B2 W W' ∧ KpR B U W W' ∧ I xs W'
  | _, _, _ => False
theorem kpR_put {B U l : Nat} {X Y : World} (o o' : Obj) (hl : B ≤ l) (h : KpR B U (X.putObj l o) Y) : KpR B U X (Y.putObj l o') :=
  ⟨by have := h.size; rw [World.putObj_size] at this; rw [World.putObj_size]; exact this, fun k hk hU => by
    rw [World.putObj_heap_other (by omega), h.block k hk hU, World.putObj_heap_other (by omega)]⟩
theorem wpIn_rangeV {α : Type} {g : Operand} {ps : Array Tmp} {assign body : Code} {Q : Exit → Act → World → Prop} {a : Act} {w : World}
    (hro : F.round = none) (h1 : 1 ≤ n) {gf : Nat} {lb : Array Value} (hg : a.eval g = .func (.func gf) #[] lb) (hFg : F.fn gf) (eg : ∀ args w, (callFunc gf args).run P w = .ok (.enter gf args) w)
    {encs : α → Array Value} {U V : Nat} {L : List α} (hV : V < w.heap.size) (hseq : SeqV F (n - 1) P gf lb encs U V L w) (hps : ∀ x, (encs x).size = ps.size)
    (I : List α → World → Prop) (hI : OwnFrom w.heap.size I) (hIV : ∀ s X v, I s X → I s (X.setCell ⟨V, 0, none⟩ v)) (h0 : I [] w) (a₁ : α → Act)
    (hassign : ∀ (l : Nat) (x : α) (W : World) (K : Act → World → Prop), K (a₁ x) W →
      assign.wpIn (F.inRound l) (n - 1 - 1) P (Exit.then K (fun _ _ _ => False)) { tmps := (ps.zip (encs x)).foldl (fun t (p, v) => t.setIfInBounds p v) a.tmps, defers := [] } W)
    (hbody : ∀ (l : Nat) (pre : List α) (x : α) (W : World), w.heap.size ≤ l → w.heap.size ≤ W.heap.size → I pre W → pre ++ [x] <+: L → body.wpIn (F.inRound l) (n - 1 - 1) P (postV w.heap.size U w.heap.size I (pre ++ [x]) W) (a₁ x) W)
    (hdone : ∀ (D : Nat) (W : World), w.heap.size ≤ D → I L W → W.heap[D]? = some (.deferred (some [])) → Q .normal { a with defers := { target := .collected D, args := #[] } :: a.defers } W) :
    (Code.rangeFunc g ps assign body).wpIn F n P Q a w := by
  refine wpIn_rangeFunc fun fn hfn => ?_
  rw [hro]
  obtain ⟨D, hD⟩ : ∃ D, w.heap.size = D := ⟨_, rfl⟩
  obtain ⟨rc, hrc⟩ : ∃ rc : LoopState → Option Code → Loop, ∀ st pe, rc st pe = { state := st, pending := pe, fn, tmps := a.tmps, params := ps, assign, body, defers := D } := ⟨_, fun _ _ => rfl⟩
  obtain ⟨X0, hX0⟩ : ∃ X0, (w.alloc (.deferred (some []))).alloc (.loop (rc .ready none)) = X0 := ⟨_, rfl⟩
  have v1 : X0.heap[D + 1]? = some (.loop (rc .ready none)) := by
    have h := World.alloc_heap_new (w.alloc (.deferred (some []))) (.loop (rc .ready none))
    rw [World.size_alloc, hD, hX0] at h
    exact h
  have v0 : X0.heap[D]? = some (.deferred (some [])) := by
    have h := World.alloc_heap_new w (.deferred (some []))
    rw [hD] at h
    rw [← hX0, Below.heap_alloc _ _ _ (by rw [World.size_alloc]; omega)]
    exact h
  have vb : Below w.heap.size w X0 := by
    rw [← hX0]
    exact ((Below.refl _ w).alloc (Nat.le_refl _) _).alloc (by rw [World.size_alloc]; omega) _
  have vs : X0.heap.size = D + 2 := by rw [← hX0, World.size_alloc, World.size_alloc, hD]
  have vI : I [] X0 := by rw [← hX0]; exact hI.alloc _ (hI.alloc _ h0)
  refine ⟨D + 1, [{ target := .collected D, args := #[] }], X0, { target := .fn (.func gf) lb, args := #[.func (.yield (D + 1)) #[] #[]] }, X0, gf, #[.func (.yield (D + 1)) #[] #[]] ++ lb, X0, ?_, ?_, ?_, ?_, fun _ => h1, ?_⟩
  · have h := run_enterLoop_outer (P := P) (w := w) fn a.tmps ps assign body
    rw [hD, ← hrc, hX0] at h
    exact h
  · simp only [resolve, hg]
    simp [go_sem]
  · intro f' hf'
    simp [Target.leads] at hf'
    subst hf'
    exact hFg
  · simp [invoke, go_sem, eg]
  rw [hD] at hI hbody hdone vb hV
  have hset : ∀ (X : World) (v : Value) (k : Nat), k ≠ V → (X.setCell ⟨V, 0, none⟩ v).heap[k]? = X.heap[k]? := fun X v k hk => Below.heap_setCell _ _ _ _ hk
  refine (hseq (D + 1) (fun pre W => I pre W ∧ W.heap[D + 1]? = some (.loop (rc .ready none)) ∧ W.heap[D]? = some (.deferred (some [])) ∧ D + 2 ≤ W.heap.size) X0 (by rw [hD]; exact vb) (by omega) (by omega)
    (fun s X Y h k => ⟨hI s X Y none h.1 ⟨k.os, k.tape, k.output, k.size, fun i hi _ => k.block i hi⟩ (fun r e => by cases e), (k.block _ (by have := h.2.2.2; omega)).trans h.2.1, (k.block _ (by have := h.2.2.2; omega)).trans h.2.2.1, Nat.le_trans h.2.2.2 k.size⟩)
    (fun s X v h => ⟨hIV s X v h.1, (hset X v _ (by omega)).trans h.2.1, (hset X v _ (by omega)).trans h.2.2.1, by have := h.2.2.2; simpa [World.setCell] using this⟩) ?_ ⟨vI, v1, v0, by omega⟩).mono ?_
  · rintro pre x W ⟨hi, hl, hk, hs⟩ _ hpre
    have hlt := (Array.getElem?_eq_some_iff.1 hl).1
    have hy := run_yield (P := P) (args := encs x) hl (by rw [hrc]; exact hps x)
    rw [hrc] at hy
    refine ⟨fn, _, assign, body, hy, roundIn_of_wpIn hfn (hassign _ x W _ ⟨_, run_beginRound hl (by rw [hrc]), ?_⟩)⟩
    obtain ⟨bz, hbz⟩ : ∃ bz : Loop, { rc .ready none with state := .busy } = bz := ⟨_, rfl⟩
    rw [hbz]
    have hX : (W.putObj (D + 1) (.loop bz)).heap[D + 1]? = some (.loop bz) := World.putObj_heap_same hlt
    have hXk : (W.putObj (D + 1) (.loop bz)).heap[D]? = some (.deferred (some [])) := (World.putObj_heap_other (by omega)).trans hk
    refine wpIn_mono (hbody (D + 1) pre x _ (by omega) (by rw [World.putObj_size]; omega) (hI.putObj _ hi (by omega) hl rfl) hpre) ?_
    intro e a' Y hp
    cases e with
    | normal =>
      obtain ⟨k1, k2, k3⟩ := hp
      have y1 := k1.same _ _ (by omega) hX rfl
      have y0 := k1.same _ _ (by omega) hXk rfl
      have hr := run_endRound (P := P) none y1
      have e : { bz with state := if (none : Option Code).isNone then LoopState.ready else .done, pending := none } = rc .ready none := by rw [← hbz, hrc]; rfl
      rw [e] at hr
      have hsz := k1.size
      rw [World.putObj_size] at hsz
      exact ⟨_, _, hr, rfl, ⟨hI.putObj _ k3 (by omega) y1 rfl, World.putObj_heap_same (Array.getElem?_eq_some_iff.1 y1).1, (World.putObj_heap_other (by omega)).trans y0, by rw [World.putObj_size]; omega⟩, by rw [hD]; exact kpR_put _ _ (by omega) k2⟩
    | _ => exact hp.elim
  · rintro e Y ⟨⟨v, rfl⟩, hi, hl, hk, _⟩
    have hr := run_endLoop (P := P) hl (by rw [hrc]; simp)
    exact ⟨none, _, by rw [hrc] at hr; exact hr, hdone D _ (Nat.le_refl _) (hI.putObj _ hi (by omega) hl rfl) ((World.putObj_heap_other (by omega)).trans hk)⟩
end Go.Proofs.YtonecelkkeakiaaGreatDoor
namespace Go.Proofs.YtonecelkkeakiaaGreatDoor
open Go.RowKit Go.Shelf
attribute [local go_sem] Oper.semAt_some
/-- numbers with blanks between -/
def line : List Nat → ByteArray
  | [] => ⟨#[]⟩
  | [n] => txt n
  | n :: m :: r => txt n ++ (⟨#[32]⟩ ++ line (m :: r))
theorem idx_none (c : UInt8) : ∀ l : List UInt8, (∀ b ∈ l, b ≠ c) → Lib.indexByte l c = -1
  | [], _ => rfl
  | b :: l, h => by
    have hb : (b == c) = false := beq_eq_false_iff_ne.2 (h b (List.mem_cons_self ..))
    have := idx_none c l fun x hx => h x (List.mem_cons_of_mem _ hx)
    simp [Lib.indexByte, hb, this]
theorem idx_some (c : UInt8) (r : List UInt8) : ∀ l : List UInt8, (∀ b ∈ l, b ≠ c) → Lib.indexByte (l ++ c :: r) c = l.length
  | [], _ => by simp [Lib.indexByte]
  | b :: l, h => by
    have hb : (b == c) = false := beq_eq_false_iff_ne.2 (h b (List.mem_cons_self ..))
    have := idx_some c r l fun x hx => h x (List.mem_cons_of_mem _ hx)
    simp only [List.cons_append, Lib.indexByte, hb, Bool.false_eq_true, if_false, this]
    rw [if_neg (by simp)]
    simp
theorem txt_list (n : Nat) : (txt n).data.toList = Lib.decDigits n := by simp [txt]
theorem dec_no32 (n : Nat) : ∀ b ∈ Lib.decDigits n, b ≠ 32 := fun b hb e => by
  have := dec_all n b hb
  rw [e] at this
  exact absurd this (by decide)
theorem idx_last (n : Nat) : Lib.indexByte (line [n]).data.toList 32 = -1 := by
  show Lib.indexByte (txt n).data.toList 32 = -1
  rw [txt_list]
  exact idx_none 32 _ (dec_no32 n)
theorem idx_more (n m : Nat) (r : List Nat) : Lib.indexByte (line (n :: m :: r)).data.toList 32 = ((txt n).size : Int) := by
  have e : (line (n :: m :: r)).data.toList = Lib.decDigits n ++ 32 :: (line (m :: r)).data.toList := by
    show (txt n ++ (⟨#[32]⟩ ++ line (m :: r))).data.toList = _
    simp [ByteArray.data_append, txt_list]
  rw [e, idx_some 32 _ _ (dec_no32 n)]
  have := congrArg List.length (txt_list n)
  rw [← this]
  rfl
theorem ex_left (a b : ByteArray) : (a ++ b).extract 0 a.size = a := by
  ext1
  rw [ByteArray.data_extract, ByteArray.data_append]
  show (a.data ++ b.data).extract 0 a.data.size = a.data
  simp
theorem ex_right (a b : ByteArray) : (a ++ b).extract a.size (a.size + b.size) = b := by
  ext1
  rw [ByteArray.data_extract, ByteArray.data_append]
  have h : ∀ x y : Array UInt8, (x ++ y).extract x.size (x.size + y.size) = y := fun x y => by
    apply Array.ext'
    simp
  exact h a.data b.data
theorem txt_pos (n : Nat) : 1 ≤ (txt n).size := by
  rcases Nat.lt_or_ge n 10 with h | h
  · rw [txt_small h]; exact Nat.le_refl 1
  · rw [txt_big h, ByteArray.size_append]
    exact Nat.le_add_left 1 _
theorem line_le : ∀ (pre rest : List Nat), rest ≠ [] → (line rest).size ≤ (line (pre ++ rest)).size
  | [], _, _ => Nat.le_refl _
  | [x], rest, h => by
    match rest, h with
    | y :: r, _ =>
      show (line (y :: r)).size ≤ (txt x ++ (⟨#[32]⟩ ++ line (y :: r))).size
      rw [ByteArray.size_append, ByteArray.size_append]
      omega
  | x :: y :: p, rest, h => by
    have := line_le (y :: p) rest h
    show (line rest).size ≤ (txt x ++ (⟨#[32]⟩ ++ line (y :: (p ++ rest)))).size
    rw [ByteArray.size_append, ByteArray.size_append]
    have e : line (y :: p ++ rest) = line (y :: (p ++ rest)) := rfl
    rw [e] at this
    omega
def lenW (V : Nat) (w : World) : Nat := match w.cell? ⟨V, 0, none⟩ with | some (.string s) => s.size | _ => 0
theorem lenW_box {V : Nat} {w : World} {s : ByteArray} (h : w.cell? ⟨V, 0, none⟩ = some (.string s)) : lenW V w = s.size := by
  unfold lenW
  rw [h]
/-- where the iterator stands: rest is to come -/
structure Spl (V E D : Nat) (rest : List Nat) (w : World) : Prop where
  box : Boxed w V 9 (.string (line rest))
  sep : w.cell? ⟨E, 0, none⟩ = some (.string ⟨#[32]⟩)
  sav : w.cell? ⟨D, 0, none⟩ = some (.int .i64 0)
set_option maxRecDepth 20000 in
set_option maxHeartbeats 400000 in
theorem split_in (n : Nat) (hn : 1 ≤ n) (ns : List Nat) (hne : ns ≠ []) (hsz : (line ns).size ≤ 100000) (l E V D U B : Nat) (J : List Nat → World → Prop) (w : World) (hE : E < B) (hV : V < B) (hD : D < B) (hUE : E ≠ U) (hUV : V ≠ U) (hUD : D ≠ U) (hVE : V ≠ E) (hVD : V ≠ D)
    (hJ : ∀ s X Y, J s X → Below X.heap.size X Y → J s Y) (hJV : ∀ s X v, J s X → J s (X.setCell ⟨V, 0, none⟩ v))
    (hY : ∀ pre x W1, J pre W1 → w.heap.size ≤ W1.heap.size → pre ++ [x] <+: ns → YieldAt Fence.wide (n - 1) Tryz.prog l #[.string (txt x)] W1 fun e W' => e = .returned (.bool true) ∧ J (pre ++ [x]) W' ∧ KpR B U W1 W')
    (hS : Spl V E D ns w) (h0 : J [] w) :
    Calls Tryz.prog 297 #[.func (.yield l) #[] #[], .pointer (some ⟨E, 0, none⟩), .pointer (some ⟨V, 0, none⟩), .pointer (some ⟨D, 0, none⟩)] w fun e W' => (∃ v, e = .returned v) ∧ J ns W' := by
  obtain ⟨hb, hs, hd⟩ := hS
  have hc := hb.cell
  go_enter Tryz.func297, Tryz.ntmps297
  go_wp2_with fail
  go_loopw [7, 8] (fun _ _ wr => ∃ pre rest, rest ≠ [] ∧ pre ++ rest = ns ∧ Spl V E D rest wr ∧ J pre wr ∧ w.heap.size ≤ wr.heap.size) (fun _ _ wr => lenW V wr)
  case atStart => exact ⟨[], ns, hne, rfl, ⟨hb, hs, hd⟩, h0, Nat.le_refl _⟩
  case round =>
    obtain ⟨pre, rest, hr0, hpr, ⟨hb1, hs1, hd1⟩, hJp, hsz1⟩ := hrel
    clear hb hs hd hc h0
    have hc1 := hb1.cell
    have hf1 := hb1.frozen
    have HHY := Lib.hid hY
    have HJ := Lib.hid hJ
    have HJV := Lib.hid hJV
    clear hY hJ hJV
    match rest, hr0 with
    | [k], _ =>
      have hidx := Tryz.strings_Index_one (line [k]) 32 wr
      rw [idx_last] at hidx
      have e1 : line [k] = txt k := rfl
      rw [e1] at hidx hc1
      obtain ⟨fn, tm, asg, body, hy, hR⟩ := HHY.out pre k wr hJp hsz1 ⟨[], by rw [List.append_nil]; exact hpr⟩
      have HP := Lib.hid hpr
      clear hpr e1
      have HR := Lib.hid hR
      have HYY := Lib.hid hy
      clear hR hy
      go_upto_region 10 with (go_at_call 126; refine hidx.mono ?_; rintro e w1 ⟨rfl, rfl⟩)
      have hy := HYY.out
      have hR := HR.out
      refine (wpIn_wide (n := n)).1 ?_
      gi_wp2
      refine hR.mono ?_
      rintro e W3 ⟨rfl, hJ3, hK3⟩
      gi_wp2
      go_wp2_with fail
      go_end0
      exact ⟨⟨_, rfl⟩, by rw [HP.out] at hJ3; exact hJ3⟩
    | k :: m :: r, _ =>
      have hidx := Tryz.strings_Index_one (line (k :: m :: r)) 32 wr
      rw [idx_more] at hidx
      have hlen := txt_pos k
      have hle : (line (k :: m :: r)).size ≤ 100000 := Nat.le_trans (by rw [← hpr]; exact line_le _ _ (by simp)) hsz
      have he : line (k :: m :: r) = txt k ++ (⟨#[32]⟩ ++ line (m :: r)) := rfl
      have s1 : (line (k :: m :: r)).size = (txt k).size + (1 + (line (m :: r)).size) := by rw [he, ByteArray.size_append, ByteArray.size_append]; rfl
      have x1 : (line (k :: m :: r)).extract 0 (txt k).size = txt k := by rw [he]; exact ex_left _ _
      have x2 : (line (k :: m :: r)).extract ((txt k).size + 1) (line (k :: m :: r)).size = line (m :: r) := by
        have h := ex_right (txt k ++ ⟨#[32]⟩) (line (m :: r))
        rw [ByteArray.append_assoc, ByteArray.size_append] at h
        rw [s1, he, ← Nat.add_assoc]
        exact h
      obtain ⟨fn, tm, asg, body, hy, hR⟩ := HHY.out pre k wr hJp hsz1 ⟨m :: r, by rw [List.append_assoc]; exact hpr⟩
      have HP := Lib.hid hpr
      have HR := Lib.hid hR
      have HYY := Lib.hid hy
      have hpos : 1 ≤ (line (m :: r)).size ∨ True := .inr trivial
      clear hpr he hR hy hpos
      generalize line (k :: m :: r) = S at *
      obtain ⟨S2, hS2⟩ : ∃ S2, line (m :: r) = S2 := ⟨_, rfl⟩
      rw [hS2] at x2 s1
      have HS2 := Lib.hid hS2
      clear hS2
      have HL := Lib.hid (lenW_box hc1)
      generalize txt k = T at *
      go_upto_region 8 with (go_at_call 126; refine hidx.mono ?_; rintro e w1 ⟨rfl, rfl⟩)
      have hy := HYY.out
      refine (wpIn_wide (n := n)).1 ?_
      gi_wp2
      refine HR.out.mono ?_
      rintro e W3 ⟨rfl, hJ3, hK3⟩
      have hb3 : Boxed W3 V 9 (.string S) := (hK3.block V hV hUV).trans hb1
      have hs3 : W3.cell? ⟨E, 0, none⟩ = some (.string ⟨#[32]⟩) := by rw [← hs1]; simp [World.cell?, hK3.block E hE hUE]
      have hd3 : W3.cell? ⟨D, 0, none⟩ = some (.int .i64 0) := by rw [← hd1]; simp [World.cell?, hK3.block D hD hUD]
      have hc3 := hb3.cell
      have hf3 := hb3.frozen
      have hz3 := hK3.size
      clear hy hc1 hf1 hidx hs1 hd1 hb1
      gi_wp2
      go_wp2_with fail
      go_roundw
      case rel =>
        rw [s1] at x2
        rw [x2]
        refine ⟨pre ++ [k], m :: r, by simp, by rw [List.append_assoc]; exact HP.out, ⟨?_, ?_, ?_⟩, HJV.out _ _ _ hJ3, ?_⟩
        · rw [HS2.out]; exact Boxed.set _ hb3
        · rw [← hs3]; simp only [World.cell?]; rw [Below.heap_setCell W3 ⟨V, 0, none⟩ (.string S2) E (fun h => hVE h.symm)]
        · rw [← hd3]; simp only [World.cell?]; rw [Below.heap_setCell W3 ⟨V, 0, none⟩ (.string S2) D (fun h => hVD h.symm)]
        · have : (W3.setCell ⟨V, 0, none⟩ (.string S2)).heap.size = W3.heap.size := by simp [World.setCell]
          omega
      case measure =>
        rw [s1] at x2
        rw [x2, lenW_box (Boxed.set (.string S2) hb3).cell, HL.out]
        omega
theorem c_splitSeq (s sep : ByteArray) (w : World) : Calls Tryz.prog 247 #[.string s, .string sep, .int .i64 0] w fun e w' => e = .returned (.func (.func 297) #[] #[.pointer (some ⟨w.heap.size + 1, 0, none⟩), .pointer (some ⟨w.heap.size, 0, none⟩), .pointer (some ⟨w.heap.size + 1 + 1, 0, none⟩)]) ∧ ((w.alloc (.cells #[.string s] 9)).alloc (.cells #[.string sep] 9)).alloc (.cells #[.int .i64 0] 3) = w' := by
  go_enter Tryz.func247, Tryz.ntmps247
  go_wp2_with fail
  go_ret
  exact ⟨rfl, rfl⟩
theorem c_SplitSeq (s sep : ByteArray) (w : World) : Calls Tryz.prog 195 #[.string s, .string sep] w fun e w' => e = .returned (.func (.func 297) #[] #[.pointer (some ⟨w.heap.size + 1, 0, none⟩), .pointer (some ⟨w.heap.size, 0, none⟩), .pointer (some ⟨w.heap.size + 1 + 1, 0, none⟩)]) ∧ ((w.alloc (.cells #[.string s] 9)).alloc (.cells #[.string sep] 9)).alloc (.cells #[.int .i64 0] 3) = w' := by
  go_enter Tryz.func195, Tryz.ntmps195
  go_wp2_with (go_at_call 247; refine (c_splitSeq _ _ _).mono ?_; rintro e w1 ⟨rfl, rfl⟩)
  go_ret
  exact ⟨rfl, rfl⟩
theorem split_seqV (n : Nat) (hn : 1 ≤ n) (ns : List Nat) (hne : ns ≠ []) (hsz : (line ns).size ≤ 100000) (E V D U : Nat) (w : World) (hE : E < w.heap.size) (hV : V < w.heap.size) (hD : D < w.heap.size) (hUE : E ≠ U) (hUV : V ≠ U) (hUD : D ≠ U) (hVE : V ≠ E) (hVD : V ≠ D) (hS : Spl V E D ns w) :
    SeqV Fence.wide n Tryz.prog 297 #[.pointer (some ⟨E, 0, none⟩), .pointer (some ⟨V, 0, none⟩), .pointer (some ⟨D, 0, none⟩)] (fun x => #[.string (txt x)]) U V ns w := fun l J W hW _ _ hJ hJV hY h0 =>
  callsIn_wide.2 (split_in n hn ns hne hsz l E V D U w.heap.size J W hE hV hD hUE hUV hUD hVE hVD hJ hJV hY ⟨(hW.block V hV).trans hS.box, keepc hW hS.sep, keepc hW hS.sav⟩ h0)
end Go.Proofs.YtonecelkkeakiaaGreatDoor
namespace Go.Proofs.YtonecelkkeakiaaGreatDoor
open Go.RowKit Go.Shelf
attribute [local go_sem] Oper.semAt_some
theorem int_info : (Tryz.prog.info? 3).map (fun i => (i.zero, i.size, i.bytes)) = some (some (.int .i64 0), 1, 8) := by kernel_rfl
/-- numbers as whole numbers -/
def ints (ns : List Nat) : List Int := ns.map fun (n : Nat) => (n : Int)
/-- what is gathered -/
structure Gat (U B0 : Nat) (w W : World) (pre : List Nat) (v : Value) : Prop where
  box : Boxed W U 79 v
  own : OwnI W B0 3 v (ints pre)
  low : Below w.heap.size w W
theorem gat_own (U B0 B1 : Nat) (w : World) (hU : U < B1) (hw : w.heap.size ≤ B1) : OwnFrom B1 (fun pre W => ∃ v, Gat U B0 w W pre v) := by
  rintro s X Y row ⟨v, h1, h2, h3⟩ hg hr
  refine ⟨v, h1.kept hg (fun e => by have := (hr _ e.symm).1; omega), ?_, h3.trans ⟨hg.os, hg.tape, hg.output, hg.size, fun k hk => ?_⟩⟩
  · refine World.ownsRow.kept h2 hg ?_
    rcases h2.2 with ⟨h1, _⟩ | ⟨g, cap, cur, h1, _, hh, _⟩
    · rw [h1]; exact .inl rfl
    · rw [h1]
      refine .inr fun e => ?_
      obtain ⟨o, ho, hc⟩ := (hr g e.symm).2
      rw [hh] at ho
      cases ho
      cases hc
  · by_cases hl : k < X.heap.size
    · exact hg.block k hl (fun e => by have := (hr _ e.symm).1; omega)
    · have := h3.size
      omega
theorem one_newH (W : World) (x : Value) (t : TypeId) : ∀ (j : Nat) u, ([x] : List Value)[j]? = some u → (W.alloc (.cells #[x] t)).cell? ((⟨W.heap.size, 0, none⟩ : Addr).add j) = some u := by
  intro j u hj
  match j, hj with
  | 0, hj => simp at hj; subst hj; simp [Addr.add]
  | j + 1, hj => simp at hj
/-- one more number is gathered -/
theorem told_step {i : TypeInfo} (hi : Tryz.prog.info? 3 = some i) (hz0 : i.zero = some (.int .i64 0)) (hz1 : i.size = 1) (hz2 : i.bytes = 8) {U B0 : Nat} {W w4 : World} {v : Value} {pre : List Nat} (hU : U < B0) (hW : B0 ≤ W.heap.size) (hpl : pre.length + 1 ≤ 100000)
    (hb : Boxed W U 79 v) (ho : OwnI W B0 3 v (ints pre)) (hB : Below W.drew.heap.size W.drew w4) (x : Nat) :
    ∃ so ln co w7, w4.cell? ⟨U, 0, none⟩ = some v ∧ (w4.alloc (.cells #[.int .i64 (x : Int)] 3)).cell? ⟨U, 0, none⟩ = some v ∧
      (Builtin.append_ #[79, 79] 79 #[v, .slice (some ⟨w4.heap.size, 0, none⟩) 1 1]).run Tryz.prog (w4.alloc (.cells #[.int .i64 (x : Int)] 3)) = .ok (.slice so ln co) w7 ∧ w7.cell? ⟨U, 0, none⟩ = some v ∧ w7.frozen? ⟨U, 0, none⟩ = false ∧
      (Boxed (w7.setCell ⟨U, 0, none⟩ (.slice so ln co)) U 79 (.slice so ln co) ∧ OwnI (w7.setCell ⟨U, 0, none⟩ (.slice so ln co)) B0 3 (.slice so ln co) (ints (pre ++ [x])) ∧ w4.grownBy w7 v.ownBlock) := by
  have hBW : Below W.heap.size W w4 := (Below.refl _ W).drew.trans hB
  have hb4 : Boxed w4 U 79 v := (hBW.block U hb.lt).trans hb
  have ho4 : OwnI w4 B0 3 v (ints pre) := OwnI.keep ho hBW
  have hs4 := hBW.size
  have hla : (ints pre).length = pre.length := by simp [ints]
  obtain ⟨v7, w7, hrun, r1, r2, _⟩ := run_append_own (P := Tryz.prog) (w4.alloc (.cells #[.int .i64 (x : Int)] 3)) B0 79 79 3 i (.int .i64 0) 1 8 Tryz.underlying79 hi hz0 hz1 hz2 rfl (by decide) v (ints pre).length _ (World.ownsRow.alloc (show World.ownsRow _ _ _ _ _ _ _ from ho4) _) ⟨w4.heap.size, 0, none⟩ 1 1 [.int .i64 (x : Int)] rfl (one_newH w4 _ _) (by simp [Value.oneCell']) (by unfold maxLen; omega) (by omega) (by simp; omega)
  obtain ⟨so, ln, co, rfl⟩ : ∃ so ln co, v7 = .slice so ln co := by
    rcases r1.2 with ⟨h, _⟩ | ⟨g, cap, cur, h, _⟩
    · exact ⟨_, _, _, h⟩
    · exact ⟨_, _, _, h⟩
  have hne : some U ≠ v.ownBlock := fun e => by have := (World.ownsRow.lt ho4 U e.symm).1; omega
  have hb5 : Boxed (w4.alloc (.cells #[.int .i64 (x : Int)] 3)) U 79 v := hb4.alloc _
  have hb7 : Boxed w7 U 79 v := hb5.kept r2 hne
  have hg : w4.grownBy w7 v.ownBlock := ⟨r2.os, r2.tape, r2.output, Nat.le_trans (by simp) r2.size, fun k hk hr => (r2.block k (by simp; omega) hr).trans (Below.heap_alloc _ _ _ hk)⟩
  refine ⟨so, ln, co, w7, hb4.cell, hb5.cell, hrun, hb7.cell, hb7.frozen, Boxed.set _ hb7, ?_, hg⟩
  have e : ints (pre ++ [x]) = ints pre ++ [(x : Int)] := by simp [ints]
  unfold OwnI
  rw [e, List.length_append, List.map_append]
  refine World.ownsRow.kept r1 (row := some U) ⟨rfl, rfl, rfl, by simp [World.setCell], fun k _ hk => Below.heap_setCell _ _ _ _ (fun e => hk (by simp [e]))⟩ (.inr fun e => ?_)
  have := (World.ownsRow.lt r1 U e).1
  omega
theorem stepIn_append {F : Fence} {n : Nat} {P : Program} {ops : Array Oper} {o : Oper} {a : Act} {w w7 : World} {K : Act → World → Prop} {Q : Exit → Act → World → Prop} {E : Prop} {v xv v7 : Value}
    (hg : o.guard = none) (s x : Operand) (t : TypeId) (hop : o.op = .call { callee := .builtin .append, args := #[s, x], argTypes := #[t, t] }) (hrun : (Builtin.append_ #[t, t] o.type #[v, xv]).run P w = .ok v7 w7) (hs : a.eval s = v) (hx : a.eval x = xv) (hK : K (a.put o.dst v7) w7) :
    if Region.wanted o (yielded ops a.tmps) = true then Oper.wpIn F n P o a w K Q else E := by
  have hw : Region.wanted o (yielded ops a.tmps) = true := by simp [Region.wanted, hg]
  rw [if_pos hw]
  unfold Oper.wpIn
  refine ⟨?_, ?_⟩
  · simp [Oper.about, hop, resolve, Target.leads, Sem.run_pure]
  · rw [Oper.semAt_plain F _ _ (by rw [hop]; intro c hc'; cases hc')]
    simp [execOp, hop, resolve, invoke, builtin, hs, hx, hrun, Result.andThen]
    exact hK
theorem told_end {U B0 : Nat} {w W w4 w7 : World} {v v7 : Value} {pre : List Nat} {x : Nat} {a : Act} (hU : U < B0) (hUw : w.heap.size ≤ U)
    (h : Boxed (w7.setCell ⟨U, 0, none⟩ v7) U 79 v7 ∧ OwnI (w7.setCell ⟨U, 0, none⟩ v7) B0 3 v7 (ints (pre ++ [x])) ∧ w4.grownBy w7 v.ownBlock) (hW : B0 ≤ W.heap.size) (hl : Below w.heap.size w W) (hB : Below W.drew.heap.size W.drew w4) (ho : OwnI W B0 3 v (ints pre)) :
    postV B0 U B0 (fun pre W => ∃ v, Gat U B0 w W pre v) (pre ++ [x]) W .normal a (w7.setCell ⟨U, 0, none⟩ v7) := by
  obtain ⟨h1, h2, h3⟩ := h
  have hBW : Below W.heap.size W w4 := (Below.refl _ W).drew.trans hB
  have hs := hBW.size
  have h3s := h3.size
  have hset : ∀ k, k ≠ U → (w7.setCell ⟨U, 0, none⟩ v7).heap[k]? = w7.heap[k]? := fun k hk => Below.heap_setCell _ _ _ _ hk
  have hsz : (w7.setCell ⟨U, 0, none⟩ v7).heap.size = w7.heap.size := by simp [World.setCell]
  have hvb : ∀ k, some k = v.ownBlock → B0 ≤ k := fun k e => (World.ownsRow.lt ho k e.symm).1
  refine ⟨⟨by omega, fun k o hk ho' hc => ?_⟩, ⟨by omega, fun k hk hkU => ?_⟩, v7, h1, h2, ?_⟩
  · have hkl := (Array.getElem?_eq_some_iff.1 ho').1
    have hne : some k ≠ v.ownBlock := by
      rcases ho.2 with ⟨e, _⟩ | ⟨g, cap, cur, e, _, hh, _⟩
      · rw [e]; simp [Value.ownBlock]
      · rw [e]
        intro e2
        simp only [Value.ownBlock, Option.some.injEq] at e2
        subst e2
        rw [hh] at ho'
        cases ho'
        cases hc
    rw [hset k (by omega), h3.block k (by omega) hne, hBW.block k hkl]
    exact ho'
  · have hne : some k ≠ v.ownBlock := fun e => by have := hvb k e; omega
    rw [hset k hkU, h3.block k (by omega) hne, hBW.block k (by omega)]
  · exact ((hl.trans (hBW.mono hl.size)).grown h3 (by have := hl.size; omega) (fun k e => by have := hvb k e.symm; omega)).setCell (p := ⟨U, 0, none⟩) hUw _
set_option maxRecDepth 100000 in
set_option maxHeartbeats 4000000 in
theorem c_numbersTold (ns : List Nat) (hne : ns ≠ []) (hsz : (line ns).size ≤ 100000) (hlt : ∀ n ∈ ns, n < 10000) (hln : ns.length ≤ 100000) (w : World) :
    Calls Tryz.prog 129 #[.string (line ns)] w fun e w' => ∃ g cap, e = .returned (.slice (some ⟨g, 0, none⟩) ns.length cap) ∧ OwnI w' w.heap.size 3 (.slice (some ⟨g, 0, none⟩) ns.length cap) (ints ns) ∧ Below w.heap.size w w' := by
  obtain ⟨i0, hi, hz⟩ := Option.map_eq_some_iff.1 int_info
  have hz0 : i0.zero = some (.int .i64 0) := congrArg (·.1) hz
  have hz1 : i0.size = 1 := congrArg (·.2.1) hz
  have hz2 : i0.bytes = 8 := congrArg (·.2.2) hz
  clear hz
  refine (callsIn_wide (n := 5)).1 ?_
  refine callsIn_of_wp_marks Tryz.func129 rfl trivial ?_ rfl
  simp only [Tryz.ntmps129, List.size_toArray, List.length_cons, List.length_nil, Nat.reduceAdd, Nat.reduceSub, Array.replicate_succ, Array.replicate_zero, List.push_toArray, List.append_toArray, List.nil_append, List.cons_append]
  gi_wp2_with (refine ⟨trivial, ?_⟩; gi_at_call 195; refine (callsIn_wide.2 (c_SplitSeq _ _ _)).mono ?_; rintro e w1 ⟨rfl, rfl⟩)
  obtain ⟨W0, hW0⟩ : ∃ W0, (((w.alloc (.cells #[.slice none 0 0] 79)).alloc (.cells #[.string (line ns)] 9)).alloc (.cells #[.string ⟨#[32]⟩] 9)).alloc (.cells #[.int .i64 0] 3) = W0 := ⟨_, rfl⟩
  have hws : W0.heap.size = w.heap.size + 4 := by rw [← hW0]; simp
  have b0 : Boxed W0 w.heap.size 79 (.slice none 0 0) := by rw [← hW0]; exact (((Boxed.new w 79 (.slice none 0 0)).alloc _).alloc _).alloc _
  have b1 : Boxed W0 (w.heap.size + 1) 9 (.string (line ns)) := by
    rw [← hW0]
    have h := Boxed.new (w.alloc (.cells #[.slice none 0 0] 79)) 9 (.string (line ns))
    rw [World.size_alloc] at h
    exact (h.alloc _).alloc _
  have b2 : Boxed W0 (w.heap.size + 2) 9 (.string ⟨#[32]⟩) := by
    rw [← hW0]
    have h := Boxed.new ((w.alloc (.cells #[.slice none 0 0] 79)).alloc (.cells #[.string (line ns)] 9)) 9 (.string ⟨#[32]⟩)
    rw [World.size_alloc, World.size_alloc] at h
    exact h.alloc _
  have b3 : Boxed W0 (w.heap.size + 3) 3 (.int .i64 0) := by
    rw [← hW0]
    have h := Boxed.new (((w.alloc (.cells #[.slice none 0 0] 79)).alloc (.cells #[.string (line ns)] 9)).alloc (.cells #[.string ⟨#[32]⟩] 9)) 3 (.int .i64 0)
    rw [World.size_alloc, World.size_alloc, World.size_alloc] at h
    exact h
  have hB0 : Below w.heap.size w W0 := by rw [← hW0]; exact ba (ba (ba (ba (Below.refl _ _) _) _) _) _
  rw [hW0]
  clear hW0
  have HWS := Lib.hid hws
  have HI := Lib.hid hi
  clear hi
  refine wpIn_rangeV rfl (by omega) (gf := 297) (lb := #[.pointer (some ⟨w.heap.size + 1 + 1, 0, none⟩), .pointer (some ⟨w.heap.size + 1, 0, none⟩), .pointer (some ⟨w.heap.size + 1 + 1 + 1, 0, none⟩)]) rfl trivial (enters_of Tryz.func297 (by kernel_rfl) rfl)
    (encs := fun x => #[.string (txt x)]) (U := w.heap.size) (V := w.heap.size + 1) (L := ns) (by rw [hws]; omega)
    (split_seqV _ (by omega) ns hne hsz (w.heap.size + 2) (w.heap.size + 1) (w.heap.size + 3) w.heap.size W0 (by rw [hws]; omega) (by rw [hws]; omega) (by rw [hws]; omega) (by omega) (by omega) (by omega) (by omega) (by omega) ⟨b1, b2.cell, b3.cell⟩) (fun _ => rfl)
    (fun pre W => ∃ v, Gat w.heap.size W0.heap.size w W pre v) (gat_own _ _ _ _ (by rw [hws]; omega) (by rw [hws]; omega))
    (fun s X v => by
      rintro ⟨u, h1, h2, h3⟩
      exact ⟨u, h1.other (by omega) _, World.ownsRow.kept h2 (row := some (w.heap.size + 1)) ⟨rfl, rfl, rfl, by simp [World.setCell], fun k _ hk => Below.heap_setCell _ _ _ _ (fun e => hk (by simp [e]))⟩ (.inr fun e => by have := (World.ownsRow.lt h2 _ e).1; omega), h3.setCell (by simp) _⟩)
    ⟨.slice none 0 0, b0, World.ownsRow_nil _ _ _ _, hB0⟩
    (fun x => { tmps := #[.string (line ns), undef, .slice none 0 0, .pointer (some ⟨w.heap.size, 0, none⟩), .string (txt x), .string (line ns), .func (.func 297) #[] #[.pointer (some ⟨w.heap.size + 1 + 1, 0, none⟩), .pointer (some ⟨w.heap.size + 1, 0, none⟩), .pointer (some ⟨w.heap.size + 1 + 1 + 1, 0, none⟩)], .string (txt x), undef, undef, undef, undef, undef, undef], defers := [] }) ?assign ?body ?done
  case assign =>
    intro lp x W K hK
    gi_wp2
    simpa using hK
  case body =>
    rintro lp pre x W hlp hW ⟨v, hb, ho, hl⟩ hpre
    have hx : x < 10000 := hlt x (hpre.subset (by simp))
    have hpl : pre.length + 1 ≤ 100000 := by have := hpre.length_le; rw [List.length_append, List.length_singleton] at this; omega
    have hbs : w.heap.size < W.heap.size := hb.lt
    have hc := hb.cell
    have hf := hb.frozen
    have HB := Lib.hid hb
    have HO := Lib.hid ho
    have HL := Lib.hid hl
    have HLT := Lib.hid hlt
    have HSZ := Lib.hid hsz
    have HB0 := Lib.hid b0
    clear hb ho hl hlt hsz b0 b1 b2 b3 hpre hB0 hne
    gi_wp2
    refine wpIn_region_any (by kernel_rfl) ?_
    refine wpAnyIn_ready (rs := [0, 1]) (by kernel_rfl) (by simp) ?_
    refine AllReadyIn.cons rfl (fun K hK => ?_) (AllReadyIn.cons rfl (fun K hK => ?_) AllReadyIn.nil)
    · go_simp
      refine hK _ _ ?_
      clear hK K
      refine wpAnyIn_ready (rs := [1]) (by kernel_rfl) (by simp) ?_
      refine AllReadyIn.cons rfl (fun K hK => ?_) AllReadyIn.nil
      go_simp
      refine hK _ _ ?_
      clear hK K
      refine wpAnyIn_ready (rs := [2]) (by kernel_rfl) (by simp) ?_
      refine AllReadyIn.cons rfl (fun K hK => ?_) AllReadyIn.nil
      go_simp
      gi_wp2_with (refine ⟨trivial, ?_⟩; gi_at_call 196; refine (CallsIn.inRound lp (callsIn_wide.2 (c_numberTold x hx _))).mono ?_; rintro e w4 ⟨rfl, hB4⟩; obtain ⟨so, ln, co, w7, k4, k5, hrun, hc7, hf7, hend⟩ := told_step (i := i0) HI.out hz0 hz1 hz2 (by rw [HWS.out] at hW ⊢; omega) hW hpl HB.out HO.out hB4 x)
      refine wpAnyIn_ready (rs := [3]) (by kernel_rfl) (by simp) ?_
      refine AllReadyIn.cons rfl (fun K hK => ?_) AllReadyIn.nil
      go_simp
      refine hK _ _ ?_
      clear hK K
      refine wpAnyIn_ready (rs := [4]) (by kernel_rfl) (by simp) ?_
      refine AllReadyIn.cons rfl (fun K hK => ?_) AllReadyIn.nil
      refine stepIn_append rfl (.tmp 8) (.tmp 11) 79 rfl hrun rfl rfl ?_
      refine hK _ _ ?_
      clear hK K
      refine wpAnyIn_ready (rs := [5]) (by kernel_rfl) (by simp) ?_
      refine AllReadyIn.cons rfl (fun K hK => ?_) AllReadyIn.nil
      go_simp
      refine hK _ _ ?_
      clear hK K
      refine wpAnyIn_done (by kernel_rfl) ?_ _
      exact told_end (a := ⟨#[], []⟩) (by rw [HWS.out]; omega) (Nat.le_refl _) hend hW HL.out hB4 HO.out
    · go_simp
      refine hK _ _ ?_
      clear hK K
      refine wpAnyIn_ready (rs := [0, 2]) (by kernel_rfl) (by simp) ?_
      refine AllReadyIn.cons rfl (fun K hK => ?_) (AllReadyIn.cons rfl (fun K hK => ?_) AllReadyIn.nil)
      · go_simp
        refine hK _ _ ?_
        clear hK K
        refine wpAnyIn_ready (rs := [2]) (by kernel_rfl) (by simp) ?_
        refine AllReadyIn.cons rfl (fun K hK => ?_) AllReadyIn.nil
        go_simp
        gi_wp2_with (refine ⟨trivial, ?_⟩; gi_at_call 196; refine (CallsIn.inRound lp (callsIn_wide.2 (c_numberTold x hx _))).mono ?_; rintro e w4 ⟨rfl, hB4⟩; obtain ⟨so, ln, co, w7, k4, k5, hrun, hc7, hf7, hend⟩ := told_step (i := i0) HI.out hz0 hz1 hz2 (by rw [HWS.out] at hW ⊢; omega) hW hpl HB.out HO.out hB4 x)
        refine wpAnyIn_ready (rs := [3]) (by kernel_rfl) (by simp) ?_
        refine AllReadyIn.cons rfl (fun K hK => ?_) AllReadyIn.nil
        go_simp
        refine hK _ _ ?_
        clear hK K
        refine wpAnyIn_ready (rs := [4]) (by kernel_rfl) (by simp) ?_
        refine AllReadyIn.cons rfl (fun K hK => ?_) AllReadyIn.nil
        refine stepIn_append rfl (.tmp 8) (.tmp 11) 79 rfl hrun rfl rfl ?_
        refine hK _ _ ?_
        clear hK K
        refine wpAnyIn_ready (rs := [5]) (by kernel_rfl) (by simp) ?_
        refine AllReadyIn.cons rfl (fun K hK => ?_) AllReadyIn.nil
        go_simp
        refine hK _ _ ?_
        clear hK K
        refine wpAnyIn_done (by kernel_rfl) ?_ _
        exact told_end (a := ⟨#[], []⟩) (by rw [HWS.out]; omega) (Nat.le_refl _) hend hW HL.out hB4 HO.out
      · go_simp
        gi_wp2_with (refine ⟨trivial, ?_⟩; gi_at_call 196; refine (CallsIn.inRound lp (callsIn_wide.2 (c_numberTold x hx _))).mono ?_; rintro e w4 ⟨rfl, hB4⟩; obtain ⟨so, ln, co, w7, k4, k5, hrun, hc7, hf7, hend⟩ := told_step (i := i0) HI.out hz0 hz1 hz2 (by rw [HWS.out] at hW ⊢; omega) hW hpl HB.out HO.out hB4 x)
        refine wpAnyIn_ready (rs := [0, 3]) (by kernel_rfl) (by simp) ?_
        refine AllReadyIn.cons rfl (fun K hK => ?_) (AllReadyIn.cons rfl (fun K hK => ?_) AllReadyIn.nil)
        · go_simp
          refine hK _ _ ?_
          clear hK K
          refine wpAnyIn_ready (rs := [3]) (by kernel_rfl) (by simp) ?_
          refine AllReadyIn.cons rfl (fun K hK => ?_) AllReadyIn.nil
          go_simp
          refine hK _ _ ?_
          clear hK K
          refine wpAnyIn_ready (rs := [4]) (by kernel_rfl) (by simp) ?_
          refine AllReadyIn.cons rfl (fun K hK => ?_) AllReadyIn.nil
          refine stepIn_append rfl (.tmp 8) (.tmp 11) 79 rfl hrun rfl rfl ?_
          refine hK _ _ ?_
          clear hK K
          refine wpAnyIn_ready (rs := [5]) (by kernel_rfl) (by simp) ?_
          refine AllReadyIn.cons rfl (fun K hK => ?_) AllReadyIn.nil
          go_simp
          refine hK _ _ ?_
          clear hK K
          refine wpAnyIn_done (by kernel_rfl) ?_ _
          exact told_end (a := ⟨#[], []⟩) (by rw [HWS.out]; omega) (Nat.le_refl _) hend hW HL.out hB4 HO.out
        · go_simp
          refine hK _ _ ?_
          clear hK K
          refine wpAnyIn_ready (rs := [0]) (by kernel_rfl) (by simp) ?_
          refine AllReadyIn.cons rfl (fun K hK => ?_) AllReadyIn.nil
          go_simp
          refine hK _ _ ?_
          clear hK K
          refine wpAnyIn_ready (rs := [4]) (by kernel_rfl) (by simp) ?_
          refine AllReadyIn.cons rfl (fun K hK => ?_) AllReadyIn.nil
          refine stepIn_append rfl (.tmp 8) (.tmp 11) 79 rfl hrun rfl rfl ?_
          refine hK _ _ ?_
          clear hK K
          refine wpAnyIn_ready (rs := [5]) (by kernel_rfl) (by simp) ?_
          refine AllReadyIn.cons rfl (fun K hK => ?_) AllReadyIn.nil
          go_simp
          refine hK _ _ ?_
          clear hK K
          refine wpAnyIn_done (by kernel_rfl) ?_ _
          exact told_end (a := ⟨#[], []⟩) (by rw [HWS.out]; omega) (Nat.le_refl _) hend hW HL.out hB4 HO.out
  case done =>
    rintro D W hD ⟨v, hb, ho, hl⟩ hK
    have hc := hb.cell
    obtain ⟨g, cap, rfl⟩ : ∃ g cap, v = .slice (some ⟨g, 0, none⟩) ns.length cap := by
      rcases OwnI.cases ho with ⟨_, h⟩ | ⟨g, cap, h, _⟩
      · exfalso
        have := congrArg List.length h
        simp [ints] at this
        exact hne this
      · refine ⟨g, cap, ?_⟩
        rw [h]
        simp [ints]
    have hgD : g ≠ D := by
      rcases ho.2 with ⟨e, _⟩ | ⟨g', cap', cur, e, _, hh, _⟩
      · cases e
      · simp only [Value.slice.injEq, Option.some.injEq, Addr.mk.injEq, and_true] at e
        obtain ⟨rfl, _⟩ := e
        rintro rfl
        rw [hh] at hK
        cases hK
    have HO2 := Lib.hid (show OwnI (W.putObj D (.deferred none)) w.heap.size 3 (.slice (some ⟨g, 0, none⟩) ns.length cap) (ints ns) from
      OwnI.low (World.ownsRow.kept ho (grownBy_putObj' W D (.deferred none)) (.inr fun e => hgD (by simpa [Value.ownBlock] using e))) (by rw [hws]; omega))
    have HBW := Lib.hid (hl.trans (belowK_b (w := w) (Nat.le_refl _) W D _ (.deferred none) (by rw [hws] at hD; omega) hK rfl rfl))
    clear hb ho hl hlt hsz b0 b1 b2 b3 hB0 hgD
    gi_wp2
    refine ⟨by simp, .inl ⟨_, _, rfl, run_takeDeferred hK, ?_⟩⟩
    refine ⟨.slice (some ⟨g, 0, none⟩) ns.length cap, ?_, ⟨g, cap, rfl, HO2.out, HBW.out⟩⟩
    simp [results, Tryz.f129, go_sem]
end Go.Proofs.YtonecelkkeakiaaGreatDoor
namespace Go.Proofs.YtonecelkkeakiaaGreatDoor
open Go.RowKit Go.Shelf
theorem look_run (w : World) (R : Nat) (es : Array MapEntry) (clock : Nat) (k : ByteArray) (i : Nat) (v : Value) (hw : w.heap[R]? = some (.map es clock)) (hn : Instr.findNow .string (.string k) es.toList 0 = some (some (i, v))) :
    (Instr.lookup 45 (.map (some R)) (.string k) true).run Tryz.prog w = .ok (.tuple #[v, .bool true]) w := by
  have hk : MapKept.IsKey .string (.string k) := trivial
  simp [Instr.lookup, run_underlying Tryz.underlying45, MapKept.run_getObj_map hw, MapKept.run_checkKey Tryz.underlying9 hk, MapKept.run_findKey Tryz.underlying9 hn, Result.andThen]
theorem st_func (w : World) (a : Addr) (x : Fn) (u : Value) (hc : w.cell? a = some u) (hf : w.frozen? a = false) : (store a (.func x #[] #[])).run Tryz.prog w = .ok () (w.setCell a (.func x #[] #[])) := by
  simp [store, Sem.run, hc, hf]
theorem st_new (w : World) (x : Fn) (n : Int) (t : TypeId) : (store ⟨w.heap.size, 1, none⟩ (.func x #[] #[])).run Tryz.prog (w.alloc (.cells #[.int .i64 n, .nilFunc] t)) = .ok () (w.alloc (.cells #[.int .i64 n, .func x #[] #[]] t)) := by
  rw [st_func _ _ x .nilFunc (World.cell?_alloc_mark w _ _ _ 1) (by rw [World.frozen?_alloc_mark]; simp)]
  rw [World.setCell_alloc_new]
  rfl
theorem told_ret {w w1 w2 : World} {a b : Value} {t : TypeId} {o : Obj} {v : Value} {zs : List Int} (hb1 : Below (w.alloc (.cells #[a, b] t)).heap.size (w.alloc (.cells #[a, b] t)) w1) (hO : OwnI w2 (w1.alloc o).heap.size 3 v zs) (hb2 : Below (w1.alloc o).heap.size (w1.alloc o) w2)
    (u0 : w2.cell? ⟨w.heap.size, 0, none⟩ = some a) (u1 : w2.cell? ⟨w.heap.size, 1, none⟩ = some b) (n : Int) (f : Nat) :
    OwnI ((w2.setCell ⟨w.heap.size, 0, none⟩ (.int .i64 n)).setCell ⟨w.heap.size, 1, none⟩ (.func (.func f) #[] #[])) w.heap.size 3 v zs ∧
    Below w.heap.size w ((w2.setCell ⟨w.heap.size, 0, none⟩ (.int .i64 n)).setCell ⟨w.heap.size, 1, none⟩ (.func (.func f) #[] #[])) ∧
    ((w2.setCell ⟨w.heap.size, 0, none⟩ (.int .i64 n)).setCell ⟨w.heap.size, 1, none⟩ (.func (.func f) #[] #[])).cell? ⟨w.heap.size, 0, none⟩ = some (.int .i64 n) ∧
    ((w2.setCell ⟨w.heap.size, 0, none⟩ (.int .i64 n)).setCell ⟨w.heap.size, 1, none⟩ (.func (.func f) #[] #[])).cell? ⟨w.heap.size, 1, none⟩ = some (.func (.func f) #[] #[]) := by
  have s1 := hb1.size
  have s2 := hb2.size
  simp at s1 s2
  have hne : ∀ g, some g = v.ownBlock → w.heap.size < g := fun g e => by
    have := (World.ownsRow.lt hO g e.symm).1
    simp at this
    omega
  have kp : ∀ (X : World) (i : Nat) (u : Value), OwnI X (w1.alloc o).heap.size 3 v zs → OwnI (X.setCell ⟨w.heap.size, i, none⟩ u) (w1.alloc o).heap.size 3 v zs := fun X i u h =>
    World.ownsRow.kept h (row := some w.heap.size) ⟨rfl, rfl, rfl, by simp [World.setCell], fun k _ hk => Below.heap_setCell _ _ _ _ (fun e => hk (by simp [e]))⟩ (.inr fun e => by have := hne _ e.symm; omega)
  refine ⟨OwnI.low (kp _ _ _ (kp _ _ _ hO)) (by simp; omega), ?_, set_miss (by simp) (set_hit u0), set_hit (set_miss (by simp) u1)⟩
  exact ((((ba (Below.refl _ _) _).trans (hb1.mono (by simp))).trans ((ba (Below.refl _ _) o).trans (hb2.mono (by simp)) |>.mono (by omega))).setCell (p := ⟨w.heap.size, 0, none⟩) (Nat.le_refl _) _).setCell (p := ⟨w.heap.size, 1, none⟩) (Nat.le_refl _) _
set_option maxRecDepth 20000 in
set_option maxHeartbeats 1000000 in
theorem c_told (kw : ByteArray) (n : Int) (f i : Nat) (ns : List Nat) (R : Nat) (hne : ns ≠ []) (hsz : (line ns).size ≤ 100000) (hlt : ∀ n ∈ ns, n < 10000) (hln : ns.length ≤ 100000) (T : ByteArray) (hT : T.size ≤ 100000) (hcut : Lib.cut T.data.toList [32] = (kw.data.toList, (line ns).data.toList, true))
    (hn0 : n ≠ 0) (hn1 : n = -1 ∨ n = ns.length) (hf : Instr.findNow .string (.string kw) (cmdE (cmdL.take 28) 0) 0 = some (some (i, .agg #[.int .i64 n, .func (.func f) #[] #[]])))
    (w : World) (hE : Env w) (hR : w.heap[R]? = some (cmdM 28)) :
    Calls Tryz.prog 77 #[.string T, .map (some R)] w fun e w' => ∃ g cap, e = .returned (.tuple #[.agg #[.int .i64 n, .func (.func f) #[] #[]], .slice (some ⟨g, 0, none⟩) ns.length cap]) ∧ OwnI w' w.heap.size 3 (.slice (some ⟨g, 0, none⟩) ns.length cap) (ints ns) ∧ Below w.heap.size w w' := by
  obtain ⟨ml, hml⟩ := hE.ml
  have hCut : Calls Tryz.prog 128 #[.string T, .string ⟨#[32]⟩] (w.alloc (.cells #[.int .i64 0, .nilFunc] 75)) fun e w' => e = .returned (.tuple #[.string kw, .string (line ns), .bool true]) ∧ Below (w.alloc (.cells #[.int .i64 0, .nilFunc] 75)).heap.size (w.alloc (.cells #[.int .i64 0, .nilFunc] 75)) w' := by
    refine (Tryz.strings_Cut T ⟨#[32]⟩ ml _ (by omega) (keepc (ba (Below.refl _ _) _) hml)).mono ?_
    rintro e w' ⟨rfl, q, rfl⟩
    refine ⟨?_, bel_drewN (Below.refl _ _) _⟩
    show Ending.returned (.tuple #[.string ⟨(Lib.cut T.data.toList [32]).1.toArray⟩, .string ⟨(Lib.cut T.data.toList [32]).2.1.toArray⟩, .bool (Lib.cut T.data.toList [32]).2.2]) = _
    rw [hcut]
  have hB1 : Below w.heap.size w (w.alloc (.cells #[.int .i64 0, .nilFunc] 75)) := ba (Below.refl _ _) _
  have hTold := fun w => c_numbersTold ns hne hsz hlt hln w
  have HF := Lib.hid hf
  have HN1 := Lib.hid hn1
  have HR := Lib.hid hR
  clear hcut hf hn1 hml hne hlt hT hR hE hsz
  generalize line ns = L at *
  go_enter Tryz.func77, Tryz.ntmps77
  go_wp2_with (go_at_call 128; refine hCut.mono ?_; rintro e w1 ⟨rfl, hb1⟩; have hlk := look_run w1 R _ _ kw i _ (((hB1.trans (hb1.mono hB1.size)).block R (Array.getElem?_eq_some_iff.1 HR.out).1).trans HR.out) (by simpa using HF.out); have hst := st_new w1 (.func f) n 75)
  refine (hTold _).mono ?_
  rintro e w2 ⟨g, cap, rfl, hO2, hb2⟩
  have q0 : w2.cell? ⟨w1.heap.size, 0, none⟩ = some (.int .i64 n) := keepc hb2 (World.cell?_alloc_mark w1 _ _ _ 0)
  have q1 : w2.cell? ⟨w1.heap.size, 1, none⟩ = some (.func (.func f) #[] #[]) := keepc hb2 (World.cell?_alloc_mark w1 _ _ _ 1)
  have hb3 : Below w1.heap.size w1 w2 := (ba (Below.refl _ _) _).trans (hb2.mono (by simp))
  have u0 : w2.cell? ⟨w.heap.size, 0, none⟩ = some (.int .i64 0) := keepc hb3 (keepc hb1 (World.cell?_alloc_mark w _ _ _ 0))
  have u1 : w2.cell? ⟨w.heap.size, 1, none⟩ = some .nilFunc := keepc hb3 (keepc hb1 (World.cell?_alloc_mark w _ _ _ 1))
  have v0 : w2.frozen? ⟨w.heap.size, 0, none⟩ = false := keepf hb3 (keepc hb1 (World.cell?_alloc_mark w _ _ _ 0)) (keepf hb1 (World.cell?_alloc_mark w _ _ _ 0) (by rw [World.frozen?_alloc_mark]; simp))
  have v1 : w2.frozen? ⟨w.heap.size, 1, none⟩ = false := keepf hb3 (keepc hb1 (World.cell?_alloc_mark w _ _ _ 1)) (keepf hb1 (World.cell?_alloc_mark w _ _ _ 1) (by rw [World.frozen?_alloc_mark]; simp))
  have hn1 := HN1.out
  have hst2 := st_func (w2.setCell ⟨w.heap.size, 0, none⟩ (.int .i64 n)) ⟨w.heap.size, 1, none⟩ (.func f) .nilFunc (set_miss (by simp) u1) (by rw [← v1]; simp [World.frozen?_setCell])
  have hend := told_ret hb1 hO2 hb2 u0 u1 n f
  clear hCut hTold hlk hst
  rcases hn1 with rfl | rfl
  · go_wp2_with fail
    refine bodyPost_ret (v := .tuple #[.agg #[.int .i64 (-1), .func (.func f) #[] #[]], .slice (some ⟨g, 0, none⟩) ns.length cap]) ?_ rfl ⟨g, cap, rfl, hend.1, hend.2.1⟩
    have z0 := hend.2.2.1
    have z1 := hend.2.2.2
    simp [results, Tryz.results77, go_sem, z0, z1]
  · have hnn : ((ns.length : Int) == -1) = false := by rw [beq_eq_false_iff_ne]; omega
    have hnn2 : ((ns.length : Int) != -1) = true := by simp [bne, hnn]
    go_wp2_with fail
    refine bodyPost_ret (v := .tuple #[.agg #[.int .i64 (ns.length : Int), .func (.func f) #[] #[]], .slice (some ⟨g, 0, none⟩) ns.length cap]) ?_ rfl ⟨g, cap, rfl, hend.1, hend.2.1⟩
    have z0 := hend.2.2.1
    have z1 := hend.2.2.2
    simp [results, Tryz.results77, go_sem, z0, z1]
end Go.Proofs.YtonecelkkeakiaaGreatDoor
