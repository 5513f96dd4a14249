/- Chapter 8: the numbers of a line, told one by one: the library's SplitSeq at a blank. -/
import Derived.Test.YtonecelkkeakiaaGreatDoorZe
import Derived.Test.YtonecelkkeakiaaGreatDoorZf
import Derived.RangeFuncBox
import Derived.WalkMore
import Derived.Deep.Cut
import Derived.Deep.LoopGhost
import Derived.Deep.CutBlock
import Derived.Deep.CutRange
namespace Go.Proofs.YtonecelkkeakiaaGreatDoor
open Go.RowKit Go.Shelf
attribute [local go_sem] Oper.semAt_some
/-- numbers with blanks between -/
def line : List Nat → ByteArray
  | [] => ⟨#[]⟩
  | [n] => txt n
  | n :: m :: r => txt n ++ (⟨#[32]⟩ ++ line (m :: r))
theorem idx_none (c : UInt8) : ∀ l : List UInt8, (∀ b ∈ l, b ≠ c) → Lib.indexByte l c = -1
  | [], _ => rfl
  | b :: l, h => by
    have hb : (b == c) = false := beq_eq_false_iff_ne.2 (h b (List.mem_cons_self ..))
    have := idx_none c l fun x hx => h x (List.mem_cons_of_mem _ hx)
    simp [Lib.indexByte, hb, this]
theorem idx_some (c : UInt8) (r : List UInt8) : ∀ l : List UInt8, (∀ b ∈ l, b ≠ c) → Lib.indexByte (l ++ c :: r) c = l.length
  | [], _ => by simp [Lib.indexByte]
  | b :: l, h => by
    have hb : (b == c) = false := beq_eq_false_iff_ne.2 (h b (List.mem_cons_self ..))
    have := idx_some c r l fun x hx => h x (List.mem_cons_of_mem _ hx)
    simp only [List.cons_append, Lib.indexByte, hb, Bool.false_eq_true, if_false, this]
    rw [if_neg (by simp)]
    simp
theorem txt_list (n : Nat) : (txt n).data.toList = Lib.decDigits n := by simp [txt]
theorem dec_no32 (n : Nat) : ∀ b ∈ Lib.decDigits n, b ≠ 32 := fun b hb e => by
  have := dec_all n b hb
  rw [e] at this
  exact absurd this (by decide)
theorem idx_last (n : Nat) : Lib.indexByte (line [n]).data.toList 32 = -1 := by
  show Lib.indexByte (txt n).data.toList 32 = -1
  rw [txt_list]
  exact idx_none 32 _ (dec_no32 n)
theorem idx_more (n m : Nat) (r : List Nat) : Lib.indexByte (line (n :: m :: r)).data.toList 32 = ((txt n).size : Int) := by
  have e : (line (n :: m :: r)).data.toList = Lib.decDigits n ++ 32 :: (line (m :: r)).data.toList := by
    show (txt n ++ (⟨#[32]⟩ ++ line (m :: r))).data.toList = _
    simp [ByteArray.data_append, txt_list]
  rw [e, idx_some 32 _ _ (dec_no32 n)]
  have := congrArg List.length (txt_list n)
  rw [← this]
  rfl
theorem ex_left (a b : ByteArray) : (a ++ b).extract 0 a.size = a := by
  ext1
  rw [ByteArray.data_extract, ByteArray.data_append]
  show (a.data ++ b.data).extract 0 a.data.size = a.data
  simp
theorem ex_right (a b : ByteArray) : (a ++ b).extract a.size (a.size + b.size) = b := by
  ext1
  rw [ByteArray.data_extract, ByteArray.data_append]
  have h : ∀ x y : Array UInt8, (x ++ y).extract x.size (x.size + y.size) = y := fun x y => by
    apply Array.ext'
    simp
  exact h a.data b.data
theorem txt_pos (n : Nat) : 1 ≤ (txt n).size := by
  rcases Nat.lt_or_ge n 10 with h | h
  · rw [txt_small h]; exact Nat.le_refl 1
  · rw [txt_big h, ByteArray.size_append]
    exact Nat.le_add_left 1 _
theorem line_le : ∀ (pre rest : List Nat), rest ≠ [] → (line rest).size ≤ (line (pre ++ rest)).size
  | [], _, _ => Nat.le_refl _
  | [x], rest, h => by
    match rest, h with
    | y :: r, _ =>
      show (line (y :: r)).size ≤ (txt x ++ (⟨#[32]⟩ ++ line (y :: r))).size
      rw [ByteArray.size_append, ByteArray.size_append]
      omega
  | x :: y :: p, rest, h => by
    have := line_le (y :: p) rest h
    show (line rest).size ≤ (txt x ++ (⟨#[32]⟩ ++ line (y :: (p ++ rest)))).size
    rw [ByteArray.size_append, ByteArray.size_append]
    have e : line (y :: p ++ rest) = line (y :: (p ++ rest)) := rfl
    rw [e] at this
    omega
def lenW (V : Nat) (w : World) : Nat := match w.cell? ⟨V, 0, none⟩ with | some (.string s) => s.size | _ => 0
theorem lenW_box {V : Nat} {w : World} {s : ByteArray} (h : w.cell? ⟨V, 0, none⟩ = some (.string s)) : lenW V w = s.size := by
  unfold lenW
  rw [h]
/-- where the iterator stands: rest is to come -/
structure Spl (V E D : Nat) (rest : List Nat) (w : World) : Prop where
  box : Boxed w V 9 (.string (line rest))
  sep : w.cell? ⟨E, 0, none⟩ = some (.string ⟨#[32]⟩)
  sav : w.cell? ⟨D, 0, none⟩ = some (.int .i64 0)
set_option maxRecDepth 20000 in
set_option maxHeartbeats 400000 in
theorem split_in (n : Nat) (hn : 1 ≤ n) (ns : List Nat) (hne : ns ≠ []) (hsz : (line ns).size ≤ 100000) (l E V D U B : Nat) (J : List Nat → World → Prop) (w : World) (hE : E < B) (hV : V < B) (hD : D < B) (hUE : E ≠ U) (hUV : V ≠ U) (hUD : D ≠ U) (hVE : V ≠ E) (hVD : V ≠ D)
    (hJ : ∀ s X Y, J s X → Below X.heap.size X Y → J s Y) (hJV : ∀ s X v, J s X → J s (X.setCell ⟨V, 0, none⟩ v))
    (hY : ∀ pre x W1, J pre W1 → w.heap.size ≤ W1.heap.size → pre ++ [x] <+: ns → YieldAt Fence.wide (n - 1) Tryz.prog l #[.string (txt x)] W1 fun e W' => e = .returned (.bool true) ∧ J (pre ++ [x]) W' ∧ KpR B U W1 W')
    (hS : Spl V E D ns w) (h0 : J [] w) :
    Calls Tryz.prog 297 #[.func (.yield l) #[] #[], .pointer (some ⟨E, 0, none⟩), .pointer (some ⟨V, 0, none⟩), .pointer (some ⟨D, 0, none⟩)] w fun e W' => (∃ v, e = .returned v) ∧ J ns W' := by
  obtain ⟨hb, hs, hd⟩ := hS
  have hc := hb.cell
  go_enter Tryz.func297, Tryz.ntmps297
  go_wp2_with fail
  go_loopw [7, 8] (fun _ _ wr => ∃ pre rest, rest ≠ [] ∧ pre ++ rest = ns ∧ Spl V E D rest wr ∧ J pre wr ∧ w.heap.size ≤ wr.heap.size) (fun _ _ wr => lenW V wr)
  case atStart => exact ⟨[], ns, hne, rfl, ⟨hb, hs, hd⟩, h0, Nat.le_refl _⟩
  case round =>
    obtain ⟨pre, rest, hr0, hpr, ⟨hb1, hs1, hd1⟩, hJp, hsz1⟩ := hrel
    clear hb hs hd hc h0
    have hc1 := hb1.cell
    have hf1 := hb1.frozen
    have HHY := Lib.hid hY
    have HJ := Lib.hid hJ
    have HJV := Lib.hid hJV
    clear hY hJ hJV
    match rest, hr0 with
    | [k], _ =>
      have hidx := Tryz.strings_Index_one (line [k]) 32 wr
      rw [idx_last] at hidx
      have e1 : line [k] = txt k := rfl
      rw [e1] at hidx hc1
      obtain ⟨fn, tm, asg, body, hy, hR⟩ := HHY.out pre k wr hJp hsz1 ⟨[], by rw [List.append_nil]; exact hpr⟩
      have HP := Lib.hid hpr
      clear hpr e1
      have HR := Lib.hid hR
      have HYY := Lib.hid hy
      clear hR hy
      go_upto_region 10 with (go_at_call 126; refine hidx.mono ?_; rintro e w1 ⟨rfl, rfl⟩)
      have hy := HYY.out
      have hR := HR.out
      refine (wpIn_wide (n := n)).1 ?_
      gi_wp2
      refine hR.mono ?_
      rintro e W3 ⟨rfl, hJ3, hK3⟩
      gi_wp2
      go_wp2_with fail
      go_end0
      exact ⟨⟨_, rfl⟩, by rw [HP.out] at hJ3; exact hJ3⟩
    | k :: m :: r, _ =>
      have hidx := Tryz.strings_Index_one (line (k :: m :: r)) 32 wr
      rw [idx_more] at hidx
      have hlen := txt_pos k
      have hle : (line (k :: m :: r)).size ≤ 100000 := Nat.le_trans (by rw [← hpr]; exact line_le _ _ (by simp)) hsz
      have he : line (k :: m :: r) = txt k ++ (⟨#[32]⟩ ++ line (m :: r)) := rfl
      have s1 : (line (k :: m :: r)).size = (txt k).size + (1 + (line (m :: r)).size) := by rw [he, ByteArray.size_append, ByteArray.size_append]; rfl
      have x1 : (line (k :: m :: r)).extract 0 (txt k).size = txt k := by rw [he]; exact ex_left _ _
      have x2 : (line (k :: m :: r)).extract ((txt k).size + 1) (line (k :: m :: r)).size = line (m :: r) := by
        have h := ex_right (txt k ++ ⟨#[32]⟩) (line (m :: r))
        rw [ByteArray.append_assoc, ByteArray.size_append] at h
        rw [s1, he, ← Nat.add_assoc]
        exact h
      obtain ⟨fn, tm, asg, body, hy, hR⟩ := HHY.out pre k wr hJp hsz1 ⟨m :: r, by rw [List.append_assoc]; exact hpr⟩
      have HP := Lib.hid hpr
      have HR := Lib.hid hR
      have HYY := Lib.hid hy
      have hpos : 1 ≤ (line (m :: r)).size ∨ True := .inr trivial
      clear hpr he hR hy hpos
      generalize line (k :: m :: r) = S at *
      obtain ⟨S2, hS2⟩ : ∃ S2, line (m :: r) = S2 := ⟨_, rfl⟩
      rw [hS2] at x2 s1
      have HS2 := Lib.hid hS2
      clear hS2
      have HL := Lib.hid (lenW_box hc1)
      generalize txt k = T at *
      go_upto_region 8 with (go_at_call 126; refine hidx.mono ?_; rintro e w1 ⟨rfl, rfl⟩)
      have hy := HYY.out
      refine (wpIn_wide (n := n)).1 ?_
      gi_wp2
      refine HR.out.mono ?_
      rintro e W3 ⟨rfl, hJ3, hK3⟩
      have hb3 : Boxed W3 V 9 (.string S) := (hK3.block V hV hUV).trans hb1
      have hs3 : W3.cell? ⟨E, 0, none⟩ = some (.string ⟨#[32]⟩) := by rw [← hs1]; simp [World.cell?, hK3.block E hE hUE]
      have hd3 : W3.cell? ⟨D, 0, none⟩ = some (.int .i64 0) := by rw [← hd1]; simp [World.cell?, hK3.block D hD hUD]
      have hc3 := hb3.cell
      have hf3 := hb3.frozen
      have hz3 := hK3.size
      clear hy hc1 hf1 hidx hs1 hd1 hb1
      gi_wp2
      go_wp2_with fail
      go_roundw
      case rel =>
        rw [s1] at x2
        rw [x2]
        refine ⟨pre ++ [k], m :: r, by simp, by rw [List.append_assoc]; exact HP.out, ⟨?_, ?_, ?_⟩, HJV.out _ _ _ hJ3, ?_⟩
        · rw [HS2.out]; exact Boxed.set _ hb3
        · rw [← hs3]; simp only [World.cell?]; rw [Below.heap_setCell W3 ⟨V, 0, none⟩ (.string S2) E (fun h => hVE h.symm)]
        · rw [← hd3]; simp only [World.cell?]; rw [Below.heap_setCell W3 ⟨V, 0, none⟩ (.string S2) D (fun h => hVD h.symm)]
        · have : (W3.setCell ⟨V, 0, none⟩ (.string S2)).heap.size = W3.heap.size := by simp [World.setCell]
          omega
      case measure =>
        rw [s1] at x2
        rw [x2, lenW_box (Boxed.set (.string S2) hb3).cell, HL.out]
        omega
theorem c_splitSeq (s sep : ByteArray) (w : World) : Calls Tryz.prog 247 #[.string s, .string sep, .int .i64 0] w fun e w' => e = .returned (.func (.func 297) #[] #[.pointer (some ⟨w.heap.size + 1, 0, none⟩), .pointer (some ⟨w.heap.size, 0, none⟩), .pointer (some ⟨w.heap.size + 1 + 1, 0, none⟩)]) ∧ ((w.alloc (.cells #[.string s] 9)).alloc (.cells #[.string sep] 9)).alloc (.cells #[.int .i64 0] 3) = w' := by
  go_enter Tryz.func247, Tryz.ntmps247
  go_wp2_with fail
  go_ret
  exact ⟨rfl, rfl⟩
theorem c_SplitSeq (s sep : ByteArray) (w : World) : Calls Tryz.prog 195 #[.string s, .string sep] w fun e w' => e = .returned (.func (.func 297) #[] #[.pointer (some ⟨w.heap.size + 1, 0, none⟩), .pointer (some ⟨w.heap.size, 0, none⟩), .pointer (some ⟨w.heap.size + 1 + 1, 0, none⟩)]) ∧ ((w.alloc (.cells #[.string s] 9)).alloc (.cells #[.string sep] 9)).alloc (.cells #[.int .i64 0] 3) = w' := by
  go_enter Tryz.func195, Tryz.ntmps195
  go_wp2_with (go_at_call 247; refine (c_splitSeq _ _ _).mono ?_; rintro e w1 ⟨rfl, rfl⟩)
  go_ret
  exact ⟨rfl, rfl⟩
theorem split_seqV (n : Nat) (hn : 1 ≤ n) (ns : List Nat) (hne : ns ≠ []) (hsz : (line ns).size ≤ 100000) (E V D U : Nat) (w : World) (hE : E < w.heap.size) (hV : V < w.heap.size) (hD : D < w.heap.size) (hUE : E ≠ U) (hUV : V ≠ U) (hUD : D ≠ U) (hVE : V ≠ E) (hVD : V ≠ D) (hS : Spl V E D ns w) :
    SeqV Fence.wide n Tryz.prog 297 #[.pointer (some ⟨E, 0, none⟩), .pointer (some ⟨V, 0, none⟩), .pointer (some ⟨D, 0, none⟩)] (fun x => #[.string (txt x)]) U V ns w := fun l J W hW _ _ hJ hJV hY h0 =>
  callsIn_wide.2 (split_in n hn ns hne hsz l E V D U w.heap.size J W hE hV hD hUE hUV hUD hVE hVD hJ hJV hY ⟨(hW.block V hV).trans hS.box, keepc hW hS.sep, keepc hW hS.sav⟩ h0)
end Go.Proofs.YtonecelkkeakiaaGreatDoor
