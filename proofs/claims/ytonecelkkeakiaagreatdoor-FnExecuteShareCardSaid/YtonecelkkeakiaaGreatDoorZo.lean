/- Chapter 8: what is kept from line to line; become, the words share and sort; a line of one word alone. -/
import Derived.Test.YtonecelkkeakiaaGreatDoorMz16
import Derived.Test.YtonecelkkeakiaaGreatDoorMz15
import Derived.Test.YtonecelkkeakiaaGreatDoorMz3
import Derived.Test.YtonecelkkeakiaaGreatDoorMz13
namespace Go.Proofs.YtonecelkkeakiaaGreatDoor
open Go.RowKit Go.Shelf
theorem LaidE.kpB {w w' : World} {B U : Nat} (h : LaidE w) (hb : KpB B U w w') (hB : 2 < B) (hU : 2 < U) : LaidE w' := by
  have h' := h
  unfold LaidE World.cell? at h' ⊢
  rw [hb.block 2 hB (by omega)]
  exact h'
/-- the workbench at block b keeps the classes zs, in blocks from B0 on -/
def Ben (w : World) (b B0 : Nat) (zs : List Cl) : Prop := ∃ v, Boxed w b 44 v ∧ OwnC w B0 41 v zs
theorem Ben.low {w : World} {b B0 B1 : Nat} {zs : List Cl} (h : Ben w b B0 zs) (k : B1 ≤ B0) : Ben w b B1 zs := by
  obtain ⟨v, h1, h2⟩ := h
  exact ⟨v, h1, h2.low k⟩
theorem Ben.keep {w w' : World} {b B0 : Nat} {zs : List Cl} (h : Ben w b B0 zs) (k : Below w.heap.size w w') : Ben w' b B0 zs := by
  obtain ⟨v, h1, h2⟩ := h
  exact ⟨v, (k.block b h1.lt).trans h1, h2.keep k⟩
theorem becomes {w : World} {b B0 : Nat} {u v : Value} {zs : List Cl} (hb : Boxed w b 44 u) (hO : OwnC w B0 41 v zs) : Ben (w.setCell ⟨b, 0, none⟩ v) b B0 zs := by
  refine ⟨v, Boxed.set v hb, World.ownsRow.kept hO (row := some b) ⟨rfl, rfl, rfl, by simp [World.setCell], fun k _ hk => Below.heap_setCell _ _ _ _ (fun e => hk (by simp [e]))⟩ (.inr fun e => ?_)⟩
  exact Boxed.not_row hb (by decide) hO e.symm
set_option maxRecDepth 20000 in
set_option maxHeartbeats 1000000 in
theorem c_become (b B0 : Nat) (u : Value) (s : Option Addr) (n cap : Nat) (zs : List Cl) (hs : sysB zs = true) (hn : n ≤ 1048576) (hl : zs.length = n) (w : World) (hB : Boxed w b 44 u) (hO : OwnC w B0 41 (.slice s n cap) zs) :
    Calls Tryz.prog 94 #[.pointer (some ⟨b, 0, none⟩), .slice s n cap, .bool true] w fun e w' => e = .returned (.tuple #[.string ⟨#[111, 107]⟩, .bool true]) ∧ Ben w' b B0 zs ∧ KpB w.heap.size b w w' := by
  have hC : Cls w s n zs := hl ▸ spreadC hO
  have hcon := c_implSystemIn s n cap zs hn w hC
  rw [hs] at hcon
  have HB := Lib.hid hB
  have HO := Lib.hid hO
  clear hB hO hC
  go_enter Tryz.func94, Tryz.ntmps94
  go_wp2_with (go_at_call 161; refine hcon.mono ?_; rintro e w1 ⟨rfl, hb⟩; have hc1 := (show Boxed w1 b 44 u from (hb.block b HB.out.lt).trans HB.out).cell; have hf1 := (show Boxed w1 b 44 u from (hb.block b HB.out.lt).trans HB.out).frozen)
  have hB1 : Boxed w1 b 44 u := (hb.block b HB.out.lt).trans HB.out
  have HO1 := Lib.hid (HO.out.keep hb)
  go_ret2
  exact ⟨rfl, becomes hB1 HO1.out, (KpB.of_below hb).setCell 0 _⟩
theorem c_become0 (b : Nat) (s : Option Addr) (n cap : Nat) (zs : List Cl) (ok : Bool) (hs : (ok && sysB zs) = false) (hn : n ≤ 1048576) (w : World) (hC : Cls w s n zs) :
    Calls Tryz.prog 94 #[.pointer (some ⟨b, 0, none⟩), .slice s n cap, .bool ok] w fun e w' => e = .returned (.tuple #[.string ⟨#[]⟩, .bool false]) ∧ Below w.heap.size w w' := by
  cases ok
  · go_enter Tryz.func94, Tryz.ntmps94
    go_wp2_with fail
    go_ret2
    exact ⟨rfl, Below.refl _ _⟩
  · have hcon := c_implSystemIn s n cap zs hn w hC
    rw [Bool.true_and] at hs
    rw [hs] at hcon
    go_enter Tryz.func94, Tryz.ntmps94
    go_wp2_with (go_at_call 161; refine (hcon).mono ?_; rintro e w1 ⟨rfl, hb⟩)
    go_ret2
    exact ⟨rfl, hb⟩
theorem shrI_nat {zs : List Cl} (hs : sysB zs = true) : ∃ H : Nat, shrI zs = (H : Int) ∧ H ≤ 8000 := by
  obtain ⟨l1, l2, ha, _, p1, p2⟩ := sysB_facts hs
  have := shrK_bd p1 p2 ha zs.length (Nat.le_refl _)
  unfold shrI
  exact ⟨(shrK (perI zs) zs zs.length).toNat, by omega, by omega⟩
set_option maxRecDepth 20000 in
set_option maxHeartbeats 1000000 in
theorem c_wShare (b B0 H : Nat) (X : Value) (zs : List Cl) (hs : sysB zs = true) (hH : shrI zs = (H : Int)) (hH2 : H ≤ 8000) (w : World) (hE : Env w) (hB : Ben w b B0 zs) :
    Calls Tryz.prog 55 #[.pointer (some ⟨b, 0, none⟩), X] w fun e w' => e = .returned (.tuple #[.string (txt H), .bool true]) ∧ Below w.heap.size w w' := by
  obtain ⟨v, h1, h2⟩ := hB
  obtain ⟨l1, l2, _⟩ := sysB_facts hs
  obtain ⟨s, cap, rfl, hC, _⟩ := h2.spread
  have hcon := c_implSystemShare s zs.length cap zs (by omega) w hC
  rw [hs, selI_t, hH] at hcon
  have hc := h1.cell
  have HE := Lib.hid hE
  have hna := fun w1 (h : Env w1) => c_numberAnswer H (by omega) true w1 h
  have HNA := Lib.hid hna
  clear h1 h2 hC hH hE hna l1 l2 hs
  generalize zs.length = n at *
  go_enter Tryz.func55, Tryz.ntmps55
  go_wp2_with (go_at_call 14; refine (hcon).mono ?_; rintro e w1 ⟨rfl, hb⟩)
  refine (HNA.out w1 (HE.out.keep hb)).mono ?_
  rintro e w2 ⟨rfl, hb2⟩
  go_wp2_with fail
  go_ret2
  exact ⟨rfl, bt2 hb hb2⟩
set_option maxRecDepth 20000 in
set_option maxHeartbeats 1000000 in
theorem c_wSort (b B0 : Nat) (X : Value) (zs : List Cl) (hs : sysB zs = true) (w : World) (hg : LaidE w) (hB : Ben w b B0 zs) (hw : B0 ≤ w.heap.size) :
    Calls Tryz.prog 52 #[.pointer (some ⟨b, 0, none⟩), X] w fun e w' => e = .returned (.tuple #[.string ⟨#[111, 107]⟩, .bool true]) ∧ Ben w' b B0 (srtL zs) ∧ KpB w.heap.size b w w' := by
  obtain ⟨v, h1, h2⟩ := hB
  obtain ⟨l1, l2, _⟩ := sysB_facts hs
  obtain ⟨s, cap, rfl, hC, _⟩ := h2.spread
  have hcon := c_implExactSorted s zs.length cap zs (by omega) w hg hC
  rw [hs, srtR_t hs] at hcon
  have hc := h1.cell
  have hs2 := (srt_sam hs).1
  have hsl : (srtL zs).length ≤ 1048576 := by rw [srtL_length]; omega
  have hbec := fun s1 cap1 w1 hb hO => c_become b B0 (.slice s zs.length cap) s1 (srtL zs).length cap1 (srtL zs) hs2 hsl rfl w1 hb hO
  have HB := Lib.hid hbec
  have H1 := Lib.hid h1
  clear h1 h2 hC hs2 hsl hbec hs l1 l2 hg
  generalize srtL zs = ys at *
  generalize zs.length = n at *
  go_enter Tryz.func52, Tryz.ntmps52
  go_wp2_with fail
  refine hcon.mono ?_
  rintro e w1 ⟨v1, rfl, hO1, hb1⟩
  obtain ⟨s1, cap1, rfl, _⟩ := hO1.spread
  have hbec := HB.out s1 cap1 w1 ((hb1.block b H1.out.lt).trans H1.out) (hO1.low hw)
  clear hcon hO1
  go_wp2_with fail
  refine hbec.mono ?_
  rintro e w2 ⟨rfl, hBn, hk⟩
  clear hbec
  go_wp2_with fail
  go_ret2
  exact ⟨rfl, hBn, (KpB.of_below hb1).trans (hk.mono hb1.size)⟩
/-- the box of a line's command, ahead of the stores into it -/
theorem bare_box {w w1 : World} {f : Nat} (hb1 : Below (w.alloc (.cells #[.int .i64 0, .nilFunc] 75)).heap.size (w.alloc (.cells #[.int .i64 0, .nilFunc] 75)) w1) :
    (store ⟨w.heap.size, 1, none⟩ (.func (.func f) #[] #[])).run Tryz.prog ((w1.alloc (.cells #[.int .i64 0, .func (.func f) #[] #[]] 75)).setCell ⟨w.heap.size, 0, none⟩ (.int .i64 0)) = .ok () (((w1.alloc (.cells #[.int .i64 0, .func (.func f) #[] #[]] 75)).setCell ⟨w.heap.size, 0, none⟩ (.int .i64 0)).setCell ⟨w.heap.size, 1, none⟩ (.func (.func f) #[] #[])) ∧
    (w1.alloc (.cells #[.int .i64 0, .func (.func f) #[] #[]] 75)).cell? ⟨w.heap.size, 0, none⟩ = some (.int .i64 0) ∧ (w1.alloc (.cells #[.int .i64 0, .func (.func f) #[] #[]] 75)).cell? ⟨w.heap.size, 1, none⟩ = some .nilFunc ∧
    (w1.alloc (.cells #[.int .i64 0, .func (.func f) #[] #[]] 75)).frozen? ⟨w.heap.size, 0, none⟩ = false ∧ (w1.alloc (.cells #[.int .i64 0, .func (.func f) #[] #[]] 75)).frozen? ⟨w.heap.size, 1, none⟩ = false ∧ True := by
  have hb2 : Below w1.heap.size w1 (w1.alloc (.cells #[.int .i64 0, .func (.func f) #[] #[]] 75)) := ba (Below.refl _ _) _
  have c0 := keepc hb1 (World.cell?_alloc_mark w _ _ _ 0)
  have c1 := keepc hb1 (World.cell?_alloc_mark w _ _ _ 1)
  have g0 := keepf hb1 (World.cell?_alloc_mark w _ _ _ 0) (by rw [World.frozen?_alloc_mark]; simp)
  have g1 := keepf hb1 (World.cell?_alloc_mark w _ _ _ 1) (by rw [World.frozen?_alloc_mark]; simp)
  have u0 := keepc hb2 c0
  have u1 := keepc hb2 c1
  have v0 := keepf hb2 c0 g0
  have v1 := keepf hb2 c1 g1
  exact ⟨st_func _ ⟨w.heap.size, 1, none⟩ (.func f) .nilFunc (set_miss (by simp) u1) (by rw [← v1]; simp [World.frozen?_setCell]), u0, u1, v0, v1, trivial⟩
theorem bare_end {w w1 : World} {f : Nat} (hb1 : Below (w.alloc (.cells #[.int .i64 0, .nilFunc] 75)).heap.size (w.alloc (.cells #[.int .i64 0, .nilFunc] 75)) w1) :
    Below w.heap.size w (((w1.alloc (.cells #[.int .i64 0, .func (.func f) #[] #[]] 75)).setCell ⟨w.heap.size, 0, none⟩ (.int .i64 0)).setCell ⟨w.heap.size, 1, none⟩ (.func (.func f) #[] #[])) ∧
    (((w1.alloc (.cells #[.int .i64 0, .func (.func f) #[] #[]] 75)).setCell ⟨w.heap.size, 0, none⟩ (.int .i64 0)).setCell ⟨w.heap.size, 1, none⟩ (.func (.func f) #[] #[])).cell? ⟨w.heap.size, 0, none⟩ = some (.int .i64 0) ∧
    (((w1.alloc (.cells #[.int .i64 0, .func (.func f) #[] #[]] 75)).setCell ⟨w.heap.size, 0, none⟩ (.int .i64 0)).setCell ⟨w.heap.size, 1, none⟩ (.func (.func f) #[] #[])).cell? ⟨w.heap.size, 1, none⟩ = some (.func (.func f) #[] #[]) := by
  obtain ⟨_, u0, u1, _⟩ := bare_box (f := f) hb1
  have s1 := hb1.size
  simp at s1
  refine ⟨((((ba (Below.refl _ _) _).trans (hb1.mono (by simp))).trans (ba (Below.refl _ _) _ |>.mono (by omega))).setCell (p := ⟨w.heap.size, 0, none⟩) (Nat.le_refl _) _).setCell (p := ⟨w.heap.size, 1, none⟩) (Nat.le_refl _) _, set_miss (by simp) (set_hit u0), set_hit (set_miss (by simp) u1)⟩
set_option maxRecDepth 20000 in
set_option maxHeartbeats 1000000 in
/-- the command of a line of one word -/
theorem c_toldBare (kw : ByteArray) (f i R : Nat) (T : ByteArray) (hT : T.size ≤ 100000) (hcut : Lib.cut T.data.toList [32] = (kw.data.toList, [], false))
    (hf : Instr.findNow .string (.string kw) (cmdE (cmdL.take 28) 0) 0 = some (some (i, .agg #[.int .i64 0, .func (.func f) #[] #[]])))
    (w : World) (hE : Env w) (hR : w.heap[R]? = some (cmdM 28)) :
    Calls Tryz.prog 77 #[.string T, .map (some R)] w fun e w' => e = .returned (.tuple #[.agg #[.int .i64 0, .func (.func f) #[] #[]], .slice none 0 0]) ∧ Below w.heap.size w w' := by
  obtain ⟨ml, hml⟩ := hE.ml
  have hCut : Calls Tryz.prog 128 #[.string T, .string ⟨#[32]⟩] (w.alloc (.cells #[.int .i64 0, .nilFunc] 75)) fun e w' => e = .returned (.tuple #[.string kw, .string ⟨#[]⟩, .bool false]) ∧ Below (w.alloc (.cells #[.int .i64 0, .nilFunc] 75)).heap.size (w.alloc (.cells #[.int .i64 0, .nilFunc] 75)) w' := by
    refine (Tryz.strings_Cut T ⟨#[32]⟩ ml _ (by omega) (keepc (ba (Below.refl _ _) _) hml)).mono ?_
    rintro e w' ⟨rfl, q, rfl⟩
    refine ⟨?_, bel_drewN (Below.refl _ _) _⟩
    show Ending.returned (.tuple #[.string ⟨(Lib.cut T.data.toList [32]).1.toArray⟩, .string ⟨(Lib.cut T.data.toList [32]).2.1.toArray⟩, .bool (Lib.cut T.data.toList [32]).2.2]) = _
    rw [hcut]
  have hB1 : Below w.heap.size w (w.alloc (.cells #[.int .i64 0, .nilFunc] 75)) := ba (Below.refl _ _) _
  have HF := Lib.hid hf
  have HR := Lib.hid hR
  clear hcut hf hml hT hR hE
  go_enter Tryz.func77, Tryz.ntmps77
  go_wp2_with (go_at_call 128; refine hCut.mono ?_; rintro e w1 ⟨rfl, hb1⟩; have hlk := look_run w1 R _ _ kw i _ (((hB1.trans (hb1.mono hB1.size)).block R (Array.getElem?_eq_some_iff.1 HR.out).1).trans HR.out) (by simpa using HF.out); have hst := st_new w1 (.func f) 0 75; have hbx := bare_box (f := f) hb1; have hst2 := hbx.1; have u0 := hbx.2.1; have u1 := hbx.2.2.1; have v0 := hbx.2.2.2.1; have v1 := hbx.2.2.2.2.1)
  have hend := bare_end (f := f) hb1
  refine bodyPost_ret (v := .tuple #[.agg #[.int .i64 0, .func (.func f) #[] #[]], .slice none 0 0]) ?_ rfl ⟨rfl, hend.1⟩
  have z0 := hend.2.1
  have z1 := hend.2.2
  simp [results, Tryz.results77, go_sem, z0, z1]
end Go.Proofs.YtonecelkkeakiaaGreatDoor
