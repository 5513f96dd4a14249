/- Chapter 8: a line's command and numbers. -/
import Derived.Test.YtonecelkkeakiaaGreatDoorZh
import Derived.Test.YtonecelkkeakiaaGreatDoorZc
namespace Go.Proofs.YtonecelkkeakiaaGreatDoor
open Go.RowKit Go.Shelf
theorem look_run (w : World) (R : Nat) (es : Array MapEntry) (clock : Nat) (k : ByteArray) (i : Nat) (v : Value) (hw : w.heap[R]? = some (.map es clock)) (hn : Instr.findNow .string (.string k) es.toList 0 = some (some (i, v))) :
    (Instr.lookup 45 (.map (some R)) (.string k) true).run Tryz.prog w = .ok (.tuple #[v, .bool true]) w := by
  have hk : MapKept.IsKey .string (.string k) := trivial
  simp [Instr.lookup, run_underlying Tryz.underlying45, MapKept.run_getObj_map hw, MapKept.run_checkKey Tryz.underlying9 hk, MapKept.run_findKey Tryz.underlying9 hn, Result.andThen]
theorem st_func (w : World) (a : Addr) (x : Fn) (u : Value) (hc : w.cell? a = some u) (hf : w.frozen? a = false) : (store a (.func x #[] #[])).run Tryz.prog w = .ok () (w.setCell a (.func x #[] #[])) := by
  simp [store, Sem.run, hc, hf]
theorem st_new (w : World) (x : Fn) (n : Int) (t : TypeId) : (store ⟨w.heap.size, 1, none⟩ (.func x #[] #[])).run Tryz.prog (w.alloc (.cells #[.int .i64 n, .nilFunc] t)) = .ok () (w.alloc (.cells #[.int .i64 n, .func x #[] #[]] t)) := by
  rw [st_func _ _ x .nilFunc (World.cell?_alloc_mark w _ _ _ 1) (by rw [World.frozen?_alloc_mark]; simp)]
  rw [World.setCell_alloc_new]
  rfl
theorem told_ret {w w1 w2 : World} {a b : Value} {t : TypeId} {o : Obj} {v : Value} {zs : List Int} (hb1 : Below (w.alloc (.cells #[a, b] t)).heap.size (w.alloc (.cells #[a, b] t)) w1) (hO : OwnI w2 (w1.alloc o).heap.size 3 v zs) (hb2 : Below (w1.alloc o).heap.size (w1.alloc o) w2)
    (u0 : w2.cell? ⟨w.heap.size, 0, none⟩ = some a) (u1 : w2.cell? ⟨w.heap.size, 1, none⟩ = some b) (n : Int) (f : Nat) :
    OwnI ((w2.setCell ⟨w.heap.size, 0, none⟩ (.int .i64 n)).setCell ⟨w.heap.size, 1, none⟩ (.func (.func f) #[] #[])) w.heap.size 3 v zs ∧
    Below w.heap.size w ((w2.setCell ⟨w.heap.size, 0, none⟩ (.int .i64 n)).setCell ⟨w.heap.size, 1, none⟩ (.func (.func f) #[] #[])) ∧
    ((w2.setCell ⟨w.heap.size, 0, none⟩ (.int .i64 n)).setCell ⟨w.heap.size, 1, none⟩ (.func (.func f) #[] #[])).cell? ⟨w.heap.size, 0, none⟩ = some (.int .i64 n) ∧
    ((w2.setCell ⟨w.heap.size, 0, none⟩ (.int .i64 n)).setCell ⟨w.heap.size, 1, none⟩ (.func (.func f) #[] #[])).cell? ⟨w.heap.size, 1, none⟩ = some (.func (.func f) #[] #[]) := by
  have s1 := hb1.size
  have s2 := hb2.size
  simp at s1 s2
  have hne : ∀ g, some g = v.ownBlock → w.heap.size < g := fun g e => by
    have := (World.ownsRow.lt hO g e.symm).1
    simp at this
    omega
  have kp : ∀ (X : World) (i : Nat) (u : Value), OwnI X (w1.alloc o).heap.size 3 v zs → OwnI (X.setCell ⟨w.heap.size, i, none⟩ u) (w1.alloc o).heap.size 3 v zs := fun X i u h =>
    World.ownsRow.kept h (row := some w.heap.size) ⟨rfl, rfl, rfl, by simp [World.setCell], fun k _ hk => Below.heap_setCell _ _ _ _ (fun e => hk (by simp [e]))⟩ (.inr fun e => by have := hne _ e.symm; omega)
  refine ⟨OwnI.low (kp _ _ _ (kp _ _ _ hO)) (by simp; omega), ?_, set_miss (by simp) (set_hit u0), set_hit (set_miss (by simp) u1)⟩
  exact ((((ba (Below.refl _ _) _).trans (hb1.mono (by simp))).trans ((ba (Below.refl _ _) o).trans (hb2.mono (by simp)) |>.mono (by omega))).setCell (p := ⟨w.heap.size, 0, none⟩) (Nat.le_refl _) _).setCell (p := ⟨w.heap.size, 1, none⟩) (Nat.le_refl _) _
set_option maxRecDepth 20000 in
set_option maxHeartbeats 1000000 in
theorem c_told (kw : ByteArray) (n : Int) (f i : Nat) (ns : List Nat) (R : Nat) (hne : ns ≠ []) (hsz : (line ns).size ≤ 100000) (hlt : ∀ n ∈ ns, n < 10000) (hln : ns.length ≤ 100000) (T : ByteArray) (hT : T.size ≤ 100000) (hcut : Lib.cut T.data.toList [32] = (kw.data.toList, (line ns).data.toList, true))
    (hn0 : n ≠ 0) (hn1 : n = -1 ∨ n = ns.length) (hf : Instr.findNow .string (.string kw) (cmdE (cmdL.take 28) 0) 0 = some (some (i, .agg #[.int .i64 n, .func (.func f) #[] #[]])))
    (w : World) (hE : Env w) (hR : w.heap[R]? = some (cmdM 28)) :
    Calls Tryz.prog 77 #[.string T, .map (some R)] w fun e w' => ∃ g cap, e = .returned (.tuple #[.agg #[.int .i64 n, .func (.func f) #[] #[]], .slice (some ⟨g, 0, none⟩) ns.length cap]) ∧ OwnI w' w.heap.size 3 (.slice (some ⟨g, 0, none⟩) ns.length cap) (ints ns) ∧ Below w.heap.size w w' := by
  obtain ⟨ml, hml⟩ := hE.ml
  have hCut : Calls Tryz.prog 128 #[.string T, .string ⟨#[32]⟩] (w.alloc (.cells #[.int .i64 0, .nilFunc] 75)) fun e w' => e = .returned (.tuple #[.string kw, .string (line ns), .bool true]) ∧ Below (w.alloc (.cells #[.int .i64 0, .nilFunc] 75)).heap.size (w.alloc (.cells #[.int .i64 0, .nilFunc] 75)) w' := by
    refine (Tryz.strings_Cut T ⟨#[32]⟩ ml _ (by omega) (keepc (ba (Below.refl _ _) _) hml)).mono ?_
    rintro e w' ⟨rfl, q, rfl⟩
    refine ⟨?_, bel_drewN (Below.refl _ _) _⟩
    show Ending.returned (.tuple #[.string ⟨(Lib.cut T.data.toList [32]).1.toArray⟩, .string ⟨(Lib.cut T.data.toList [32]).2.1.toArray⟩, .bool (Lib.cut T.data.toList [32]).2.2]) = _
    rw [hcut]
  have hB1 : Below w.heap.size w (w.alloc (.cells #[.int .i64 0, .nilFunc] 75)) := ba (Below.refl _ _) _
  have hTold := fun w => c_numbersTold ns hne hsz hlt hln w
  have HF := Lib.hid hf
  have HN1 := Lib.hid hn1
  have HR := Lib.hid hR
  clear hcut hf hn1 hml hne hlt hT hR hE hsz
  generalize line ns = L at *
  go_enter Tryz.func77, Tryz.ntmps77
  go_wp2_with (go_at_call 128; refine hCut.mono ?_; rintro e w1 ⟨rfl, hb1⟩; have hlk := look_run w1 R _ _ kw i _ (((hB1.trans (hb1.mono hB1.size)).block R (Array.getElem?_eq_some_iff.1 HR.out).1).trans HR.out) (by simpa using HF.out); have hst := st_new w1 (.func f) n 75)
  refine (hTold _).mono ?_
  rintro e w2 ⟨g, cap, rfl, hO2, hb2⟩
  have q0 : w2.cell? ⟨w1.heap.size, 0, none⟩ = some (.int .i64 n) := keepc hb2 (World.cell?_alloc_mark w1 _ _ _ 0)
  have q1 : w2.cell? ⟨w1.heap.size, 1, none⟩ = some (.func (.func f) #[] #[]) := keepc hb2 (World.cell?_alloc_mark w1 _ _ _ 1)
  have hb3 : Below w1.heap.size w1 w2 := (ba (Below.refl _ _) _).trans (hb2.mono (by simp))
  have u0 : w2.cell? ⟨w.heap.size, 0, none⟩ = some (.int .i64 0) := keepc hb3 (keepc hb1 (World.cell?_alloc_mark w _ _ _ 0))
  have u1 : w2.cell? ⟨w.heap.size, 1, none⟩ = some .nilFunc := keepc hb3 (keepc hb1 (World.cell?_alloc_mark w _ _ _ 1))
  have v0 : w2.frozen? ⟨w.heap.size, 0, none⟩ = false := keepf hb3 (keepc hb1 (World.cell?_alloc_mark w _ _ _ 0)) (keepf hb1 (World.cell?_alloc_mark w _ _ _ 0) (by rw [World.frozen?_alloc_mark]; simp))
  have v1 : w2.frozen? ⟨w.heap.size, 1, none⟩ = false := keepf hb3 (keepc hb1 (World.cell?_alloc_mark w _ _ _ 1)) (keepf hb1 (World.cell?_alloc_mark w _ _ _ 1) (by rw [World.frozen?_alloc_mark]; simp))
  have hn1 := HN1.out
  have hst2 := st_func (w2.setCell ⟨w.heap.size, 0, none⟩ (.int .i64 n)) ⟨w.heap.size, 1, none⟩ (.func f) .nilFunc (set_miss (by simp) u1) (by rw [← v1]; simp [World.frozen?_setCell])
  have hend := told_ret hb1 hO2 hb2 u0 u1 n f
  clear hCut hTold hlk hst
  rcases hn1 with rfl | rfl
  · go_wp2_with fail
    refine bodyPost_ret (v := .tuple #[.agg #[.int .i64 (-1), .func (.func f) #[] #[]], .slice (some ⟨g, 0, none⟩) ns.length cap]) ?_ rfl ⟨g, cap, rfl, hend.1, hend.2.1⟩
    have z0 := hend.2.2.1
    have z1 := hend.2.2.2
    simp [results, Tryz.results77, go_sem, z0, z1]
  · have hnn : ((ns.length : Int) == -1) = false := by rw [beq_eq_false_iff_ne]; omega
    have hnn2 : ((ns.length : Int) != -1) = true := by simp [bne, hnn]
    go_wp2_with fail
    refine bodyPost_ret (v := .tuple #[.agg #[.int .i64 (ns.length : Int), .func (.func f) #[] #[]], .slice (some ⟨g, 0, none⟩) ns.length cap]) ?_ rfl ⟨g, cap, rfl, hend.1, hend.2.1⟩
    have z0 := hend.2.2.1
    have z1 := hend.2.2.2
    simp [results, Tryz.results77, go_sem, z0, z1]
end Go.Proofs.YtonecelkkeakiaaGreatDoor
