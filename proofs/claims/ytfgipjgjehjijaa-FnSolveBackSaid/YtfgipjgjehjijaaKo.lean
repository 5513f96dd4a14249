/- ordersOf: from its entry to the head of its loop (own text). -/
import Derived.Test.YtfgipjgjehjijaaKm
namespace Go.Proofs.Ytfgipjgjehjijaa
open Go Go.Conc Go.ConcN Go.RowKit Go.Conc.Lib Go.ConcR.Gen Go.ConcN.Gen
open Go.ConcR (KK wgBlock WgAt stA smA rd wr mk Payload DC0)

/-- What is known of a world against an elder one: its size, the elder blocks, some blocks. -/
structure Fa (N : Nat) (W : World) (sz : Nat) (L : List (Nat × Obj)) (w : World) : Prop where
  size : w.heap.size = sz
  old : ∀ b, b < N → w.heap[b]? = W.heap[b]?
  blk : ∀ q ∈ L, w.heap[q.1]? = some q.2
  tape : w.tape = W.tape
  os : w.os = W.os
  output : w.output = W.output
theorem Fa.at {N : Nat} {W w : World} {sz : Nat} {L : List (Nat × Obj)} (h : Fa N W sz L w) (d : Nat) : Fa N W sz L (w.at d) := ⟨h.size, h.old, h.blk, h.tape, h.os, h.output⟩
theorem Fa.atRel {N : Nat} {W w w₁ : World} {sz : Nat} {L : List (Nat × Obj)} (h : Fa N W sz L w) (r : AtRel w w₁) : Fa N W sz L w₁ := by obtain ⟨d, rfl⟩ := r; exact h.at d
theorem lt_of_blk {w : World} {b : Nat} {o : Obj} (h : w.heap[b]? = some o) : b < w.heap.size := by
  rcases Nat.lt_or_ge b w.heap.size with h' | h'
  · exact h'
  · rw [Array.getElem?_eq_none h'] at h; cases h
theorem Fa.alloc {N : Nat} {W w : World} {sz : Nat} {L : List (Nat × Obj)} (h : Fa N W sz L w) (hN : N ≤ sz) (o : Obj) : Fa N W (sz + 1) ((sz, o) :: L) (w.alloc o) := by
  have e0 : (w.alloc o).heap = w.heap.push o := rfl
  have e : ∀ b, b < sz → (w.alloc o).heap[b]? = w.heap[b]? := fun b hb => by rw [e0, Array.getElem?_push_lt (by rw [h.size]; exact hb), Array.getElem?_eq_getElem]
  refine ⟨by rw [e0, Array.size_push, h.size], fun b hb => (e b (by omega)).trans (h.old b hb), fun q hq => ?_, h.tape, h.os, h.output⟩
  rcases List.mem_cons.1 hq with rfl | hq
  · show (w.alloc o).heap[sz]? = some o
    rw [e0, ← h.size, Array.getElem?_push_size]
  · have := h.blk q hq
    exact (e _ (by have := lt_of_blk this; rw [h.size] at this; exact this)).trans this
theorem Fa.weak {N : Nat} {W w : World} {sz : Nat} {L L' : List (Nat × Obj)} (h : Fa N W sz L w) (hL : ∀ q ∈ L', q ∈ L) : Fa N W sz L' w := ⟨h.size, h.old, fun q hq => h.blk q (hL q hq), h.tape, h.os, h.output⟩
/-- A store into one of the blocks. -/
theorem Fa.set {N : Nat} {W w : World} {sz : Nat} {L : List (Nat × Obj)} {b k : Nat} {c : Array Value} {ty : TypeId} {v : Value} (h : Fa N W sz ((b, .cells c ty) :: L) w) (hb : N ≤ b) (hL : ∀ q ∈ L, q.1 ≠ b) :
    Fa N W sz ((b, .cells (c.setIfInBounds k v) ty) :: L) (w.setCell ⟨b, k, none⟩ v) := by
  have h0 := h.blk _ (List.mem_cons_self ..)
  have hA := aside_setCell w ⟨b, k, none⟩ v
  refine ⟨hA.size.trans h.size, fun b' hb' => (hA.block b' (by show b' ≠ b; omega)).trans (h.old b' hb'), fun q hq => ?_, hA.tape.trans h.tape, hA.os.trans h.os, hA.output.trans h.output⟩
  rcases List.mem_cons.1 hq with rfl | hq
  · show (w.setCell ⟨b, k, none⟩ v).heap[b]? = _
    rw [setCell_eq_setRow w b k c ty (0, 0) _ h0, setRow_heap w b _ _ ty _ h0]
  · exact (hA.block _ (hL q hq)).trans (h.blk q (List.mem_cons_of_mem _ hq))

theorem infoCh : (Try.prog.info? 36).map (fun i => (i.zero, i.size, i.bytes)) = some (some (.chan none), 1, 8) := by kernel_rfl
def cR : Code → Code
  | .seq _ b => b
  | .block _ b => b
  | .loop b => b
  | c => c
def cL : Code → Code
  | .seq a _ => a
  | c => c
noncomputable def bodyO : Code := Try.f21.body.getD .skip
noncomputable def loopO : Code := cR (cR (cR (cL (cR (cR (cR bodyO))))))
noncomputable def restO : Code := cR (cR (cR (cR bodyO)))
section
variable {Sh : Loc → Prop} {B : Nat} {cs : List Frame}
/-- A frame of ordersOf at the head of its loop; C is the loop's text. -/
noncomputable def headO (cs : List Frame) (lb : Addr) (n cap N : Nat) (m : Int) (i : Nat) (C X Y : Code) (u8 u9 u16 u17 u18 u19 u20 u21 u22 u23 u24 u25 u26 : Value) : Goroutine :=
  G ((base 21).at ⟨#[.slice (some lb) n cap, .int .i64 m, undef, .pointer (some ⟨N, 0, none⟩), .slice none 0 0, .slice (some ⟨N + 1, 0, none⟩) i n, .pointer (some ⟨N + 2, 0, none⟩), undef, u8, u9, .slice (some lb) n cap, .int .i64 n, .slice (some ⟨N + 1, 0, none⟩) 0 n,
    .slice (some lb) n cap, .int .i64 n, .int .i64 i, u16, u17, u18, u19, u20, u21, u22, u23, u24, u25, u26, undef, undef], []⟩ [.code C, .inLoop X, .inBlock 0, .code Y]) cs
set_option maxRecDepth 100000 in
set_option maxHeartbeats 4000000 in
theorem toHead (lb : Addr) (n cap : Nat) (m : Int) (hn0 : 0 < n) (hn : n < 1000000) (w : World) :
    Goes Try.prog true AtRel (DE (EvL Sh B)) (fun g w' => g = headO cs lb n cap w.heap.size m 0 loopO loopO restO undef undef undef undef undef undef undef undef undef undef undef undef undef ∧ Fa w.heap.size w (w.heap.size + 3) [(w.heap.size + 2, .cells #[.int .u64 0, .int .u32 0] 64), (w.heap.size + 1, .cells (madeCells #[.chan none] n) 36), (w.heap.size, .cells #[.int .i64 m] 3)] w') 40 (G ((base 21).at ⟨#[.slice (some lb) n cap, .int .i64 m, undef, undef, undef, undef, undef, undef, undef, undef, undef, undef, undef, undef, undef, undef, undef, undef, undef, undef, undef, undef, undef, undef, undef, undef, undef, undef, undef], []⟩ [.code bodyO]) cs) w := by
  have hF : Fa w.heap.size w w.heap.size [] w := ⟨rfl, fun _ _ => rfl, by simp, rfl, rfl, rfl⟩
  generalize hN : w.heap.size = N at hF
  have hN' : N ≤ N := Nat.le_refl _
  simp only [bodyO, Try.f21, Option.getD_some]
  u_c stepG_seq Fa.atRel hF
  u_reg Fa.atRel hF
  -- the box of m
  refine Goes.step rfl (fun w₁ r₁ => ?_)
  replace hF := hF.atRel r₁
  clear r₁
  have hs := hF.size
  refine goes_oper_k rfl rfl (by k_ne) (fun K hK => ?_)
  go_simp
  refine hK _ _ ⟨fun e he => by have hm := mem_listed he; simp [go_sem, *] at hm, ?_⟩
  clear hK K
  replace hF := hF.alloc (Nat.le_refl _) (.cells #[.int .i64 m] 3)
  clear hs
  repeat (first | u_c stepG_seq Fa.atRel hF | u_c stepG_region_end Fa.atRel hF | u_reg Fa.atRel hF | u_op Fa.atRel hF)
  obtain ⟨i0, hi, hz0, hz1, hz2⟩ := info_parts infoCh
  have hmk := fun w => run_make (P := Try.prog) w 37 36 i0 (.chan none) Try.underlying37 hi hz0 .i64 .i64 0 n (by omega) (by omega) (by rw [hz2]; omega) (by omega)
  have hme := fun w es => events_make (P := Try.prog) w 37 36 i0 (.chan none) Try.underlying37 hi hz0 .i64 .i64 0 n (by omega) (by omega) (by rw [hz2]; omega) (by omega) (by rw [hz2]; omega) es
  simp only [hz1, Nat.mul_one, Int.toNat_natCast] at hmk
  refine Goes.step rfl (fun w₂ r₂ => ?_)
  replace hF := hF.atRel r₂
  clear r₂
  have hs := hF.size
  refine goes_oper_k rfl rfl (by k_ne) (fun K hK => ?_)
  go_simp
  refine hK _ _ ⟨fun e he => by have hm := mem_listed he; simp [go_sem, *] at hm, ?_⟩
  clear hK K
  replace hF := hF.alloc (by omega) (.cells (madeCells #[.chan none] n) 36)
  clear hs hmk hme
  u_op Fa.atRel hF
  u_c stepG_region_end Fa.atRel hF
  u_c stepG_seq Fa.atRel hF
  u_reg Fa.atRel hF
  -- the WaitGroup
  refine Goes.step rfl (fun w₃ r₃ => ?_)
  replace hF := hF.atRel r₃
  clear r₃
  have hs := hF.size
  refine goes_oper_k rfl rfl (by k_ne) (fun K hK => ?_)
  go_simp
  refine hK _ _ ⟨fun e he => by have hm := mem_listed he; simp [go_sem, *] at hm, ?_⟩
  clear hK K
  replace hF := hF.alloc (by omega) (.cells #[.int .u64 0, .int .u32 0] 64)
  clear hs
  repeat (first | u_c stepG_seq Fa.atRel hF | u_c stepG_region_end Fa.atRel hF | u_reg Fa.atRel hF | u_op Fa.atRel hF)
  u_c stepG_block Fa.atRel hF
  u_c stepG_loop Fa.atRel hF
  refine Goes.stop fun w₄ r₄ => ?_
  replace hF := hF.atRel r₄
  subst hN
  exact ⟨rfl, hF⟩
end
end Go.Proofs.Ytfgipjgjehjijaa
