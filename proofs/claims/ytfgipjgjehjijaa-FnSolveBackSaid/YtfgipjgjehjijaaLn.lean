/- What is known of a world with a list that grows (own text). -/
import Derived.Test.YtfgipjgjehjijaaLi
import Derived.Test.YtfgipjgjehjijaaLl
namespace Go.Proofs.Ytfgipjgjehjijaa
open Go Go.Conc

/-- Against an elder world: a size between two bounds, the elder blocks, some blocks below the first bound, a list of ints of one's own behind it. -/
structure Ga (N : Nat) (W : World) (lo hi : Nat) (L : List (Nat × Obj)) (v : Value) (xs : List Value) (w : World) : Prop where
  ge : lo ≤ w.heap.size
  le : w.heap.size ≤ hi
  old : ∀ b, b < N → w.heap[b]? = W.heap[b]?
  blk : ∀ q ∈ L, w.heap[q.1]? = some q.2
  low : ∀ q ∈ L, q.1 < lo
  own : w.ownsRow lo 3 1 v xs.length xs
  tape : w.tape = W.tape
  os : w.os = W.os
  output : w.output = W.output
section
variable {N lo hi : Nat} {W w w₁ : World} {L L' : List (Nat × Obj)} {v v' : Value} {xs : List Value}
theorem ownsRow_of_heap {lo : Nat} {n : Nat} (h : w.ownsRow lo 3 1 v n xs) (e : ∀ k, lo ≤ k → w₁.heap[k]? = w.heap[k]?) : w₁.ownsRow lo 3 1 v n xs := by
  refine ⟨h.1, h.2.elim .inl fun ⟨g, cap, cur, e1, e2, e3, e4⟩ => .inr ⟨g, cap, cur, e1, e2, ?_, e4⟩⟩
  rw [e g e2]
  exact e3
theorem Ga.atRel (h : Ga N W lo hi L v xs w) (r : AtRel w w₁) : Ga N W lo hi L v xs w₁ := by
  obtain ⟨d, rfl⟩ := r
  exact ⟨h.ge, h.le, h.old, h.blk, h.low, ownsRow_of_heap h.own fun _ _ => rfl, h.tape, h.os, h.output⟩
theorem Ga.since (h : Ga N W lo hi L v xs w) (r : Since AtRel w w₁) : Ga N W lo hi L v xs w₁ := r.elim (fun e => e ▸ h) h.atRel
theorem Ga.weak (h : Ga N W lo hi L v xs w) (hL : ∀ q ∈ L', q ∈ L) : Ga N W lo hi L' v xs w := ⟨h.ge, h.le, h.old, fun q hq => h.blk q (hL q hq), fun q hq => h.low q (hL q hq), h.own, h.tape, h.os, h.output⟩
theorem Ga.alloc (h : Ga N W lo hi L v xs w) (hN : N ≤ lo) (o : Obj) : Ga N W lo (hi + 1) L v xs (w.alloc o) := by
  have e0 : (w.alloc o).heap = w.heap.push o := rfl
  have e : ∀ b, b < w.heap.size → (w.alloc o).heap[b]? = w.heap[b]? := fun b hb => by rw [e0, Array.getElem?_push_lt hb, Array.getElem?_eq_getElem]
  have hg := h.ge
  have hl := h.le
  exact ⟨by rw [e0, Array.size_push]; omega, by rw [e0, Array.size_push]; omega, fun b hb => (e b (by omega)).trans (h.old b hb), fun q hq => (e _ (by have := h.low q hq; omega)).trans (h.blk q hq), h.low, h.own.alloc o, h.tape, h.os, h.output⟩
/-- Behind an append of one value. -/
theorem Ga.append {w' : World} {u : Value} (h : Ga N W lo hi L v xs w) (hN : N ≤ lo) (hown : w'.ownsRow lo 3 1 v' (xs.length + 1) (xs ++ [u])) (hg : w.grownBy w' v.ownBlock) (hs : w'.heap.size ≤ w.heap.size + 1) : Ga N W lo (hi + 1) L v' (xs ++ [u]) w' := by
  have h1 := h.ge
  have h2 := h.le
  have h3 := hg.size
  have k : ∀ b, b < lo → w'.heap[b]? = w.heap[b]? := fun b hb => hg.block b (by omega) fun e => by have := (h.own.lt b e.symm).1; omega
  exact ⟨by omega, by omega, fun b hb => (k b (by omega)).trans (h.old b hb), fun q hq => (k _ (h.low q hq)).trans (h.blk q hq), h.low, by simpa using hown, hg.tape.trans h.tape, hg.os.trans h.os, hg.output.trans h.output⟩
theorem Ga.put {b : Nat} {o : Obj} (o' : Obj) (h : Ga N W lo hi ((b, o) :: L) v xs w) (hb : N ≤ b) (hL : ∀ q ∈ L, q.1 ≠ b) : Ga N W lo hi ((b, o') :: L) v xs (w.putObj b o') := by
  have hlt := lt_of_blk (h.blk _ (List.mem_cons_self ..))
  have hlo : b < lo := h.low _ (List.mem_cons_self ..)
  have e : ∀ k, k ≠ b → (w.putObj b o').heap[k]? = w.heap[k]? := fun k hk => World.putObj_heap_other hk
  have hsz : (w.putObj b o').heap.size = w.heap.size := by simp [World.putObj]
  refine ⟨by rw [hsz]; exact h.ge, by rw [hsz]; exact h.le, fun k hk => (e k (by omega)).trans (h.old k hk), fun q hq => ?_, fun q hq => ?_, ownsRow_of_heap h.own fun k hk => e k (by omega), h.tape, h.os, h.output⟩
  · rcases List.mem_cons.1 hq with rfl | hq
    · exact World.putObj_heap_same hlt
    · exact (e _ (hL q hq)).trans (h.blk q (List.mem_cons_of_mem _ hq))
  · rcases List.mem_cons.1 hq with rfl | hq
    · exact hlo
    · exact h.low q (List.mem_cons_of_mem _ hq)
theorem Ga.set {b k : Nat} {c : Array Value} {ty : TypeId} {u : Value} (h : Ga N W lo hi ((b, .cells c ty) :: L) v xs w) (hb : N ≤ b) (hL : ∀ q ∈ L, q.1 ≠ b) : Ga N W lo hi ((b, .cells (c.setIfInBounds k u) ty) :: L) v xs (w.setCell ⟨b, k, none⟩ u) := by
  have h0 := h.blk _ (List.mem_cons_self ..)
  have hlo : b < lo := h.low _ (List.mem_cons_self ..)
  have hA := aside_setCell w ⟨b, k, none⟩ u
  refine ⟨by rw [hA.size]; exact h.ge, by rw [hA.size]; exact h.le, fun b' hb' => (hA.block b' (by show b' ≠ b; omega)).trans (h.old b' hb'), fun q hq => ?_, fun q hq => ?_, ownsRow_of_heap h.own fun k hk => hA.block k (by show k ≠ b; omega), hA.tape.trans h.tape, hA.os.trans h.os, hA.output.trans h.output⟩
  · rcases List.mem_cons.1 hq with rfl | hq
    · show (w.setCell ⟨b, k, none⟩ u).heap[b]? = _
      rw [setCell_eq_setRow w b k c ty (0, 0) _ h0, setRow_heap w b _ _ ty _ h0]
    · exact (hA.block _ (hL q hq)).trans (h.blk q (List.mem_cons_of_mem _ hq))
  · rcases List.mem_cons.1 hq with rfl | hq
    · exact hlo
    · exact h.low q (List.mem_cons_of_mem _ hq)
end
end Go.Proofs.Ytfgipjgjehjijaa
