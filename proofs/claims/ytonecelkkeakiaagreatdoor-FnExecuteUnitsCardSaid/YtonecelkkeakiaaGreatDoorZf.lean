/- A range over a function that gives out all its items, and writes one box of its own between two rounds; the body keeps the blocks below a bound but its own box. -/
import Derived.RangeFuncNested
import Derived.RangeFuncBound
import Derived.RangeFuncLeaves
import Derived.Below
namespace Go.Proofs.YtonecelkkeakiaaGreatDoor
open Go.RowKit
variable {F : Fence} {n : Nat} {P : Program}
/-- what a round leaves of the blocks below B: all but the caller's own one, U -/
structure KpR (B U : Nat) (W W' : World) : Prop where
  size : W.heap.size ≤ W'.heap.size
  block : ∀ k, k < B → k ≠ U → W'.heap[k]? = W.heap[k]?
theorem KpR.refl (B U : Nat) (W : World) : KpR B U W W := ⟨Nat.le_refl _, fun _ _ _ => rfl⟩
theorem KpR.trans {B U : Nat} {W W1 W2 : World} (h : KpR B U W W1) (k : KpR B U W1 W2) : KpR B U W W2 := ⟨Nat.le_trans h.size k.size, fun i hi hU => (k.block i hi hU).trans (h.block i hi hU)⟩
def SeqV {α : Type} (F : Fence) (n : Nat) (P : Program) (g : Nat) (lb : Array Value) (encs : α → Array Value) (U V : Nat) (L : List α) (w : World) : Prop :=
  ∀ (l : Nat) (J : List α → World → Prop) (W : World), Below w.heap.size w W → w.heap.size ≤ l → l < W.heap.size →
    (∀ s X Y, J s X → Below X.heap.size X Y → J s Y) → (∀ s X v, J s X → J s (X.setCell ⟨V, 0, none⟩ v)) →
    (∀ pre x W1, J pre W1 → W.heap.size ≤ W1.heap.size → pre ++ [x] <+: L → YieldAt F (n - 1) P l (encs x) W1 fun e W' => e = .returned (.bool true) ∧ J (pre ++ [x]) W' ∧ KpR w.heap.size U W1 W') →
    J [] W →
    CallsIn F n P g (#[.func (.yield l) #[] #[]] ++ lb) W fun e W' => (∃ v, e = .returned v) ∧ J L W'
/-- how a round's body is left -/
def postV {α : Type} (B U : Nat) (B2 : Nat) (I : List α → World → Prop) (xs : List α) (W : World) : Exit → Act → World → Prop
  | .normal, _, W' => KeepsFrom B2 W W' ∧ KpR B U W W' ∧ I xs W'
  | _, _, _ => False
theorem kpR_put {B U l : Nat} {X Y : World} (o o' : Obj) (hl : B ≤ l) (h : KpR B U (X.putObj l o) Y) : KpR B U X (Y.putObj l o') :=
  ⟨by have := h.size; rw [World.putObj_size] at this; rw [World.putObj_size]; exact this, fun k hk hU => by
    rw [World.putObj_heap_other (by omega), h.block k hk hU, World.putObj_heap_other (by omega)]⟩
theorem wpIn_rangeV {α : Type} {g : Operand} {ps : Array Tmp} {assign body : Code} {Q : Exit → Act → World → Prop} {a : Act} {w : World}
    (hro : F.round = none) (h1 : 1 ≤ n) {gf : Nat} {lb : Array Value} (hg : a.eval g = .func (.func gf) #[] lb) (hFg : F.fn gf) (eg : ∀ args w, (callFunc gf args).run P w = .ok (.enter gf args) w)
    {encs : α → Array Value} {U V : Nat} {L : List α} (hV : V < w.heap.size) (hseq : SeqV F (n - 1) P gf lb encs U V L w) (hps : ∀ x, (encs x).size = ps.size)
    (I : List α → World → Prop) (hI : OwnFrom w.heap.size I) (hIV : ∀ s X v, I s X → I s (X.setCell ⟨V, 0, none⟩ v)) (h0 : I [] w) (a₁ : α → Act)
    (hassign : ∀ (l : Nat) (x : α) (W : World) (K : Act → World → Prop), K (a₁ x) W →
      assign.wpIn (F.inRound l) (n - 1 - 1) P (Exit.then K (fun _ _ _ => False)) { tmps := (ps.zip (encs x)).foldl (fun t (p, v) => t.setIfInBounds p v) a.tmps, defers := [] } W)
    (hbody : ∀ (l : Nat) (pre : List α) (x : α) (W : World), w.heap.size ≤ l → w.heap.size ≤ W.heap.size → I pre W → pre ++ [x] <+: L → body.wpIn (F.inRound l) (n - 1 - 1) P (postV w.heap.size U w.heap.size I (pre ++ [x]) W) (a₁ x) W)
    (hdone : ∀ (D : Nat) (W : World), w.heap.size ≤ D → I L W → W.heap[D]? = some (.deferred (some [])) → Q .normal { a with defers := { target := .collected D, args := #[] } :: a.defers } W) :
    (Code.rangeFunc g ps assign body).wpIn F n P Q a w := by
  refine wpIn_rangeFunc fun fn hfn => ?_
  rw [hro]
  obtain ⟨D, hD⟩ : ∃ D, w.heap.size = D := ⟨_, rfl⟩
  obtain ⟨rc, hrc⟩ : ∃ rc : LoopState → Option Code → Loop, ∀ st pe, rc st pe = { state := st, pending := pe, fn, tmps := a.tmps, params := ps, assign, body, defers := D } := ⟨_, fun _ _ => rfl⟩
  obtain ⟨X0, hX0⟩ : ∃ X0, (w.alloc (.deferred (some []))).alloc (.loop (rc .ready none)) = X0 := ⟨_, rfl⟩
  have v1 : X0.heap[D + 1]? = some (.loop (rc .ready none)) := by
    have h := World.alloc_heap_new (w.alloc (.deferred (some []))) (.loop (rc .ready none))
    rw [World.size_alloc, hD, hX0] at h
    exact h
  have v0 : X0.heap[D]? = some (.deferred (some [])) := by
    have h := World.alloc_heap_new w (.deferred (some []))
    rw [hD] at h
    rw [← hX0, Below.heap_alloc _ _ _ (by rw [World.size_alloc]; omega)]
    exact h
  have vb : Below w.heap.size w X0 := by
    rw [← hX0]
    exact ((Below.refl _ w).alloc (Nat.le_refl _) _).alloc (by rw [World.size_alloc]; omega) _
  have vs : X0.heap.size = D + 2 := by rw [← hX0, World.size_alloc, World.size_alloc, hD]
  have vI : I [] X0 := by rw [← hX0]; exact hI.alloc _ (hI.alloc _ h0)
  refine ⟨D + 1, [{ target := .collected D, args := #[] }], X0, { target := .fn (.func gf) lb, args := #[.func (.yield (D + 1)) #[] #[]] }, X0, gf, #[.func (.yield (D + 1)) #[] #[]] ++ lb, X0, ?_, ?_, ?_, ?_, fun _ => h1, ?_⟩
  · have h := run_enterLoop_outer (P := P) (w := w) fn a.tmps ps assign body
    rw [hD, ← hrc, hX0] at h
    exact h
  · simp only [resolve, hg]
    simp [go_sem]
  · intro f' hf'
    simp [Target.leads] at hf'
    subst hf'
    exact hFg
  · simp [invoke, go_sem, eg]
  rw [hD] at hI hbody hdone vb hV
  have hset : ∀ (X : World) (v : Value) (k : Nat), k ≠ V → (X.setCell ⟨V, 0, none⟩ v).heap[k]? = X.heap[k]? := fun X v k hk => Below.heap_setCell _ _ _ _ hk
  refine (hseq (D + 1) (fun pre W => I pre W ∧ W.heap[D + 1]? = some (.loop (rc .ready none)) ∧ W.heap[D]? = some (.deferred (some [])) ∧ D + 2 ≤ W.heap.size) X0 (by rw [hD]; exact vb) (by omega) (by omega)
    (fun s X Y h k => ⟨hI s X Y none h.1 ⟨k.os, k.tape, k.output, k.size, fun i hi _ => k.block i hi⟩ (fun r e => by cases e), (k.block _ (by have := h.2.2.2; omega)).trans h.2.1, (k.block _ (by have := h.2.2.2; omega)).trans h.2.2.1, Nat.le_trans h.2.2.2 k.size⟩)
    (fun s X v h => ⟨hIV s X v h.1, (hset X v _ (by omega)).trans h.2.1, (hset X v _ (by omega)).trans h.2.2.1, by have := h.2.2.2; simpa [World.setCell] using this⟩) ?_ ⟨vI, v1, v0, by omega⟩).mono ?_
  · rintro pre x W ⟨hi, hl, hk, hs⟩ _ hpre
    have hlt := (Array.getElem?_eq_some_iff.1 hl).1
    have hy := run_yield (P := P) (args := encs x) hl (by rw [hrc]; exact hps x)
    rw [hrc] at hy
    refine ⟨fn, _, assign, body, hy, roundIn_of_wpIn hfn (hassign _ x W _ ⟨_, run_beginRound hl (by rw [hrc]), ?_⟩)⟩
    obtain ⟨bz, hbz⟩ : ∃ bz : Loop, { rc .ready none with state := .busy } = bz := ⟨_, rfl⟩
    rw [hbz]
    have hX : (W.putObj (D + 1) (.loop bz)).heap[D + 1]? = some (.loop bz) := World.putObj_heap_same hlt
    have hXk : (W.putObj (D + 1) (.loop bz)).heap[D]? = some (.deferred (some [])) := (World.putObj_heap_other (by omega)).trans hk
    refine wpIn_mono (hbody (D + 1) pre x _ (by omega) (by rw [World.putObj_size]; omega) (hI.putObj _ hi (by omega) hl rfl) hpre) ?_
    intro e a' Y hp
    cases e with
    | normal =>
      obtain ⟨k1, k2, k3⟩ := hp
      have y1 := k1.same _ _ (by omega) hX rfl
      have y0 := k1.same _ _ (by omega) hXk rfl
      have hr := run_endRound (P := P) none y1
      have e : { bz with state := if (none : Option Code).isNone then LoopState.ready else .done, pending := none } = rc .ready none := by rw [← hbz, hrc]; rfl
      rw [e] at hr
      have hsz := k1.size
      rw [World.putObj_size] at hsz
      exact ⟨_, _, hr, rfl, ⟨hI.putObj _ k3 (by omega) y1 rfl, World.putObj_heap_same (Array.getElem?_eq_some_iff.1 y1).1, (World.putObj_heap_other (by omega)).trans y0, by rw [World.putObj_size]; omega⟩, by rw [hD]; exact kpR_put _ _ (by omega) k2⟩
    | _ => exact hp.elim
  · rintro e Y ⟨⟨v, rfl⟩, hi, hl, hk, _⟩
    have hr := run_endLoop (P := P) hl (by rw [hrc]; simp)
    exact ⟨none, _, by rw [hrc] at hr; exact hr, hdone D _ (Nat.le_refl _) (hI.putObj _ hi (by omega) hl rfl) ((World.putObj_heap_other (by omega)).trans hk)⟩
end Go.Proofs.YtonecelkkeakiaaGreatDoor
