/- A range over a function whose items lie in memory: the body is told what its item reads; the iterator may write blocks of its own between two rounds. -/
import Derived.RangeFuncNested
import Derived.RangeFuncBound
import Derived.RangeFuncLeaves
namespace Go.Proofs.Ytiplnfggiffngaa
open Go.RowKit
variable {F : Fence} {n : Nat} {P : Program}
/-- a round that goes on leaves all blocks as they were but the caller's own one, U, and the loop's record, l -/
structure KpU (U l : Nat) (W W' : World) : Prop where
  size : W.heap.size ≤ W'.heap.size
  block : ∀ k, k < W.heap.size → k ≠ U → k ≠ l → W'.heap[k]? = W.heap[k]?
def SeqM {α : Type} (F : Fence) (n : Nat) (P : Program) (g : Nat) (lb : Array Value) (encs : α → Array Value) (Rw : α → World → Prop) (U : Nat) (S Sp : List α → Prop) (N : Nat) (w : World) : Prop :=
  ∀ (l : Nat) (J Jx : List α → World → Prop) (W : World), Below w.heap.size w W → w.heap.size ≤ l → l < W.heap.size →
    (∀ s X Y, J s X → Below W.heap.size X Y → J s Y) →
    (∀ pre x W1, J pre W1 → W.heap.size ≤ W1.heap.size → Rw x W1 → pre.length < N → YieldAt F (n - 1) P l (encs x) W1 fun e W' =>
      (e = .returned (.bool true) ∧ J (pre ++ [x]) W' ∧ KpU U l W1 W') ∨ (e = .returned (.bool false) ∧ Jx (pre ++ [x]) W')) →
    J [] W →
    CallsIn F n P g (#[.func (.yield l) #[] #[]] ++ lb) W fun e W' => (∃ v, e = .returned v) ∧ ((∃ xs, S xs ∧ J xs W') ∨ (∃ pre, Sp pre ∧ Jx pre W'))
/-- how a round's body may be left -/
def postM {α : Type} (B U l : Nat) (I : List α → World → Prop) (Ix : Code → List α → World → Prop) (xs : List α) (W : World) : Exit → Act → World → Prop
  | .normal, _, W' => KeepsFrom B W W' ∧ KpU U l W W' ∧ I xs W'
  | .ret, _, W' => KeepsFrom B W W' ∧ Ix .ret xs W'
  | .exit id, _, W' => KeepsFrom B W W' ∧ Ix (.exit id) xs W'
  | .goto t, _, W' => KeepsFrom B W W' ∧ Ix (.goto t) xs W'
  | .panic _, _, _ => False
  | .outgrown, _, _ => False
theorem below_put (B : Nat) {W : World} {l : Nat} {o : Obj} (o' : Obj) (hB : B ≤ l) (h : W.heap[l]? = some o) : Below B W (W.putObj l o') :=
  (Below.refl B W).grown (grownBy_putObj' W l o') (by have := (Array.getElem?_eq_some_iff.1 h).1; omega) (fun k e => by cases e; exact hB)
theorem kpU_put {U l : Nat} {X Y : World} (o o' : Obj) (h : KpU U l (X.putObj l o) Y) : KpU U l X (Y.putObj l o') :=
  ⟨by have := h.size; rw [World.putObj_size] at this; rw [World.putObj_size]; exact this, fun k hk hU hl => by
    rw [World.putObj_heap_other hl, h.block k (by rw [World.putObj_size]; exact hk) hU hl, World.putObj_heap_other hl]⟩
theorem wpIn_rangeM {α : Type} {g : Operand} {ps : Array Tmp} {assign body : Code} {Q : Exit → Act → World → Prop} {a : Act} {w : World}
    (hro : F.round = none) (h1 : 1 ≤ n) {gf : Nat} {lb : Array Value} (hg : a.eval g = .func (.func gf) #[] lb) (hFg : F.fn gf) (eg : ∀ args w, (callFunc gf args).run P w = .ok (.enter gf args) w)
    {encs : α → Array Value} {Rw : α → World → Prop} {U : Nat} {S Sp : List α → Prop} {N : Nat} (hseq : SeqM F (n - 1) P gf lb encs Rw U S Sp N w) (hps : ∀ x, (encs x).size = ps.size)
    (hRw : ∀ x l W (o o' : Obj), W.heap[l]? = some o → o.isCells = false → Rw x W → Rw x (W.putObj l o'))
    (I : List α → World → Prop) (Ix : Code → List α → World → Prop) (hI : ∀ s X Y, I s X → Below w.heap.size X Y → I s Y) (hIx : ∀ c, OwnFrom w.heap.size (Ix c)) (h0 : I [] w) (a₁ : α → Act)
    (hassign : ∀ (l : Nat) (x : α) (W : World) (K : Act → World → Prop), K (a₁ x) W →
      assign.wpIn (F.inRound l) (n - 1 - 1) P (Exit.then K (fun _ _ _ => False)) { tmps := (ps.zip (encs x)).foldl (fun t (p, v) => t.setIfInBounds p v) a.tmps, defers := [] } W)
    (hbody : ∀ (l : Nat) (pre : List α) (x : α) (W : World), w.heap.size ≤ l → w.heap.size ≤ W.heap.size → I pre W → Rw x W → pre.length < N → body.wpIn (F.inRound l) (n - 1 - 1) P (postM w.heap.size U l I Ix (pre ++ [x]) W) (a₁ x) W)
    (hdone : ∀ (D : Nat) (xs : List α) (W : World), w.heap.size ≤ D → S xs → I xs W → W.heap[D]? = some (.deferred (some [])) → Q .normal { a with defers := { target := .collected D, args := #[] } :: a.defers } W)
    (hstop : ∀ (D : Nat) (c : Code) (pre : List α) (W : World), w.heap.size ≤ D → Sp pre → Ix c pre W → W.heap[D]? = some (.deferred (some [])) → c.wpIn F n P Q { a with defers := { target := .collected D, args := #[] } :: a.defers } W) :
    (Code.rangeFunc g ps assign body).wpIn F n P Q a w := by
  refine wpIn_rangeFunc fun fn hfn => ?_
  rw [hro]
  obtain ⟨D, hD⟩ : ∃ D, w.heap.size = D := ⟨_, rfl⟩
  obtain ⟨rc, hrc⟩ : ∃ rc : LoopState → Option Code → Loop, ∀ st pe, rc st pe = { state := st, pending := pe, fn, tmps := a.tmps, params := ps, assign, body, defers := D } := ⟨_, fun _ _ => rfl⟩
  obtain ⟨V, hV⟩ : ∃ V, (w.alloc (.deferred (some []))).alloc (.loop (rc .ready none)) = V := ⟨_, rfl⟩
  have v1 : V.heap[D + 1]? = some (.loop (rc .ready none)) := by
    have h := World.alloc_heap_new (w.alloc (.deferred (some []))) (.loop (rc .ready none))
    rw [World.size_alloc, hD, hV] at h
    exact h
  have v0 : V.heap[D]? = some (.deferred (some [])) := by
    have h := World.alloc_heap_new w (.deferred (some []))
    rw [hD] at h
    rw [← hV, Below.heap_alloc _ _ _ (by rw [World.size_alloc]; omega)]
    exact h
  have vb : Below w.heap.size w V := by
    rw [← hV]
    exact ((Below.refl _ w).alloc (Nat.le_refl _) _).alloc (by rw [World.size_alloc]; omega) _
  have vs : V.heap.size = D + 2 := by rw [← hV, World.size_alloc, World.size_alloc, hD]
  refine ⟨D + 1, [{ target := .collected D, args := #[] }], V, { target := .fn (.func gf) lb, args := #[.func (.yield (D + 1)) #[] #[]] }, V, gf, #[.func (.yield (D + 1)) #[] #[]] ++ lb, V, ?_, ?_, ?_, ?_, fun _ => h1, ?_⟩
  · have h := run_enterLoop_outer (P := P) (w := w) fn a.tmps ps assign body
    rw [hD, ← hrc, hV] at h
    exact h
  · simp only [resolve, hg]
    simp [go_sem]
  · intro f' hf'
    simp [Target.leads] at hf'
    subst hf'
    exact hFg
  · simp [invoke, go_sem, eg]
  rw [hD] at hI hIx hbody hdone hstop vb
  refine (hseq (D + 1) (fun pre W => I pre W ∧ W.heap[D + 1]? = some (.loop (rc .ready none)) ∧ W.heap[D]? = some (.deferred (some [])) ∧ D ≤ W.heap.size)
    (fun pre W => ∃ c, Ix c pre W ∧ W.heap[D + 1]? = some (.loop (rc .done (some c))) ∧ W.heap[D]? = some (.deferred (some []))) V (by rw [hD]; exact vb) (by omega) (by omega)
    (fun s X Y h k => ⟨hI s X Y h.1 (k.mono (by omega)), (k.block _ (by omega)).trans h.2.1, (k.block _ (by omega)).trans h.2.2.1, Nat.le_trans h.2.2.2 k.size⟩) ?_ ⟨hI _ _ _ h0 vb, v1, v0, by omega⟩).mono ?_
  · rintro pre x W ⟨hi, hl, hk, hs⟩ _ hx hlen
    have hlt := (Array.getElem?_eq_some_iff.1 hl).1
    have hy := run_yield (P := P) (args := encs x) hl (by rw [hrc]; exact hps x)
    rw [hrc] at hy
    refine ⟨fn, _, assign, body, hy, roundIn_of_wpIn hfn (hassign _ x W _ ⟨_, run_beginRound hl (by rw [hrc]), ?_⟩)⟩
    obtain ⟨bz, hbz⟩ : ∃ bz : Loop, { rc .ready none with state := .busy } = bz := ⟨_, rfl⟩
    rw [hbz]
    have hX : (W.putObj (D + 1) (.loop bz)).heap[D + 1]? = some (.loop bz) := World.putObj_heap_same hlt
    have hXk : (W.putObj (D + 1) (.loop bz)).heap[D]? = some (.deferred (some [])) := (World.putObj_heap_other (by omega)).trans hk
    refine wpIn_mono (hbody (D + 1) pre x _ (by omega) (by rw [World.putObj_size]; omega) (hI _ _ _ hi (below_put D _ (by omega) hl)) (hRw x _ W _ _ hl rfl hx) hlen) ?_
    have ends : ∀ (j : Option Code) (Y : World), KeepsFrom D (W.putObj (D + 1) (.loop bz)) Y → Y.heap[D + 1]? = some (.loop bz) ∧
        (Instr.endRound (D + 1) j).run P Y = .ok (.bool j.isNone) (Y.putObj (D + 1) (.loop (rc (if j.isNone then .ready else .done) j))) ∧
        (Y.putObj (D + 1) (.loop (rc (if j.isNone then .ready else .done) j))).heap[D + 1]? = some (.loop (rc (if j.isNone then .ready else .done) j)) ∧
        (Y.putObj (D + 1) (.loop (rc (if j.isNone then .ready else .done) j))).heap[D]? = some (.deferred (some [])) := by
      intro j Y hY
      have y1 := hY.same _ _ (by omega) hX rfl
      have y0 := hY.same _ _ (by omega) hXk rfl
      have hr := run_endRound (P := P) j y1
      have e : { bz with state := if j.isNone then .ready else .done, pending := j } = rc (if j.isNone then .ready else .done) j := by rw [← hbz, hrc, hrc]
      rw [e] at hr
      exact ⟨y1, hr, World.putObj_heap_same (Array.getElem?_eq_some_iff.1 y1).1, (World.putObj_heap_other (by omega)).trans y0⟩
    intro e a' Y hp
    cases e with
    | normal =>
      obtain ⟨k1, k2, k3⟩ := hp
      obtain ⟨y1, hr, z1, z0⟩ := ends none Y k1
      refine ⟨_, _, hr, .inl ⟨rfl, ⟨hI _ _ _ k3 (below_put D _ (by omega) y1), z1, z0, ?_⟩, kpU_put _ _ k2⟩⟩
      have h1 := k1.size
      rw [World.putObj_size] at h1
      rw [World.putObj_size]
      omega
    | ret =>
      obtain ⟨k1, k2⟩ := hp
      obtain ⟨y1, hr, z1, z0⟩ := ends (some .ret) Y k1
      exact ⟨_, _, hr, .inr ⟨rfl, .ret, (hIx _).putObj _ k2 (by omega) y1 rfl, z1, z0⟩⟩
    | exit id =>
      obtain ⟨k1, k2⟩ := hp
      obtain ⟨y1, hr, z1, z0⟩ := ends (some (.exit id)) Y k1
      exact ⟨_, _, hr, .inr ⟨rfl, .exit id, (hIx _).putObj _ k2 (by omega) y1 rfl, z1, z0⟩⟩
    | goto t =>
      obtain ⟨k1, k2⟩ := hp
      obtain ⟨y1, hr, z1, z0⟩ := ends (some (.goto t)) Y k1
      exact ⟨_, _, hr, .inr ⟨rfl, .goto t, (hIx _).putObj _ k2 (by omega) y1 rfl, z1, z0⟩⟩
    | panic ch => exact hp.elim
    | outgrown => exact hp.elim
  · rintro e Y ⟨⟨v, rfl⟩, (⟨xs, hS, hi, hl, hk, _⟩ | ⟨pre, hSp, c, hi, hl, hk⟩)⟩
    · have hr := run_endLoop (P := P) hl (by rw [hrc]; simp)
      refine ⟨none, _, by rw [hrc] at hr; exact hr, hdone D xs _ (Nat.le_refl _) hS (hI _ _ _ hi (below_put D _ (by omega) hl)) ((World.putObj_heap_other (by omega)).trans hk)⟩
    · have hr := run_endLoop (P := P) hl (by rw [hrc]; simp)
      refine ⟨some c, _, by rw [hrc] at hr; exact hr, hstop D c pre _ (Nat.le_refl _) hSp ((hIx c).putObj _ hi (by omega) hl rfl) ((World.putObj_heap_other (by omega)).trans hk)⟩
end Go.Proofs.Ytiplnfggiffngaa
