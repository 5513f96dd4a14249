/- A function that ranges over iterators in a loop leaves with as many marks among its deferred calls: they are shut one after another. -/
import Derived.RangeFuncLeaves
import Derived.RangeFuncBox
import Derived.WalkKit
import Derived.Below
import Derived.OwnWalkIn
namespace Go.Proofs.Ytgdpebnnmklbjaa
open Go Go.RowKit
def mark (D : Nat) : Deferred := { target := .collected D, args := #[] }
/-- the blocks for deferred calls stand open, each once, from B on -/
def MarksOk (B : Nat) (Ds : List Nat) (w : World) : Prop := Ds.Nodup ∧ ∀ D ∈ Ds, B ≤ D ∧ w.heap[D]? = some (.deferred (some []))
theorem MarksOk.nil (B : Nat) (w : World) : MarksOk B [] w := ⟨List.nodup_nil, by simp⟩
theorem putObj_other {w : World} {l j : Nat} {o : Obj} (h : j < w.heap.size) (hne : j ≠ l) : (w.putObj l o).heap[j]? = w.heap[j]? :=
  (grownBy_putObj' w l o).block j h (fun e => hne (by cases e; rfl))
theorem MarksOk.kept {B : Nat} {Ds : List Nat} {w w' : World} {row : Option Nat} (h : MarksOk B Ds w) (hg : w.grownBy w' row) (hne : ∀ D ∈ Ds, some D ≠ row) : MarksOk B Ds w' :=
  ⟨h.1, fun D hD => ⟨(h.2 D hD).1, by
    have h2 := (h.2 D hD).2
    rw [hg.block D (Array.getElem?_eq_some_iff.1 h2).1 (hne D hD)]; exact h2⟩⟩
theorem MarksOk.cons {B D : Nat} {Ds : List Nat} {w : World} (h : MarksOk B Ds w) (hB : B ≤ D) (hD : w.heap[D]? = some (.deferred (some []))) (hne : D ∉ Ds) : MarksOk B (D :: Ds) w :=
  ⟨List.nodup_cons.2 ⟨hne, h.1⟩, fun D' hD' => by
    rcases List.mem_cons.1 hD' with rfl | h'
    · exact ⟨hB, hD⟩
    · exact h.2 D' h'⟩
theorem leaves_marks {F : Fence} {n : Nat} {P : Program} {fn : Func} {tmps : Array Value} {R : Ending → World → Prop} {B : Nat} (G : World → Prop)
    (hG : ∀ w D, B ≤ D → w.heap[D]? = some (.deferred (some [])) → G w → G (w.putObj D (.deferred none))) (hend : ∀ w, G w → LeavesInM F n P fn tmps R [] .returning w) :
    ∀ (Ds : List Nat) (w : World), MarksOk B Ds w → G w → LeavesInM F n P fn tmps R (Ds.map mark) .returning w := by
  intro Ds
  induction Ds with
  | nil => intro w _ h; exact hend w h
  | cons D Ds ih =>
    intro w hm h
    obtain ⟨hnd, hD⟩ := hm
    obtain ⟨h1, h2⟩ := hD D (List.mem_cons_self ..)
    obtain ⟨n1, n2⟩ := List.nodup_cons.1 hnd
    refine ⟨by simp, .inl ⟨D, _, rfl, run_takeDeferred h2, ih _ ⟨n2, fun D' hD' => ?_⟩ (hG w D h1 h2 h)⟩⟩
    obtain ⟨h3, h4⟩ := hD D' (List.mem_cons_of_mem _ hD')
    refine ⟨h3, ?_⟩
    rw [putObj_other (Array.getElem?_eq_some_iff.1 h4).1 (fun e : D' = D => n1 (by rw [← e]; exact hD'))]
    exact h4
theorem wpListIn_make_full {F : Fence} {n : Nat} {P : Program} (w : World) {ops : Array Oper} {rest : List Oper} {o : Oper} {a : Act} {Q : Exit → Act → World → Prop}
    (hg : o.guard = none) (l c : Operand) (t : TypeId) (hop : o.op = Op.makeSlice t l c)
    (base : Nat) (e : TypeId) (i : TypeInfo) (z : Value) (size : Nat) (h1 : P.underlying t = some (.slice e)) (h2 : P.info? e = some i) (h3 : i.zero = some z) (h4 : i.size = size)
    (kl kc : IntKind) (L C : Int) (m : Nat) (hl : a.eval l = .int kl L) (hc : a.eval c = .int kc C) (hL : L = (m : Int)) (hC : C = (m : Int)) (b2 : i.bytes * m ≤ 281474976710656) (b3 : m ≤ maxLen) (b4 : base ≤ w.heap.size)
    (hK : ∀ w', w'.ownsRow base e size (.slice (some ⟨w.heap.size, 0, none⟩) m m) m (madeCells z.cells (m * size)).toList → w.grownBy w' none → wpListIn F n P ops Q rest (a.put o.dst (.slice (some ⟨w.heap.size, 0, none⟩) m m)) w') :
    wpListIn F n P ops Q (o :: rest) a w := by
  refine wpListIn_plain hg fun K hK' => ?_
  obtain ⟨w', hrun, r1, r2⟩ := run_make_full (P := P) w base t e i z size h1 h2 h3 h4 kl kc m b2 b3 b4
  subst hL
  subst hC
  unfold Oper.wpIn
  refine ⟨?_, ?_⟩
  · simp [Oper.about, hop]
  · rw [Oper.semAt_plain F _ _ (by rw [hop]; intro c hc'; cases hc')]
    simp [execOp, hop, hl, hc, hrun, Result.andThen]
    exact hK' _ _ (hK w' r1 r2)
end Go.Proofs.Ytgdpebnnmklbjaa
