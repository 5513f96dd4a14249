/- A region that draws its order, whose operations only read and whose callees only lay blocks of their own: walked once, in the order of the text. -/
import Derived.Test.YtenghhoofpjcaaaMathS
import Derived.Deep.QuietTactic
namespace Go.Proofs.Ytenghhoofpjcaaa
open Go.RowKit
/-- a proposition that is not laid open by whoever looks at its head -/
structure Sh (p : Prop) : Prop where
  out : p
theorem q_step {P : Program} {ops : Array Oper} {C : World → Prop} {Q : Act → Prop} {a : Act} {o : Oper} {rest : List Oper}
    (h : ∀ K : Act → Prop, (∀ a, Sh (wpQuiet P ops C Q rest a) → K a) → if Region.wanted o (yielded ops a.tmps) then o.quiet P a C K else K (a.put o.dst undef)) : Sh (wpQuiet P ops C Q (o :: rest) a) :=
  ⟨wpQuiet_step fun K hK => h K fun a s => hK a s.out⟩
theorem q_nil {P : Program} {ops : Array Oper} {C : World → Prop} {Q : Act → Prop} {a : Act} (h : Q a) : Sh (wpQuiet P ops C Q [] a) := ⟨h⟩
/-- a world above w: the old blocks are as they were -/
structure Abv (w : World) where
  x : World
  h : Below w.heap.size w x
instance (w : World) : Inhabited (Abv w) := ⟨⟨w, Below.refl _ w⟩⟩
theorem wp_region_above {P : Program} {id : Nat} {Q : Exit → Act → World → Prop} {a : Act} {w : World} {l : List Oper} (hm : P.follows .mixedOrders = true) (hB : Region.lexB .any l.toArray = true)
    (h : Sh (wpQuiet P l.toArray (fun w' => ∃ p : Abv w, w' = p.x) (fun a' => ∀ w', (∃ p : Abv w, w' = p.x) → Q .normal a' w') l a)) : (Code.region id l.toArray true).wp P Q a w :=
  wp_region_quiet (C := fun w' => ∃ p : Abv w, w' = p.x) hm hB ⟨⟨w.drew, (Below.refl _ w).drew⟩, rfl⟩ (by simpa using h.out)
theorem Abv.cell {w : World} (p : Abv w) {a : Addr} {v : Value} (h : w.cell? a = some v) : p.x.cell? a = some v := keepc p.h h
/-- A callee's contract, met above w. -/
theorem calls_above {P : Program} {f : FuncId} {args : Array Value} {w : World} {p : Abv w} {v : Value}
    (h : Calls P f args p.x fun e w' => e = .returned v ∧ Below p.x.heap.size p.x w') : Calls P f args p.x fun e w'' => e = .returned v ∧ ∃ p : Abv w, w'' = p.x :=
  h.mono fun _ _ ⟨he, hb⟩ => ⟨he, ⟨⟨_, p.h.trans (hb.mono p.h.size)⟩, rfl⟩⟩
end Go.Proofs.Ytenghhoofpjcaaa
