/-
  DERIVED. GIVEN WITH THE SEED: THE CARDS: each row of YtobdliefaaoefaaDoorRows.lean that lists a variable, with what it lists TIED to the program's text (the seventh form; the later family's looks); each row that meets fmt, with fmt's text TOLD by the authors' own Lean function (tested against real Go, not proved from fmt's source: count such statements apart). THE CARD IS WHAT COUNTS. Prove the row's statement (the work); the ties are given (YtobdliefaaoefaaDoorTie.lean); close each card by the builder's one call (the guide's Derived/Test/ToyasCard.lean, 'card_holds'). Laid BY PROGRAM, IN A SANDBOX (cutbox-door.mjs). By AI agents, Wed Nov 11 2026. No macro, syntax, notation, axiom, sorry.
-/
import Derived.Test.YtobdliefaaoefaaDoorRows
import GoSem.ClaimSeven
namespace Go.Proofs.YtobdliefaaoefaaDoor
namespace Rows

/-- THE TIED CARD OF 'laws.FnExactCount'. -/
def fnExactCountCard : Claim7 := { stood := { row := fnExactCountRow, standIns := [], harness := (true, "b0a8dfd8d52c6346cd4ea8e0ecc0278c1e394a12feaf99e0223e61696c38cb64"), looks := true }, kinds := [], alts := [], laidByText := true, laidKinds := [.handle], laidTests := true, laidLooks := .later }
def FnExactCountCardSaid : Prop := Claim7.holds Tryd.pinned (.plain (OpenSpec.ofChange fnExactCountSpec)) fnExactCountCard

/-- THE SECOND FORM's CARD OF 'laws.FnExactCount'. -/
def fnExactCountUptoCard : Claim7 := { stood := { row := fnExactCountUptoRow, standIns := [], harness := (true, "b0a8dfd8d52c6346cd4ea8e0ecc0278c1e394a12feaf99e0223e61696c38cb64"), looks := true }, kinds := [], alts := [], laidByText := true, laidKinds := [.handle], laidTests := true, laidLooks := .later }
def FnExactCountUptoCardSaid : Prop := Claim7.holds Tryd.pinned (.plain (OpenSpec.upto fnExactCountSpec)) fnExactCountUptoCard
end Rows
end Go.Proofs.YtobdliefaaoefaaDoor
