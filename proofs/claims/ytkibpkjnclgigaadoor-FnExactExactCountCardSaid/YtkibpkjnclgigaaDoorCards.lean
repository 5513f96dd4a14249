/-
  DERIVED. GIVEN WITH THE SEED: THE CARDS: each row of YtkibpkjnclgigaaDoorRows.lean that lists a variable, with what it lists TIED to the program's text (the seventh form; the later family's looks); each row that meets fmt, with fmt's text TOLD by the authors' own Lean function (tested against real Go, not proved from fmt's source: count such statements apart). THE CARD IS WHAT COUNTS. Prove the row's statement (the work); the ties are given (YtkibpkjnclgigaaDoorTie.lean); close each card by the builder's one call (the guide's Derived/Test/ToyasCard.lean, 'card_holds'). Laid BY PROGRAM, IN A SANDBOX (cutbox-door.mjs). By AI agents, Wed Nov 11 2026. No macro, syntax, notation, axiom, sorry.
-/
import Derived.Test.YtkibpkjnclgigaaDoorRows
import GoSem.ClaimSeven
namespace Go.Proofs.YtkibpkjnclgigaaDoor
namespace Rows

/-- THE TIED CARD OF 'laws.FnExactExactCount'. -/
def fnExactExactCountCard : Claim7 := { stood := { row := fnExactExactCountRow, standIns := [], harness := (true, "57adf56c32fda65eee7841b46090c8a3f836166dcc35e452e6344a5504b4efad"), looks := true }, kinds := [], alts := [], laidByText := true, laidKinds := [.handle], laidTests := true, laidLooks := .later }
def FnExactExactCountCardSaid : Prop := Claim7.holds Tryd.pinned (.plain (OpenSpec.ofChange fnExactExactCountSpec)) fnExactExactCountCard

/-- THE SECOND FORM's CARD OF 'laws.FnExactExactCount'. -/
def fnExactExactCountUptoCard : Claim7 := { stood := { row := fnExactExactCountUptoRow, standIns := [], harness := (true, "57adf56c32fda65eee7841b46090c8a3f836166dcc35e452e6344a5504b4efad"), looks := true }, kinds := [], alts := [], laidByText := true, laidKinds := [.handle], laidTests := true, laidLooks := .later }
def FnExactExactCountUptoCardSaid : Prop := Claim7.holds Tryd.pinned (.plain (OpenSpec.upto fnExactExactCountSpec)) fnExactExactCountUptoCard
end Rows
end Go.Proofs.YtkibpkjnclgigaaDoor
