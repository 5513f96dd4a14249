/-
  DERIVED. GIVEN WITH THE SEED: THE CARDS: each row of YtnmlljhgilpocaaDoorRows.lean that lists a variable, with what it lists TIED to the program's text (the seventh form; the later family's looks); each row that meets fmt, with fmt's text TOLD by the authors' own Lean function (tested against real Go, not proved from fmt's source: count such statements apart). THE CARD IS WHAT COUNTS. Prove the row's statement (the work); the ties are given (YtnmlljhgilpocaaDoorTie.lean); close each card by the builder's one call (the guide's Derived/Test/ToyasCard.lean, 'card_holds'). Laid BY PROGRAM, IN A SANDBOX (cutbox-door.mjs). By AI agents, Wed Nov 11 2026. No macro, syntax, notation, axiom, sorry.
-/
import Derived.Test.YtnmlljhgilpocaaDoorRows
import GoSem.ClaimSeven
namespace Go.Proofs.YtnmlljhgilpocaaDoor
namespace Rows

/-- THE TIED CARD OF 'laws.FnNaturalSplit'. -/
def fnNaturalSplitCard : Claim7 := { stood := { row := fnNaturalSplitRow, standIns := [], harness := (true, "cea385b72cae6f34a5019db7fc96b61c9acd20c0930c1e4a1796624f05338076"), looks := true }, kinds := [], alts := [], laidByText := true, laidKinds := [.handle], laidTests := true, laidLooks := .later }
def FnNaturalSplitCardSaid : Prop := Claim7.holds Tryd.pinned (.plain (OpenSpec.ofChange fnNaturalSplitSpec)) fnNaturalSplitCard

/-- THE SECOND FORM's CARD OF 'laws.FnNaturalSplit'. -/
def fnNaturalSplitUptoCard : Claim7 := { stood := { row := fnNaturalSplitUptoRow, standIns := [], harness := (true, "cea385b72cae6f34a5019db7fc96b61c9acd20c0930c1e4a1796624f05338076"), looks := true }, kinds := [], alts := [], laidByText := true, laidKinds := [.handle], laidTests := true, laidLooks := .later }
def FnNaturalSplitUptoCardSaid : Prop := Claim7.holds Tryd.pinned (.plain (OpenSpec.upto fnNaturalSplitSpec)) fnNaturalSplitUptoCard
end Rows
end Go.Proofs.YtnmlljhgilpocaaDoor
