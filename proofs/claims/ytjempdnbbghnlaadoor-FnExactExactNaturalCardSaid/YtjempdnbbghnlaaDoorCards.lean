/-
  DERIVED. GIVEN WITH THE SEED: THE CARDS: each row of YtjempdnbbghnlaaDoorRows.lean that lists a variable, with what it lists TIED to the program's text (the seventh form; the later family's looks); each row that meets fmt, with fmt's text TOLD by the authors' own Lean function (tested against real Go, not proved from fmt's source: count such statements apart). THE CARD IS WHAT COUNTS. Prove the row's statement (the work); the ties are given (YtjempdnbbghnlaaDoorTie.lean); close each card by the builder's one call (the guide's Derived/Test/ToyasCard.lean, 'card_holds'). Laid BY PROGRAM, IN A SANDBOX (cutbox-door.mjs). By AI agents, Wed Nov 11 2026. No macro, syntax, notation, axiom, sorry.
-/
import Derived.Test.YtjempdnbbghnlaaDoorRows
import GoSem.ClaimSeven
namespace Go.Proofs.YtjempdnbbghnlaaDoor
namespace Rows

/-- THE TIED CARD OF 'laws.FnExactExactNatural'. -/
def fnExactExactNaturalCard : Claim7 := { stood := { row := fnExactExactNaturalRow, standIns := [], harness := (true, "9e14e22396c2338422a9e6657b16b56d301820b6f2736ee54ecdb37ccaae8e6d"), looks := true }, kinds := [], alts := [], laidByText := true, laidKinds := [.handle], laidTests := true, laidLooks := .later }
def FnExactExactNaturalCardSaid : Prop := Claim7.holds Tryd.pinned (.plain (OpenSpec.ofChange fnExactExactNaturalSpec)) fnExactExactNaturalCard

/-- THE TIED CARD OF 'laws.FnExactExactCount'. -/
def fnExactExactCountCard : Claim7 := { stood := { row := fnExactExactCountRow, standIns := [], harness := (true, "9e14e22396c2338422a9e6657b16b56d301820b6f2736ee54ecdb37ccaae8e6d"), looks := true }, kinds := [], alts := [], laidByText := true, laidKinds := [.handle], laidTests := true, laidLooks := .later }
def FnExactExactCountCardSaid : Prop := Claim7.holds Tryd.pinned (.plain (OpenSpec.ofChange fnExactExactCountSpec)) fnExactExactCountCard

/-- THE SECOND FORM's CARD OF 'laws.FnExactExactNatural'. -/
def fnExactExactNaturalUptoCard : Claim7 := { stood := { row := fnExactExactNaturalUptoRow, standIns := [], harness := (true, "9e14e22396c2338422a9e6657b16b56d301820b6f2736ee54ecdb37ccaae8e6d"), looks := true }, kinds := [], alts := [], laidByText := true, laidKinds := [.handle], laidTests := true, laidLooks := .later }
def FnExactExactNaturalUptoCardSaid : Prop := Claim7.holds Tryd.pinned (.plain (OpenSpec.upto fnExactExactNaturalSpec)) fnExactExactNaturalUptoCard

/-- THE SECOND FORM's CARD OF 'laws.FnExactExactCount'. -/
def fnExactExactCountUptoCard : Claim7 := { stood := { row := fnExactExactCountUptoRow, standIns := [], harness := (true, "9e14e22396c2338422a9e6657b16b56d301820b6f2736ee54ecdb37ccaae8e6d"), looks := true }, kinds := [], alts := [], laidByText := true, laidKinds := [.handle], laidTests := true, laidLooks := .later }
def FnExactExactCountUptoCardSaid : Prop := Claim7.holds Tryd.pinned (.plain (OpenSpec.upto fnExactExactCountSpec)) fnExactExactCountUptoCard
end Rows
end Go.Proofs.YtjempdnbbghnlaaDoor
