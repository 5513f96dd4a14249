/-
  DERIVED. GIVEN WITH THE SEED: THE CARDS: each row of YtcokcnpnemhdfaaDoorRows.lean that lists a variable, with what it lists TIED to the program's text (the seventh form; the later family's looks); each row that meets fmt, with fmt's text TOLD by the authors' own Lean function (tested against real Go, not proved from fmt's source: count such statements apart). THE CARD IS WHAT COUNTS. Prove the row's statement (the work); the ties are given (YtcokcnpnemhdfaaDoorTie.lean); close each card by the builder's one call (the guide's Derived/Test/ToyasCard.lean, 'card_holds'). Laid BY PROGRAM, IN A SANDBOX (cutbox-door.mjs). By AI agents, Wed Nov 11 2026. No macro, syntax, notation, axiom, sorry.
-/
import Derived.Test.YtcokcnpnemhdfaaDoorRows
import GoSem.ClaimSeven
namespace Go.Proofs.YtcokcnpnemhdfaaDoor
namespace Rows

/-- THE TIED CARD OF 'laws.FnModuli'. -/
def fnModuliCard : Claim7 := { stood := { row := fnModuliRow, standIns := [], harness := (true, "7ee555990a17b97f042916dd621a916d6bae1a293e3880d1542c1e56d801b765"), looks := true }, kinds := [], alts := [], laidByText := true, laidKinds := [.handle], laidTests := true, laidLooks := .later }
def FnModuliCardSaid : Prop := Claim7.holds Tryd.pinned (.plain (OpenSpec.ofChange fnModuliSpec)) fnModuliCard

/-- THE SECOND FORM's CARD OF 'laws.FnModuli'. -/
def fnModuliUptoCard : Claim7 := { stood := { row := fnModuliUptoRow, standIns := [], harness := (true, "7ee555990a17b97f042916dd621a916d6bae1a293e3880d1542c1e56d801b765"), looks := true }, kinds := [], alts := [], laidByText := true, laidKinds := [.handle], laidTests := true, laidLooks := .later }
def FnModuliUptoCardSaid : Prop := Claim7.holds Tryd.pinned (.plain (OpenSpec.upto fnModuliSpec)) fnModuliUptoCard
end Rows
end Go.Proofs.YtcokcnpnemhdfaaDoor
