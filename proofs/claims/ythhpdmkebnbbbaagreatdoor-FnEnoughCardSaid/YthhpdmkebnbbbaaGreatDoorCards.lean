/-
  DERIVED. GIVEN WITH THE SEED: THE CARDS: each row of YthhpdmkebnbbbaaGreatDoorRows.lean that lists a variable, with what it lists TIED to the program's text (the seventh form; the later family's looks); each row that meets fmt, with fmt's text TOLD by the authors' own Lean function (tested against real Go, not proved from fmt's source: count such statements apart). THE CARD IS WHAT COUNTS. Prove the row's statement (the work); the ties are given (YthhpdmkebnbbbaaGreatDoorTie.lean); close each card by the builder's one call (the guide's Derived/Test/ToyasCard.lean, 'card_holds'). Laid BY PROGRAM, IN A SANDBOX (cutbox-door.mjs). By AI agents, Wed Nov 11 2026. No macro, syntax, notation, axiom, sorry.
-/
import Derived.Test.YthhpdmkebnbbbaaGreatDoorRows
import GoSem.ClaimSeven
namespace Go.Proofs.YthhpdmkebnbbbaaGreatDoor
namespace Rows

/-- THE TIED CARD OF 'laws.FnNatural'. -/
def fnNaturalCard : Claim7 := { stood := { row := fnNaturalRow, standIns := [], harness := (true, "af53f05cfd4be8259c1995ccbb15160a5a19b0560d912f2d11ce407af3098e5c"), looks := true }, kinds := [], alts := [], laidByText := true, laidKinds := [.handle], laidTests := true, laidLooks := .later }
def FnNaturalCardSaid : Prop := Claim7.holds Tryz.pinned (.plain (OpenSpec.ofChange fnNaturalSpec)) fnNaturalCard

/-- THE TIED CARD OF 'laws.FnTwins'. -/
def fnTwinsCard : Claim7 := { stood := { row := fnTwinsRow, standIns := [], harness := (true, "af53f05cfd4be8259c1995ccbb15160a5a19b0560d912f2d11ce407af3098e5c"), looks := true }, kinds := [], alts := [], laidByText := true, laidKinds := [.handle], laidTests := true, laidLooks := .later }
def FnTwinsCardSaid : Prop := Claim7.holds Tryz.pinned (.plain (OpenSpec.ofChange fnTwinsSpec)) fnTwinsCard

/-- THE TIED CARD OF 'laws.FnEnough'. -/
def fnEnoughCard : Claim7 := { stood := { row := fnEnoughRow, standIns := [], harness := (true, "af53f05cfd4be8259c1995ccbb15160a5a19b0560d912f2d11ce407af3098e5c"), looks := true }, kinds := [], alts := [], laidByText := true, laidKinds := [.handle], laidTests := true, laidLooks := .later }
def FnEnoughCardSaid : Prop := Claim7.holds Tryz.pinned (.plain (OpenSpec.ofChange fnEnoughSpec)) fnEnoughCard

/-- THE SECOND FORM's CARD OF 'laws.FnNatural'. -/
def fnNaturalUptoCard : Claim7 := { stood := { row := fnNaturalUptoRow, standIns := [], harness := (true, "af53f05cfd4be8259c1995ccbb15160a5a19b0560d912f2d11ce407af3098e5c"), looks := true }, kinds := [], alts := [], laidByText := true, laidKinds := [.handle], laidTests := true, laidLooks := .later }
def FnNaturalUptoCardSaid : Prop := Claim7.holds Tryz.pinned (.plain (OpenSpec.upto fnNaturalSpec)) fnNaturalUptoCard

/-- THE SECOND FORM's CARD OF 'laws.FnTwins'. -/
def fnTwinsUptoCard : Claim7 := { stood := { row := fnTwinsUptoRow, standIns := [], harness := (true, "af53f05cfd4be8259c1995ccbb15160a5a19b0560d912f2d11ce407af3098e5c"), looks := true }, kinds := [], alts := [], laidByText := true, laidKinds := [.handle], laidTests := true, laidLooks := .later }
def FnTwinsUptoCardSaid : Prop := Claim7.holds Tryz.pinned (.plain (OpenSpec.upto fnTwinsSpec)) fnTwinsUptoCard

/-- THE SECOND FORM's CARD OF 'laws.FnEnough'. -/
def fnEnoughUptoCard : Claim7 := { stood := { row := fnEnoughUptoRow, standIns := [], harness := (true, "af53f05cfd4be8259c1995ccbb15160a5a19b0560d912f2d11ce407af3098e5c"), looks := true }, kinds := [], alts := [], laidByText := true, laidKinds := [.handle], laidTests := true, laidLooks := .later }
def FnEnoughUptoCardSaid : Prop := Claim7.holds Tryz.pinned (.plain (OpenSpec.upto fnEnoughSpec)) fnEnoughUptoCard
end Rows
end Go.Proofs.YthhpdmkebnbbbaaGreatDoor
