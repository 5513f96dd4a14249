/-
  DERIVED. GIVEN WITH THE SEED: THE CARDS: each row of YtdojgdcbbnekdaaDoorRows.lean that lists a variable, with what it lists TIED to the program's text (the seventh form; the later family's looks); each row that meets fmt, with fmt's text TOLD by the authors' own Lean function (tested against real Go, not proved from fmt's source: count such statements apart). THE CARD IS WHAT COUNTS. Prove the row's statement (the work); the ties are given (YtdojgdcbbnekdaaDoorTie.lean); close each card by the builder's one call (the guide's Derived/Test/ToyasCard.lean, 'card_holds'). Laid BY PROGRAM, IN A SANDBOX (cutbox-door.mjs). By AI agents, Wed Nov 11 2026. No macro, syntax, notation, axiom, sorry.
-/
import Derived.Test.YtdojgdcbbnekdaaDoorRows
import GoSem.ClaimSeven
namespace Go.Proofs.YtdojgdcbbnekdaaDoor
namespace Rows

/-- THE TIED CARD OF 'laws.FnExactExactSplit'. -/
def fnExactExactSplitCard : Claim7 := { stood := { row := fnExactExactSplitRow, standIns := [], harness := (true, "0d0ffcdd6a708f0d3ae4c425f29739732c6a4c831fac058c3935ca4c281f6aad"), looks := true }, kinds := [], alts := [], laidByText := true, laidKinds := [.handle], laidTests := true, laidLooks := .later }
def FnExactExactSplitCardSaid : Prop := Claim7.holds Tryd.pinned (.plain (OpenSpec.ofChange fnExactExactSplitSpec)) fnExactExactSplitCard

/-- THE TIED CARD OF 'laws.FnExactExactNatural'. -/
def fnExactExactNaturalCard : Claim7 := { stood := { row := fnExactExactNaturalRow, standIns := [], harness := (true, "0d0ffcdd6a708f0d3ae4c425f29739732c6a4c831fac058c3935ca4c281f6aad"), looks := true }, kinds := [], alts := [], laidByText := true, laidKinds := [.handle], laidTests := true, laidLooks := .later }
def FnExactExactNaturalCardSaid : Prop := Claim7.holds Tryd.pinned (.plain (OpenSpec.ofChange fnExactExactNaturalSpec)) fnExactExactNaturalCard

/-- THE TIED CARD OF 'laws.FnExactExactTwins'. -/
def fnExactExactTwinsCard : Claim7 := { stood := { row := fnExactExactTwinsRow, standIns := [], harness := (true, "0d0ffcdd6a708f0d3ae4c425f29739732c6a4c831fac058c3935ca4c281f6aad"), looks := true }, kinds := [], alts := [], laidByText := true, laidKinds := [.handle], laidTests := true, laidLooks := .later }
def FnExactExactTwinsCardSaid : Prop := Claim7.holds Tryd.pinned (.plain (OpenSpec.ofChange fnExactExactTwinsSpec)) fnExactExactTwinsCard

/-- THE TIED CARD OF 'laws.FnExactExactSorted'. -/
def fnExactExactSortedCard : Claim7 := { stood := { row := fnExactExactSortedRow, standIns := [], harness := (true, "0d0ffcdd6a708f0d3ae4c425f29739732c6a4c831fac058c3935ca4c281f6aad"), looks := true }, kinds := [], alts := [], laidByText := true, laidKinds := [.handle], laidTests := true, laidLooks := .later }
def FnExactExactSortedCardSaid : Prop := Claim7.holds Tryd.pinned (.plain (OpenSpec.ofChange fnExactExactSortedSpec)) fnExactExactSortedCard

/-- THE TIED CARD OF 'laws.FnExactExactModuli'. -/
def fnExactExactModuliCard : Claim7 := { stood := { row := fnExactExactModuliRow, standIns := [], harness := (true, "0d0ffcdd6a708f0d3ae4c425f29739732c6a4c831fac058c3935ca4c281f6aad"), looks := true }, kinds := [], alts := [], laidByText := true, laidKinds := [.handle], laidTests := true, laidLooks := .later }
def FnExactExactModuliCardSaid : Prop := Claim7.holds Tryd.pinned (.plain (OpenSpec.ofChange fnExactExactModuliSpec)) fnExactExactModuliCard

/-- THE TIED CARD OF 'laws.FnExactExactCount'. -/
def fnExactExactCountCard : Claim7 := { stood := { row := fnExactExactCountRow, standIns := [], harness := (true, "0d0ffcdd6a708f0d3ae4c425f29739732c6a4c831fac058c3935ca4c281f6aad"), looks := true }, kinds := [], alts := [], laidByText := true, laidKinds := [.handle], laidTests := true, laidLooks := .later }
def FnExactExactCountCardSaid : Prop := Claim7.holds Tryd.pinned (.plain (OpenSpec.ofChange fnExactExactCountSpec)) fnExactExactCountCard

/-- THE SECOND FORM's CARD OF 'laws.FnExactExactSplit'. -/
def fnExactExactSplitUptoCard : Claim7 := { stood := { row := fnExactExactSplitUptoRow, standIns := [], harness := (true, "0d0ffcdd6a708f0d3ae4c425f29739732c6a4c831fac058c3935ca4c281f6aad"), looks := true }, kinds := [], alts := [], laidByText := true, laidKinds := [.handle], laidTests := true, laidLooks := .later }
def FnExactExactSplitUptoCardSaid : Prop := Claim7.holds Tryd.pinned (.plain (OpenSpec.upto fnExactExactSplitSpec)) fnExactExactSplitUptoCard

/-- THE SECOND FORM's CARD OF 'laws.FnExactExactNatural'. -/
def fnExactExactNaturalUptoCard : Claim7 := { stood := { row := fnExactExactNaturalUptoRow, standIns := [], harness := (true, "0d0ffcdd6a708f0d3ae4c425f29739732c6a4c831fac058c3935ca4c281f6aad"), looks := true }, kinds := [], alts := [], laidByText := true, laidKinds := [.handle], laidTests := true, laidLooks := .later }
def FnExactExactNaturalUptoCardSaid : Prop := Claim7.holds Tryd.pinned (.plain (OpenSpec.upto fnExactExactNaturalSpec)) fnExactExactNaturalUptoCard

/-- THE SECOND FORM's CARD OF 'laws.FnExactExactTwins'. -/
def fnExactExactTwinsUptoCard : Claim7 := { stood := { row := fnExactExactTwinsUptoRow, standIns := [], harness := (true, "0d0ffcdd6a708f0d3ae4c425f29739732c6a4c831fac058c3935ca4c281f6aad"), looks := true }, kinds := [], alts := [], laidByText := true, laidKinds := [.handle], laidTests := true, laidLooks := .later }
def FnExactExactTwinsUptoCardSaid : Prop := Claim7.holds Tryd.pinned (.plain (OpenSpec.upto fnExactExactTwinsSpec)) fnExactExactTwinsUptoCard

/-- THE SECOND FORM's CARD OF 'laws.FnExactExactSorted'. -/
def fnExactExactSortedUptoCard : Claim7 := { stood := { row := fnExactExactSortedUptoRow, standIns := [], harness := (true, "0d0ffcdd6a708f0d3ae4c425f29739732c6a4c831fac058c3935ca4c281f6aad"), looks := true }, kinds := [], alts := [], laidByText := true, laidKinds := [.handle], laidTests := true, laidLooks := .later }
def FnExactExactSortedUptoCardSaid : Prop := Claim7.holds Tryd.pinned (.plain (OpenSpec.upto fnExactExactSortedSpec)) fnExactExactSortedUptoCard

/-- THE SECOND FORM's CARD OF 'laws.FnExactExactModuli'. -/
def fnExactExactModuliUptoCard : Claim7 := { stood := { row := fnExactExactModuliUptoRow, standIns := [], harness := (true, "0d0ffcdd6a708f0d3ae4c425f29739732c6a4c831fac058c3935ca4c281f6aad"), looks := true }, kinds := [], alts := [], laidByText := true, laidKinds := [.handle], laidTests := true, laidLooks := .later }
def FnExactExactModuliUptoCardSaid : Prop := Claim7.holds Tryd.pinned (.plain (OpenSpec.upto fnExactExactModuliSpec)) fnExactExactModuliUptoCard

/-- THE SECOND FORM's CARD OF 'laws.FnExactExactCount'. -/
def fnExactExactCountUptoCard : Claim7 := { stood := { row := fnExactExactCountUptoRow, standIns := [], harness := (true, "0d0ffcdd6a708f0d3ae4c425f29739732c6a4c831fac058c3935ca4c281f6aad"), looks := true }, kinds := [], alts := [], laidByText := true, laidKinds := [.handle], laidTests := true, laidLooks := .later }
def FnExactExactCountUptoCardSaid : Prop := Claim7.holds Tryd.pinned (.plain (OpenSpec.upto fnExactExactCountSpec)) fnExactExactCountUptoCard
end Rows
end Go.Proofs.YtdojgdcbbnekdaaDoor
