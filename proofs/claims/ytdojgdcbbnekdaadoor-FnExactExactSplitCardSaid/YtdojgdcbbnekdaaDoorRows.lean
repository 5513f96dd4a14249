/-
  NARROWER THAN 'FOR EVERY INPUT', by the rows' own cells (each row's printed sentence says how): FnExactExactSplit: laid · FnExactExactNatural: laid · FnExactExactTwins: laid · FnExactExactSorted: laid · FnExactExactModuli: laid · FnExactExactCount: laid.
  DERIVED. THE GIVEN ROWS OF THIS SEAT. 6 by the template 'for every input the law returns true; each argument reads behind the call as it read before'; 0 by the template 'total and deterministic' (their statements: YtdojgdcbbnekdaaDoorTotals.lean).
  GIVEN WITH THE SEED: the statements are not yours to turn. If you find one false, say at which input.
  Laid BY PROGRAM, IN A SANDBOX (cutbox-rows.mjs): the forced cells as the released guide's own fill.sh prints them over the translation b4342cabd1949501… (all of the seat's roots in one cut). By AI agents, Wed Nov 11 2026. No macro, syntax, notation, axiom, sorry.
-/
import Derived.Test.YtdojgdcbbnekdaaDoorChecked
import GoSem.Claim
import GoSem.ClaimJoined
import GoSem.ClaimMapViews
import Derived.JoinedTies
import Derived.KernelRfl
namespace Go.Proofs.YtdojgdcbbnekdaaDoor
/- THE CELL 'sum', in the pinned program and in every row, IS THE sha256 OF THE DUMP (.gsa) THAT YtdojgdcbbnekdaaDoorProg.lean LOADS. Nothing in Lean hashes anything: it is a label: what it is worth is what the hold of that sum in a sandbox is worth. -/
noncomputable def Tryd.pinned : Pinned := { name := "ytdojgdcbbnekdaadoor", sum := "b4342cabd1949501180d64058081b5e31dd262931773455abf09f91d0d807c12", checked := Tryd.checked }
namespace Rows
def none {H : Type} : Left H := { results := [], args := [] }

/- WHAT THE LISTED PACKAGE-LEVEL VARIABLES READ AS WHEN THE CALL BEGINS. Each datum BY PROGRAM (the guide's laid-datum.mjs) off the statement by which the dump's own 'gosem.cut.vars' lays the variable. In a bare row this is a premise. The card (YtdojgdcbbnekdaaDoorCards.lean) ties it to the program's text. -/
def laid_errors_errorType {H : Type} : DataW H := .iface "internal/reflectlite.rtype" (.agg [.ptr (.lit (.string [101, 114, 114, 111, 114]))])

/-- 'laws.FnExactExactSplit': WHATEVER THE INPUT: true; the input reads as it did. -/
def fnExactExactSplitSpec : ChangeSpec := { name := "fnExactExactSplit", fn := fun _ => fun
  | [d1, d2, d3] => { results := [.lit (.bool true)], args := [d1, d2, d3] }
  | _ => none }
def fnExactExactSplitRow : OpenClaim := { program := "ytdojgdcbbnekdaadoor", sum := "b4342cabd1949501180d64058081b5e31dd262931773455abf09f91d0d807c12", func := "loop.example/restcovers/laws.FnExactExactSplit", spec := "fnExactExactSplit", inPlace := ["internal/reflectlite.ValueOf", "(internal/reflectlite.Value).Type", "(internal/reflectlite.Value).IsNil", "internal/reflectlite.TypeOf", "(internal/reflectlite.Value).Elem", "(internal/reflectlite.Value).Set"], unfollowed := true, recurses := true, named := ["errors.errorType"], apart := false, laid := [("errors.errorType", laid_errors_errorType)] }
def FnExactExactSplitSaid : Prop := fnExactExactSplitRow.holds Tryd.pinned (OpenSpec.ofChange fnExactExactSplitSpec)

/-- ITS FALSE NEIGHBOUR: 'it returns false'. Refute it at one input. -/
def fnExactExactSplitWrong : ChangeSpec := { name := "fnExactExactSplit", fn := fun _ => fun
  | [d1, d2, d3] => { results := [.lit (.bool false)], args := [d1, d2, d3] }
  | _ => none }
def FnExactExactSplitWrongFalsely : Prop := fnExactExactSplitRow.holds Tryd.pinned (OpenSpec.ofChange fnExactExactSplitWrong)

/-- 'laws.FnExactExactNatural': WHATEVER THE INPUT: true; the input reads as it did. -/
def fnExactExactNaturalSpec : ChangeSpec := { name := "fnExactExactNatural", fn := fun _ => fun
  | [d] => { results := [.lit (.bool true)], args := [d] }
  | _ => none }
def fnExactExactNaturalRow : OpenClaim := { program := "ytdojgdcbbnekdaadoor", sum := "b4342cabd1949501180d64058081b5e31dd262931773455abf09f91d0d807c12", func := "loop.example/restcovers/laws.FnExactExactNatural", spec := "fnExactExactNatural", inPlace := ["internal/reflectlite.ValueOf", "(internal/reflectlite.Value).Type", "(internal/reflectlite.Value).IsNil", "internal/reflectlite.TypeOf", "(internal/reflectlite.Value).Elem", "(internal/reflectlite.Value).Set"], unfollowed := true, recurses := true, named := ["errors.errorType"], apart := false, laid := [("errors.errorType", laid_errors_errorType)] }
def FnExactExactNaturalSaid : Prop := fnExactExactNaturalRow.holds Tryd.pinned (OpenSpec.ofChange fnExactExactNaturalSpec)

/-- ITS FALSE NEIGHBOUR: 'it returns false'. Refute it at one input. -/
def fnExactExactNaturalWrong : ChangeSpec := { name := "fnExactExactNatural", fn := fun _ => fun
  | [d] => { results := [.lit (.bool false)], args := [d] }
  | _ => none }
def FnExactExactNaturalWrongFalsely : Prop := fnExactExactNaturalRow.holds Tryd.pinned (OpenSpec.ofChange fnExactExactNaturalWrong)

/-- 'laws.FnExactExactTwins': WHATEVER THE INPUT: true; the input reads as it did. -/
def fnExactExactTwinsSpec : ChangeSpec := { name := "fnExactExactTwins", fn := fun _ => fun
  | [d] => { results := [.lit (.bool true)], args := [d] }
  | _ => none }
def fnExactExactTwinsRow : OpenClaim := { program := "ytdojgdcbbnekdaadoor", sum := "b4342cabd1949501180d64058081b5e31dd262931773455abf09f91d0d807c12", func := "loop.example/restcovers/laws.FnExactExactTwins", spec := "fnExactExactTwins", inPlace := ["internal/reflectlite.ValueOf", "(internal/reflectlite.Value).Type", "(internal/reflectlite.Value).IsNil", "internal/reflectlite.TypeOf", "(internal/reflectlite.Value).Elem", "(internal/reflectlite.Value).Set"], unfollowed := true, recurses := true, named := ["errors.errorType"], apart := false, laid := [("errors.errorType", laid_errors_errorType)] }
def FnExactExactTwinsSaid : Prop := fnExactExactTwinsRow.holds Tryd.pinned (OpenSpec.ofChange fnExactExactTwinsSpec)

/-- ITS FALSE NEIGHBOUR: 'it returns false'. Refute it at one input. -/
def fnExactExactTwinsWrong : ChangeSpec := { name := "fnExactExactTwins", fn := fun _ => fun
  | [d] => { results := [.lit (.bool false)], args := [d] }
  | _ => none }
def FnExactExactTwinsWrongFalsely : Prop := fnExactExactTwinsRow.holds Tryd.pinned (OpenSpec.ofChange fnExactExactTwinsWrong)

/-- 'laws.FnExactExactSorted': WHATEVER THE INPUT: true; the input reads as it did. -/
def fnExactExactSortedSpec : ChangeSpec := { name := "fnExactExactSorted", fn := fun _ => fun
  | [d] => { results := [.lit (.bool true)], args := [d] }
  | _ => none }
def fnExactExactSortedRow : OpenClaim := { program := "ytdojgdcbbnekdaadoor", sum := "b4342cabd1949501180d64058081b5e31dd262931773455abf09f91d0d807c12", func := "loop.example/restcovers/laws.FnExactExactSorted", spec := "fnExactExactSorted", inPlace := ["internal/reflectlite.ValueOf", "(internal/reflectlite.Value).Type", "(internal/reflectlite.Value).IsNil", "internal/reflectlite.TypeOf", "(internal/reflectlite.Value).Elem", "(internal/reflectlite.Value).Set"], unfollowed := true, recurses := true, named := ["errors.errorType"], apart := false, laid := [("errors.errorType", laid_errors_errorType)] }
def FnExactExactSortedSaid : Prop := fnExactExactSortedRow.holds Tryd.pinned (OpenSpec.ofChange fnExactExactSortedSpec)

/-- ITS FALSE NEIGHBOUR: 'it returns false'. Refute it at one input. -/
def fnExactExactSortedWrong : ChangeSpec := { name := "fnExactExactSorted", fn := fun _ => fun
  | [d] => { results := [.lit (.bool false)], args := [d] }
  | _ => none }
def FnExactExactSortedWrongFalsely : Prop := fnExactExactSortedRow.holds Tryd.pinned (OpenSpec.ofChange fnExactExactSortedWrong)

/-- 'laws.FnExactExactModuli': WHATEVER THE INPUT: true; the input reads as it did. -/
def fnExactExactModuliSpec : ChangeSpec := { name := "fnExactExactModuli", fn := fun _ => fun
  | [d] => { results := [.lit (.bool true)], args := [d] }
  | _ => none }
def fnExactExactModuliRow : OpenClaim := { program := "ytdojgdcbbnekdaadoor", sum := "b4342cabd1949501180d64058081b5e31dd262931773455abf09f91d0d807c12", func := "loop.example/restcovers/laws.FnExactExactModuli", spec := "fnExactExactModuli", inPlace := ["internal/reflectlite.ValueOf", "(internal/reflectlite.Value).Type", "(internal/reflectlite.Value).IsNil", "internal/reflectlite.TypeOf", "(internal/reflectlite.Value).Elem", "(internal/reflectlite.Value).Set"], unfollowed := true, recurses := true, named := ["errors.errorType"], apart := false, laid := [("errors.errorType", laid_errors_errorType)] }
def FnExactExactModuliSaid : Prop := fnExactExactModuliRow.holds Tryd.pinned (OpenSpec.ofChange fnExactExactModuliSpec)

/-- ITS FALSE NEIGHBOUR: 'it returns false'. Refute it at one input. -/
def fnExactExactModuliWrong : ChangeSpec := { name := "fnExactExactModuli", fn := fun _ => fun
  | [d] => { results := [.lit (.bool false)], args := [d] }
  | _ => none }
def FnExactExactModuliWrongFalsely : Prop := fnExactExactModuliRow.holds Tryd.pinned (OpenSpec.ofChange fnExactExactModuliWrong)

/-- 'laws.FnExactExactCount': WHATEVER THE INPUT: true; the input reads as it did. -/
def fnExactExactCountSpec : ChangeSpec := { name := "fnExactExactCount", fn := fun _ => fun
  | [d] => { results := [.lit (.bool true)], args := [d] }
  | _ => none }
def fnExactExactCountRow : OpenClaim := { program := "ytdojgdcbbnekdaadoor", sum := "b4342cabd1949501180d64058081b5e31dd262931773455abf09f91d0d807c12", func := "loop.example/restcovers/laws.FnExactExactCount", spec := "fnExactExactCount", inPlace := ["internal/reflectlite.ValueOf", "(internal/reflectlite.Value).Type", "(internal/reflectlite.Value).IsNil", "internal/reflectlite.TypeOf", "(internal/reflectlite.Value).Elem", "(internal/reflectlite.Value).Set"], unfollowed := true, recurses := true, named := ["errors.errorType"], apart := false, laid := [("errors.errorType", laid_errors_errorType)] }
def FnExactExactCountSaid : Prop := fnExactExactCountRow.holds Tryd.pinned (OpenSpec.ofChange fnExactExactCountSpec)

/-- ITS FALSE NEIGHBOUR: 'it returns false'. Refute it at one input. -/
def fnExactExactCountWrong : ChangeSpec := { name := "fnExactExactCount", fn := fun _ => fun
  | [d] => { results := [.lit (.bool false)], args := [d] }
  | _ => none }
def FnExactExactCountWrongFalsely : Prop := fnExactExactCountRow.holds Tryd.pinned (OpenSpec.ofChange fnExactExactCountWrong)

/- THE SECOND FORM. 'bulk': how many values and letters a reading holds, each counted each time it is reached (what is shared counts as often as it is met; a slice's spare places count too). A statement '..UptoSaid' is the law's where the arguments, and the package variables that the reading takes, are together of bulk at most 1048576: NARROWER than '..Said'. Prove '..Said' where nothing that the law and all that it calls make is longer than what came in: it says more and counts as full. Else prove '..UptoSaid'. A law counts once. -/
mutual
def uptoBulk {H : Type} : DataW H → Nat
  | .lit (.string bytes) => bytes.length + 1
  | .lit _ => 1
  | .nil => 1
  | .ptr d => uptoBulk d + 1
  | .slice elems spare => uptoBulkAll elems + uptoBulkAll spare + 1
  | .agg parts => uptoBulkAll parts + 1
  | .iface _ d => uptoBulk d + 1
  | .map entries => uptoBulkEntries entries + 1
  | .held _ => 1
def uptoBulkAll {H : Type} : List (DataW H) → Nat
  | [] => 0
  | d :: r => uptoBulk d + uptoBulkAll r
def uptoBulkEntries {H : Type} : List (Lit × DataW H) → Nat
  | [] => 0
  | x :: r => uptoBulkEntry x + uptoBulkEntries r
def uptoBulkEntry {H : Type} : Lit × DataW H → Nat
  | (.string bytes, d) => bytes.length + uptoBulk d + 1
  | (_, d) => uptoBulk d + 1
 end
def uptoSmall : (H : Type) → List (DataW H) → Bool := fun _ ds => decide (uptoBulkAll ds ≤ 1048576)
def OpenSpec.upto (s : _root_.Go.ChangeSpec) : _root_.Go.OpenSpec := { _root_.Go.OpenSpec.ofChange s with cond := some uptoSmall }

/-- 'laws.FnExactExactSplit', WHERE WHAT IT READS IS OF BULK AT MOST 1048576: true; the input reads as it did. -/
def fnExactExactSplitUptoRow : OpenClaim := { program := "ytdojgdcbbnekdaadoor", sum := "b4342cabd1949501180d64058081b5e31dd262931773455abf09f91d0d807c12", func := "loop.example/restcovers/laws.FnExactExactSplit", spec := "fnExactExactSplit", inPlace := ["internal/reflectlite.ValueOf", "(internal/reflectlite.Value).Type", "(internal/reflectlite.Value).IsNil", "internal/reflectlite.TypeOf", "(internal/reflectlite.Value).Elem", "(internal/reflectlite.Value).Set"], unfollowed := true, recurses := true, named := ["errors.errorType"], apart := false, laid := [("errors.errorType", laid_errors_errorType)], narrowed := true }
def FnExactExactSplitUptoSaid : Prop := fnExactExactSplitUptoRow.holds Tryd.pinned (OpenSpec.upto fnExactExactSplitSpec)

/-- 'laws.FnExactExactNatural', WHERE WHAT IT READS IS OF BULK AT MOST 1048576: true; the input reads as it did. -/
def fnExactExactNaturalUptoRow : OpenClaim := { program := "ytdojgdcbbnekdaadoor", sum := "b4342cabd1949501180d64058081b5e31dd262931773455abf09f91d0d807c12", func := "loop.example/restcovers/laws.FnExactExactNatural", spec := "fnExactExactNatural", inPlace := ["internal/reflectlite.ValueOf", "(internal/reflectlite.Value).Type", "(internal/reflectlite.Value).IsNil", "internal/reflectlite.TypeOf", "(internal/reflectlite.Value).Elem", "(internal/reflectlite.Value).Set"], unfollowed := true, recurses := true, named := ["errors.errorType"], apart := false, laid := [("errors.errorType", laid_errors_errorType)], narrowed := true }
def FnExactExactNaturalUptoSaid : Prop := fnExactExactNaturalUptoRow.holds Tryd.pinned (OpenSpec.upto fnExactExactNaturalSpec)

/-- 'laws.FnExactExactTwins', WHERE WHAT IT READS IS OF BULK AT MOST 1048576: true; the input reads as it did. -/
def fnExactExactTwinsUptoRow : OpenClaim := { program := "ytdojgdcbbnekdaadoor", sum := "b4342cabd1949501180d64058081b5e31dd262931773455abf09f91d0d807c12", func := "loop.example/restcovers/laws.FnExactExactTwins", spec := "fnExactExactTwins", inPlace := ["internal/reflectlite.ValueOf", "(internal/reflectlite.Value).Type", "(internal/reflectlite.Value).IsNil", "internal/reflectlite.TypeOf", "(internal/reflectlite.Value).Elem", "(internal/reflectlite.Value).Set"], unfollowed := true, recurses := true, named := ["errors.errorType"], apart := false, laid := [("errors.errorType", laid_errors_errorType)], narrowed := true }
def FnExactExactTwinsUptoSaid : Prop := fnExactExactTwinsUptoRow.holds Tryd.pinned (OpenSpec.upto fnExactExactTwinsSpec)

/-- 'laws.FnExactExactSorted', WHERE WHAT IT READS IS OF BULK AT MOST 1048576: true; the input reads as it did. -/
def fnExactExactSortedUptoRow : OpenClaim := { program := "ytdojgdcbbnekdaadoor", sum := "b4342cabd1949501180d64058081b5e31dd262931773455abf09f91d0d807c12", func := "loop.example/restcovers/laws.FnExactExactSorted", spec := "fnExactExactSorted", inPlace := ["internal/reflectlite.ValueOf", "(internal/reflectlite.Value).Type", "(internal/reflectlite.Value).IsNil", "internal/reflectlite.TypeOf", "(internal/reflectlite.Value).Elem", "(internal/reflectlite.Value).Set"], unfollowed := true, recurses := true, named := ["errors.errorType"], apart := false, laid := [("errors.errorType", laid_errors_errorType)], narrowed := true }
def FnExactExactSortedUptoSaid : Prop := fnExactExactSortedUptoRow.holds Tryd.pinned (OpenSpec.upto fnExactExactSortedSpec)

/-- 'laws.FnExactExactModuli', WHERE WHAT IT READS IS OF BULK AT MOST 1048576: true; the input reads as it did. -/
def fnExactExactModuliUptoRow : OpenClaim := { program := "ytdojgdcbbnekdaadoor", sum := "b4342cabd1949501180d64058081b5e31dd262931773455abf09f91d0d807c12", func := "loop.example/restcovers/laws.FnExactExactModuli", spec := "fnExactExactModuli", inPlace := ["internal/reflectlite.ValueOf", "(internal/reflectlite.Value).Type", "(internal/reflectlite.Value).IsNil", "internal/reflectlite.TypeOf", "(internal/reflectlite.Value).Elem", "(internal/reflectlite.Value).Set"], unfollowed := true, recurses := true, named := ["errors.errorType"], apart := false, laid := [("errors.errorType", laid_errors_errorType)], narrowed := true }
def FnExactExactModuliUptoSaid : Prop := fnExactExactModuliUptoRow.holds Tryd.pinned (OpenSpec.upto fnExactExactModuliSpec)

/-- 'laws.FnExactExactCount', WHERE WHAT IT READS IS OF BULK AT MOST 1048576: true; the input reads as it did. -/
def fnExactExactCountUptoRow : OpenClaim := { program := "ytdojgdcbbnekdaadoor", sum := "b4342cabd1949501180d64058081b5e31dd262931773455abf09f91d0d807c12", func := "loop.example/restcovers/laws.FnExactExactCount", spec := "fnExactExactCount", inPlace := ["internal/reflectlite.ValueOf", "(internal/reflectlite.Value).Type", "(internal/reflectlite.Value).IsNil", "internal/reflectlite.TypeOf", "(internal/reflectlite.Value).Elem", "(internal/reflectlite.Value).Set"], unfollowed := true, recurses := true, named := ["errors.errorType"], apart := false, laid := [("errors.errorType", laid_errors_errorType)], narrowed := true }
def FnExactExactCountUptoSaid : Prop := fnExactExactCountUptoRow.holds Tryd.pinned (OpenSpec.upto fnExactExactCountSpec)

end Rows
end Go.Proofs.YtdojgdcbbnekdaaDoor
