/-
  No cell of these rows narrows 'for every input' (looked for: loops, veiled, ifaces, maps, wideKeys, modest, calm, conditions, laid).
  DERIVED. THE GIVEN ROWS OF THIS SEAT. 8 by the template 'for every input the law returns true; each argument reads behind the call as it read before'; 0 by the template 'total and deterministic' (their statements: YtfagjhccdbielaaTotals.lean).
  GIVEN WITH THE SEED: the statements are not yours to turn. If you find one false, say at which input.
  Laid BY PROGRAM, IN A SANDBOX (cutbox-rows.mjs): the forced cells as the released guide's own fill.sh prints them over the translation 5bb3dedd63416720… (all of the seat's roots in one cut). By AI agents, Wed Nov 11 2026. No macro, syntax, notation, axiom, sorry.
-/
import Derived.Test.YtfagjhccdbielaaChecked
import GoSem.Claim
import GoSem.ClaimJoined
import GoSem.ClaimMapViews
import Derived.JoinedTies
import Derived.KernelRfl
namespace Go.Proofs.Ytfagjhccdbielaa
/- THE CELL 'sum', in the pinned program and in every row, IS THE sha256 OF THE DUMP (.gsa) THAT YtfagjhccdbielaaProg.lean LOADS. Nothing in Lean hashes anything: it is a label: what it is worth is what the hold of that sum in a sandbox is worth. -/
noncomputable def Try.pinned : Pinned := { name := "ytfagjhccdbielaa", sum := "5bb3dedd634167202db27a41ab2a7a5f977581a9e023ad3d71108a08a07cee4d", checked := Try.checked }
namespace Rows
def none {H : Type} : Left H := { results := [], args := [] }

/-- 'laws.FnHoleFirst': WHATEVER THE INPUT: true; the input reads as it did. -/
def fnHoleFirstSpec : ChangeSpec := { name := "fnHoleFirst", fn := fun _ => fun
  | [d] => { results := [.lit (.bool true)], args := [d] }
  | _ => none }
def fnHoleFirstRow : OpenClaim := { program := "ytfagjhccdbielaa", sum := "5bb3dedd634167202db27a41ab2a7a5f977581a9e023ad3d71108a08a07cee4d", func := "loop.example/restcovers/laws.FnHoleFirst", spec := "fnHoleFirst", unfollowed := true, recurses := true, apart := false }
def FnHoleFirstSaid : Prop := fnHoleFirstRow.holds Try.pinned (OpenSpec.ofChange fnHoleFirstSpec)

/-- ITS FALSE NEIGHBOUR: 'it returns false'. Refute it at one input. -/
def fnHoleFirstWrong : ChangeSpec := { name := "fnHoleFirst", fn := fun _ => fun
  | [d] => { results := [.lit (.bool false)], args := [d] }
  | _ => none }
def FnHoleFirstWrongFalsely : Prop := fnHoleFirstRow.holds Try.pinned (OpenSpec.ofChange fnHoleFirstWrong)

/-- 'laws.FnHoleNone': WHATEVER THE INPUT: true; the input reads as it did. -/
def fnHoleNoneSpec : ChangeSpec := { name := "fnHoleNone", fn := fun _ => fun
  | [d] => { results := [.lit (.bool true)], args := [d] }
  | _ => none }
def fnHoleNoneRow : OpenClaim := { program := "ytfagjhccdbielaa", sum := "5bb3dedd634167202db27a41ab2a7a5f977581a9e023ad3d71108a08a07cee4d", func := "loop.example/restcovers/laws.FnHoleNone", spec := "fnHoleNone", unfollowed := true, recurses := true, apart := false }
def FnHoleNoneSaid : Prop := fnHoleNoneRow.holds Try.pinned (OpenSpec.ofChange fnHoleNoneSpec)

/-- ITS FALSE NEIGHBOUR: 'it returns false'. Refute it at one input. -/
def fnHoleNoneWrong : ChangeSpec := { name := "fnHoleNone", fn := fun _ => fun
  | [d] => { results := [.lit (.bool false)], args := [d] }
  | _ => none }
def FnHoleNoneWrongFalsely : Prop := fnHoleNoneRow.holds Try.pinned (OpenSpec.ofChange fnHoleNoneWrong)

/-- 'laws.FnRun': WHATEVER THE INPUT: true; the input reads as it did. -/
def fnRunSpec : ChangeSpec := { name := "fnRun", fn := fun _ => fun
  | [d] => { results := [.lit (.bool true)], args := [d] }
  | _ => none }
def fnRunRow : OpenClaim := { program := "ytfagjhccdbielaa", sum := "5bb3dedd634167202db27a41ab2a7a5f977581a9e023ad3d71108a08a07cee4d", func := "loop.example/restcovers/laws.FnRun", spec := "fnRun", unfollowed := true, recurses := true, apart := false }
def FnRunSaid : Prop := fnRunRow.holds Try.pinned (OpenSpec.ofChange fnRunSpec)

/-- ITS FALSE NEIGHBOUR: 'it returns false'. Refute it at one input. -/
def fnRunWrong : ChangeSpec := { name := "fnRun", fn := fun _ => fun
  | [d] => { results := [.lit (.bool false)], args := [d] }
  | _ => none }
def FnRunWrongFalsely : Prop := fnRunRow.holds Try.pinned (OpenSpec.ofChange fnRunWrong)

/-- 'laws.FnSpare': WHATEVER THE INPUT: true; the input reads as it did. -/
def fnSpareSpec : ChangeSpec := { name := "fnSpare", fn := fun _ => fun
  | [d] => { results := [.lit (.bool true)], args := [d] }
  | _ => none }
def fnSpareRow : OpenClaim := { program := "ytfagjhccdbielaa", sum := "5bb3dedd634167202db27a41ab2a7a5f977581a9e023ad3d71108a08a07cee4d", func := "loop.example/restcovers/laws.FnSpare", spec := "fnSpare", unfollowed := true, recurses := true, apart := false }
def FnSpareSaid : Prop := fnSpareRow.holds Try.pinned (OpenSpec.ofChange fnSpareSpec)

/-- ITS FALSE NEIGHBOUR: 'it returns false'. Refute it at one input. -/
def fnSpareWrong : ChangeSpec := { name := "fnSpare", fn := fun _ => fun
  | [d] => { results := [.lit (.bool false)], args := [d] }
  | _ => none }
def FnSpareWrongFalsely : Prop := fnSpareRow.holds Try.pinned (OpenSpec.ofChange fnSpareWrong)

/-- 'laws.FnLeast': WHATEVER THE INPUT: true; the input reads as it did. -/
def fnLeastSpec : ChangeSpec := { name := "fnLeast", fn := fun _ => fun
  | [d] => { results := [.lit (.bool true)], args := [d] }
  | _ => none }
def fnLeastRow : OpenClaim := { program := "ytfagjhccdbielaa", sum := "5bb3dedd634167202db27a41ab2a7a5f977581a9e023ad3d71108a08a07cee4d", func := "loop.example/restcovers/laws.FnLeast", spec := "fnLeast", unfollowed := true, recurses := true, apart := false }
def FnLeastSaid : Prop := fnLeastRow.holds Try.pinned (OpenSpec.ofChange fnLeastSpec)

/-- ITS FALSE NEIGHBOUR: 'it returns false'. Refute it at one input. -/
def fnLeastWrong : ChangeSpec := { name := "fnLeast", fn := fun _ => fun
  | [d] => { results := [.lit (.bool false)], args := [d] }
  | _ => none }
def FnLeastWrongFalsely : Prop := fnLeastRow.holds Try.pinned (OpenSpec.ofChange fnLeastWrong)

/-- 'laws.FnFill': WHATEVER THE INPUT: true; the input reads as it did. -/
def fnFillSpec : ChangeSpec := { name := "fnFill", fn := fun _ => fun
  | [d] => { results := [.lit (.bool true)], args := [d] }
  | _ => none }
def fnFillRow : OpenClaim := { program := "ytfagjhccdbielaa", sum := "5bb3dedd634167202db27a41ab2a7a5f977581a9e023ad3d71108a08a07cee4d", func := "loop.example/restcovers/laws.FnFill", spec := "fnFill", unfollowed := true, recurses := true, apart := false }
def FnFillSaid : Prop := fnFillRow.holds Try.pinned (OpenSpec.ofChange fnFillSpec)

/-- ITS FALSE NEIGHBOUR: 'it returns false'. Refute it at one input. -/
def fnFillWrong : ChangeSpec := { name := "fnFill", fn := fun _ => fun
  | [d] => { results := [.lit (.bool false)], args := [d] }
  | _ => none }
def FnFillWrongFalsely : Prop := fnFillRow.holds Try.pinned (OpenSpec.ofChange fnFillWrong)

/-- 'laws.FnWorst': WHATEVER THE INPUT: true; the input reads as it did. -/
def fnWorstSpec : ChangeSpec := { name := "fnWorst", fn := fun _ => fun
  | [d] => { results := [.lit (.bool true)], args := [d] }
  | _ => none }
def fnWorstRow : OpenClaim := { program := "ytfagjhccdbielaa", sum := "5bb3dedd634167202db27a41ab2a7a5f977581a9e023ad3d71108a08a07cee4d", func := "loop.example/restcovers/laws.FnWorst", spec := "fnWorst", unfollowed := true, recurses := true, apart := false }
def FnWorstSaid : Prop := fnWorstRow.holds Try.pinned (OpenSpec.ofChange fnWorstSpec)

/-- ITS FALSE NEIGHBOUR: 'it returns false'. Refute it at one input. -/
def fnWorstWrong : ChangeSpec := { name := "fnWorst", fn := fun _ => fun
  | [d] => { results := [.lit (.bool false)], args := [d] }
  | _ => none }
def FnWorstWrongFalsely : Prop := fnWorstRow.holds Try.pinned (OpenSpec.ofChange fnWorstWrong)

/-- 'laws.FnHoleMeet': WHATEVER THE INPUT: true; the input reads as it did. -/
def fnHoleMeetSpec : ChangeSpec := { name := "fnHoleMeet", fn := fun _ => fun
  | [d] => { results := [.lit (.bool true)], args := [d] }
  | _ => none }
def fnHoleMeetRow : OpenClaim := { program := "ytfagjhccdbielaa", sum := "5bb3dedd634167202db27a41ab2a7a5f977581a9e023ad3d71108a08a07cee4d", func := "loop.example/restcovers/laws.FnHoleMeet", spec := "fnHoleMeet", unfollowed := true, recurses := true, apart := false }
def FnHoleMeetSaid : Prop := fnHoleMeetRow.holds Try.pinned (OpenSpec.ofChange fnHoleMeetSpec)

/-- ITS FALSE NEIGHBOUR: 'it returns false'. Refute it at one input. -/
def fnHoleMeetWrong : ChangeSpec := { name := "fnHoleMeet", fn := fun _ => fun
  | [d] => { results := [.lit (.bool false)], args := [d] }
  | _ => none }
def FnHoleMeetWrongFalsely : Prop := fnHoleMeetRow.holds Try.pinned (OpenSpec.ofChange fnHoleMeetWrong)

/- THE SECOND FORM. 'bulk': how many values and letters a reading holds, each counted each time it is reached (what is shared counts as often as it is met; a slice's spare places count too). A statement '..UptoSaid' is the law's where the arguments, and the package variables that the reading takes, are together of bulk at most 1048576: NARROWER than '..Said'. Prove '..Said' where nothing that the law and all that it calls make is longer than what came in: it says more and counts as full. Else prove '..UptoSaid'. A law counts once. -/
mutual
def uptoBulk {H : Type} : DataW H → Nat
  | .lit (.string bytes) => bytes.length + 1
  | .lit _ => 1
  | .nil => 1
  | .ptr d => uptoBulk d + 1
  | .slice elems spare => uptoBulkAll elems + uptoBulkAll spare + 1
  | .agg parts => uptoBulkAll parts + 1
  | .iface _ d => uptoBulk d + 1
  | .map entries => uptoBulkEntries entries + 1
  | .held _ => 1
def uptoBulkAll {H : Type} : List (DataW H) → Nat
  | [] => 0
  | d :: r => uptoBulk d + uptoBulkAll r
def uptoBulkEntries {H : Type} : List (Lit × DataW H) → Nat
  | [] => 0
  | x :: r => uptoBulkEntry x + uptoBulkEntries r
def uptoBulkEntry {H : Type} : Lit × DataW H → Nat
  | (.string bytes, d) => bytes.length + uptoBulk d + 1
  | (_, d) => uptoBulk d + 1
 end
def uptoSmall : (H : Type) → List (DataW H) → Bool := fun _ ds => decide (uptoBulkAll ds ≤ 1048576)
def OpenSpec.upto (s : _root_.Go.ChangeSpec) : _root_.Go.OpenSpec := { _root_.Go.OpenSpec.ofChange s with cond := some uptoSmall }

/-- 'laws.FnHoleFirst', WHERE WHAT IT READS IS OF BULK AT MOST 1048576: true; the input reads as it did. -/
def fnHoleFirstUptoRow : OpenClaim := { program := "ytfagjhccdbielaa", sum := "5bb3dedd634167202db27a41ab2a7a5f977581a9e023ad3d71108a08a07cee4d", func := "loop.example/restcovers/laws.FnHoleFirst", spec := "fnHoleFirst", unfollowed := true, recurses := true, apart := false, narrowed := true }
def FnHoleFirstUptoSaid : Prop := fnHoleFirstUptoRow.holds Try.pinned (OpenSpec.upto fnHoleFirstSpec)

/-- 'laws.FnHoleNone', WHERE WHAT IT READS IS OF BULK AT MOST 1048576: true; the input reads as it did. -/
def fnHoleNoneUptoRow : OpenClaim := { program := "ytfagjhccdbielaa", sum := "5bb3dedd634167202db27a41ab2a7a5f977581a9e023ad3d71108a08a07cee4d", func := "loop.example/restcovers/laws.FnHoleNone", spec := "fnHoleNone", unfollowed := true, recurses := true, apart := false, narrowed := true }
def FnHoleNoneUptoSaid : Prop := fnHoleNoneUptoRow.holds Try.pinned (OpenSpec.upto fnHoleNoneSpec)

/-- 'laws.FnRun', WHERE WHAT IT READS IS OF BULK AT MOST 1048576: true; the input reads as it did. -/
def fnRunUptoRow : OpenClaim := { program := "ytfagjhccdbielaa", sum := "5bb3dedd634167202db27a41ab2a7a5f977581a9e023ad3d71108a08a07cee4d", func := "loop.example/restcovers/laws.FnRun", spec := "fnRun", unfollowed := true, recurses := true, apart := false, narrowed := true }
def FnRunUptoSaid : Prop := fnRunUptoRow.holds Try.pinned (OpenSpec.upto fnRunSpec)

/-- 'laws.FnSpare', WHERE WHAT IT READS IS OF BULK AT MOST 1048576: true; the input reads as it did. -/
def fnSpareUptoRow : OpenClaim := { program := "ytfagjhccdbielaa", sum := "5bb3dedd634167202db27a41ab2a7a5f977581a9e023ad3d71108a08a07cee4d", func := "loop.example/restcovers/laws.FnSpare", spec := "fnSpare", unfollowed := true, recurses := true, apart := false, narrowed := true }
def FnSpareUptoSaid : Prop := fnSpareUptoRow.holds Try.pinned (OpenSpec.upto fnSpareSpec)

/-- 'laws.FnLeast', WHERE WHAT IT READS IS OF BULK AT MOST 1048576: true; the input reads as it did. -/
def fnLeastUptoRow : OpenClaim := { program := "ytfagjhccdbielaa", sum := "5bb3dedd634167202db27a41ab2a7a5f977581a9e023ad3d71108a08a07cee4d", func := "loop.example/restcovers/laws.FnLeast", spec := "fnLeast", unfollowed := true, recurses := true, apart := false, narrowed := true }
def FnLeastUptoSaid : Prop := fnLeastUptoRow.holds Try.pinned (OpenSpec.upto fnLeastSpec)

/-- 'laws.FnFill', WHERE WHAT IT READS IS OF BULK AT MOST 1048576: true; the input reads as it did. -/
def fnFillUptoRow : OpenClaim := { program := "ytfagjhccdbielaa", sum := "5bb3dedd634167202db27a41ab2a7a5f977581a9e023ad3d71108a08a07cee4d", func := "loop.example/restcovers/laws.FnFill", spec := "fnFill", unfollowed := true, recurses := true, apart := false, narrowed := true }
def FnFillUptoSaid : Prop := fnFillUptoRow.holds Try.pinned (OpenSpec.upto fnFillSpec)

/-- 'laws.FnWorst', WHERE WHAT IT READS IS OF BULK AT MOST 1048576: true; the input reads as it did. -/
def fnWorstUptoRow : OpenClaim := { program := "ytfagjhccdbielaa", sum := "5bb3dedd634167202db27a41ab2a7a5f977581a9e023ad3d71108a08a07cee4d", func := "loop.example/restcovers/laws.FnWorst", spec := "fnWorst", unfollowed := true, recurses := true, apart := false, narrowed := true }
def FnWorstUptoSaid : Prop := fnWorstUptoRow.holds Try.pinned (OpenSpec.upto fnWorstSpec)

/-- 'laws.FnHoleMeet', WHERE WHAT IT READS IS OF BULK AT MOST 1048576: true; the input reads as it did. -/
def fnHoleMeetUptoRow : OpenClaim := { program := "ytfagjhccdbielaa", sum := "5bb3dedd634167202db27a41ab2a7a5f977581a9e023ad3d71108a08a07cee4d", func := "loop.example/restcovers/laws.FnHoleMeet", spec := "fnHoleMeet", unfollowed := true, recurses := true, apart := false, narrowed := true }
def FnHoleMeetUptoSaid : Prop := fnHoleMeetUptoRow.holds Try.pinned (OpenSpec.upto fnHoleMeetSpec)

end Rows
end Go.Proofs.Ytfagjhccdbielaa
