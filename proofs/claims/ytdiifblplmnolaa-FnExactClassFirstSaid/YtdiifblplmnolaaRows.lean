/-
  No cell of these rows narrows 'for every input' (looked for: loops, veiled, ifaces, maps, wideKeys, modest, calm, conditions, laid).
  DERIVED. THE GIVEN ROWS OF THIS SEAT. 8 by the template 'for every input the law returns true; each argument reads behind the call as it read before'; 0 by the template 'total and deterministic' (their statements: YtdiifblplmnolaaTotals.lean).
  GIVEN WITH THE SEED: the statements are not yours to turn. If you find one false, say at which input.
  Laid BY PROGRAM, IN A SANDBOX (cutbox-rows.mjs): the forced cells as the released guide's own fill.sh prints them over the translation 28276511750b51f1… (all of the seat's roots in one cut). By AI agents, Wed Nov 11 2026. No macro, syntax, notation, axiom, sorry.
-/
import Derived.Test.YtdiifblplmnolaaChecked
import GoSem.Claim
import GoSem.ClaimJoined
import GoSem.ClaimMapViews
import Derived.JoinedTies
import Derived.KernelRfl
namespace Go.Proofs.Ytdiifblplmnolaa
/- THE CELL 'sum', in the pinned program and in every row, IS THE sha256 OF THE DUMP (.gsa) THAT YtdiifblplmnolaaProg.lean LOADS. Nothing in Lean hashes anything: it is a label: what it is worth is what the hold of that sum in a sandbox is worth. -/
noncomputable def Try.pinned : Pinned := { name := "ytdiifblplmnolaa", sum := "28276511750b51f167b1ea36368bd726cfd8cf3750ded0cc19b23c78247c8c4d", checked := Try.checked }
namespace Rows
def none {H : Type} : Left H := { results := [], args := [] }

/-- 'laws.FnExactClassIn': WHATEVER THE INPUT: true; the input reads as it did. -/
def fnExactClassInSpec : ChangeSpec := { name := "fnExactClassIn", fn := fun _ => fun
  | [d] => { results := [.lit (.bool true)], args := [d] }
  | _ => none }
def fnExactClassInRow : OpenClaim := { program := "ytdiifblplmnolaa", sum := "28276511750b51f167b1ea36368bd726cfd8cf3750ded0cc19b23c78247c8c4d", func := "loop.example/restcovers/laws.FnExactClassIn", spec := "fnExactClassIn", apart := false }
def FnExactClassInSaid : Prop := fnExactClassInRow.holds Try.pinned (OpenSpec.ofChange fnExactClassInSpec)

/-- ITS FALSE NEIGHBOUR: 'it returns false'. Refute it at one input. -/
def fnExactClassInWrong : ChangeSpec := { name := "fnExactClassIn", fn := fun _ => fun
  | [d] => { results := [.lit (.bool false)], args := [d] }
  | _ => none }
def FnExactClassInWrongFalsely : Prop := fnExactClassInRow.holds Try.pinned (OpenSpec.ofChange fnExactClassInWrong)

/-- 'laws.FnExactClassOf': WHATEVER THE INPUT: true; the input reads as it did. -/
def fnExactClassOfSpec : ChangeSpec := { name := "fnExactClassOf", fn := fun _ => fun
  | [d1, d2] => { results := [.lit (.bool true)], args := [d1, d2] }
  | _ => none }
def fnExactClassOfRow : OpenClaim := { program := "ytdiifblplmnolaa", sum := "28276511750b51f167b1ea36368bd726cfd8cf3750ded0cc19b23c78247c8c4d", func := "loop.example/restcovers/laws.FnExactClassOf", spec := "fnExactClassOf", apart := false }
def FnExactClassOfSaid : Prop := fnExactClassOfRow.holds Try.pinned (OpenSpec.ofChange fnExactClassOfSpec)

/-- ITS FALSE NEIGHBOUR: 'it returns false'. Refute it at one input. -/
def fnExactClassOfWrong : ChangeSpec := { name := "fnExactClassOf", fn := fun _ => fun
  | [d1, d2] => { results := [.lit (.bool false)], args := [d1, d2] }
  | _ => none }
def FnExactClassOfWrongFalsely : Prop := fnExactClassOfRow.holds Try.pinned (OpenSpec.ofChange fnExactClassOfWrong)

/-- 'laws.FnExactClassHas': WHATEVER THE INPUT: true; the input reads as it did. -/
def fnExactClassHasSpec : ChangeSpec := { name := "fnExactClassHas", fn := fun _ => fun
  | [d1, d2] => { results := [.lit (.bool true)], args := [d1, d2] }
  | _ => none }
def fnExactClassHasRow : OpenClaim := { program := "ytdiifblplmnolaa", sum := "28276511750b51f167b1ea36368bd726cfd8cf3750ded0cc19b23c78247c8c4d", func := "loop.example/restcovers/laws.FnExactClassHas", spec := "fnExactClassHas", apart := false }
def FnExactClassHasSaid : Prop := fnExactClassHasRow.holds Try.pinned (OpenSpec.ofChange fnExactClassHasSpec)

/-- ITS FALSE NEIGHBOUR: 'it returns false'. Refute it at one input. -/
def fnExactClassHasWrong : ChangeSpec := { name := "fnExactClassHas", fn := fun _ => fun
  | [d1, d2] => { results := [.lit (.bool false)], args := [d1, d2] }
  | _ => none }
def FnExactClassHasWrongFalsely : Prop := fnExactClassHasRow.holds Try.pinned (OpenSpec.ofChange fnExactClassHasWrong)

/-- 'laws.FnExactClassBelow': WHATEVER THE INPUT: true; the input reads as it did. -/
def fnExactClassBelowSpec : ChangeSpec := { name := "fnExactClassBelow", fn := fun _ => fun
  | [d1, d2] => { results := [.lit (.bool true)], args := [d1, d2] }
  | _ => none }
def fnExactClassBelowRow : OpenClaim := { program := "ytdiifblplmnolaa", sum := "28276511750b51f167b1ea36368bd726cfd8cf3750ded0cc19b23c78247c8c4d", func := "loop.example/restcovers/laws.FnExactClassBelow", spec := "fnExactClassBelow", apart := false }
def FnExactClassBelowSaid : Prop := fnExactClassBelowRow.holds Try.pinned (OpenSpec.ofChange fnExactClassBelowSpec)

/-- ITS FALSE NEIGHBOUR: 'it returns false'. Refute it at one input. -/
def fnExactClassBelowWrong : ChangeSpec := { name := "fnExactClassBelow", fn := fun _ => fun
  | [d1, d2] => { results := [.lit (.bool false)], args := [d1, d2] }
  | _ => none }
def FnExactClassBelowWrongFalsely : Prop := fnExactClassBelowRow.holds Try.pinned (OpenSpec.ofChange fnExactClassBelowWrong)

/-- 'laws.FnExactClassMoved': WHATEVER THE INPUT: true; the input reads as it did. -/
def fnExactClassMovedSpec : ChangeSpec := { name := "fnExactClassMoved", fn := fun _ => fun
  | [d1, d2] => { results := [.lit (.bool true)], args := [d1, d2] }
  | _ => none }
def fnExactClassMovedRow : OpenClaim := { program := "ytdiifblplmnolaa", sum := "28276511750b51f167b1ea36368bd726cfd8cf3750ded0cc19b23c78247c8c4d", func := "loop.example/restcovers/laws.FnExactClassMoved", spec := "fnExactClassMoved", apart := false }
def FnExactClassMovedSaid : Prop := fnExactClassMovedRow.holds Try.pinned (OpenSpec.ofChange fnExactClassMovedSpec)

/-- ITS FALSE NEIGHBOUR: 'it returns false'. Refute it at one input. -/
def fnExactClassMovedWrong : ChangeSpec := { name := "fnExactClassMoved", fn := fun _ => fun
  | [d1, d2] => { results := [.lit (.bool false)], args := [d1, d2] }
  | _ => none }
def FnExactClassMovedWrongFalsely : Prop := fnExactClassMovedRow.holds Try.pinned (OpenSpec.ofChange fnExactClassMovedWrong)

/-- 'laws.FnExactClassScaled': WHATEVER THE INPUT: true; the input reads as it did. -/
def fnExactClassScaledSpec : ChangeSpec := { name := "fnExactClassScaled", fn := fun _ => fun
  | [d1, d2] => { results := [.lit (.bool true)], args := [d1, d2] }
  | _ => none }
def fnExactClassScaledRow : OpenClaim := { program := "ytdiifblplmnolaa", sum := "28276511750b51f167b1ea36368bd726cfd8cf3750ded0cc19b23c78247c8c4d", func := "loop.example/restcovers/laws.FnExactClassScaled", spec := "fnExactClassScaled", apart := false }
def FnExactClassScaledSaid : Prop := fnExactClassScaledRow.holds Try.pinned (OpenSpec.ofChange fnExactClassScaledSpec)

/-- ITS FALSE NEIGHBOUR: 'it returns false'. Refute it at one input. -/
def fnExactClassScaledWrong : ChangeSpec := { name := "fnExactClassScaled", fn := fun _ => fun
  | [d1, d2] => { results := [.lit (.bool false)], args := [d1, d2] }
  | _ => none }
def FnExactClassScaledWrongFalsely : Prop := fnExactClassScaledRow.holds Try.pinned (OpenSpec.ofChange fnExactClassScaledWrong)

/-- 'laws.FnExactClassFirst': WHATEVER THE INPUT: true; the input reads as it did. -/
def fnExactClassFirstSpec : ChangeSpec := { name := "fnExactClassFirst", fn := fun _ => fun
  | [d1, d2] => { results := [.lit (.bool true)], args := [d1, d2] }
  | _ => none }
def fnExactClassFirstRow : OpenClaim := { program := "ytdiifblplmnolaa", sum := "28276511750b51f167b1ea36368bd726cfd8cf3750ded0cc19b23c78247c8c4d", func := "loop.example/restcovers/laws.FnExactClassFirst", spec := "fnExactClassFirst", apart := false }
def FnExactClassFirstSaid : Prop := fnExactClassFirstRow.holds Try.pinned (OpenSpec.ofChange fnExactClassFirstSpec)

/-- ITS FALSE NEIGHBOUR: 'it returns false'. Refute it at one input. -/
def fnExactClassFirstWrong : ChangeSpec := { name := "fnExactClassFirst", fn := fun _ => fun
  | [d1, d2] => { results := [.lit (.bool false)], args := [d1, d2] }
  | _ => none }
def FnExactClassFirstWrongFalsely : Prop := fnExactClassFirstRow.holds Try.pinned (OpenSpec.ofChange fnExactClassFirstWrong)

/-- 'laws.FnExactClassCount': WHATEVER THE INPUT: true; the input reads as it did. -/
def fnExactClassCountSpec : ChangeSpec := { name := "fnExactClassCount", fn := fun _ => fun
  | [d1, d2, d3] => { results := [.lit (.bool true)], args := [d1, d2, d3] }
  | _ => none }
def fnExactClassCountRow : OpenClaim := { program := "ytdiifblplmnolaa", sum := "28276511750b51f167b1ea36368bd726cfd8cf3750ded0cc19b23c78247c8c4d", func := "loop.example/restcovers/laws.FnExactClassCount", spec := "fnExactClassCount", apart := false }
def FnExactClassCountSaid : Prop := fnExactClassCountRow.holds Try.pinned (OpenSpec.ofChange fnExactClassCountSpec)

/-- ITS FALSE NEIGHBOUR: 'it returns false'. Refute it at one input. -/
def fnExactClassCountWrong : ChangeSpec := { name := "fnExactClassCount", fn := fun _ => fun
  | [d1, d2, d3] => { results := [.lit (.bool false)], args := [d1, d2, d3] }
  | _ => none }
def FnExactClassCountWrongFalsely : Prop := fnExactClassCountRow.holds Try.pinned (OpenSpec.ofChange fnExactClassCountWrong)

/- THE SECOND FORM. 'bulk': how many values and letters a reading holds, each counted each time it is reached (what is shared counts as often as it is met; a slice's spare places count too). A statement '..UptoSaid' is the law's where the arguments, and the package variables that the reading takes, are together of bulk at most 1048576: NARROWER than '..Said'. Prove '..Said' where nothing that the law and all that it calls make is longer than what came in: it says more and counts as full. Else prove '..UptoSaid'. A law counts once. -/
mutual
def uptoBulk {H : Type} : DataW H → Nat
  | .lit (.string bytes) => bytes.length + 1
  | .lit _ => 1
  | .nil => 1
  | .ptr d => uptoBulk d + 1
  | .slice elems spare => uptoBulkAll elems + uptoBulkAll spare + 1
  | .agg parts => uptoBulkAll parts + 1
  | .iface _ d => uptoBulk d + 1
  | .map entries => uptoBulkEntries entries + 1
  | .held _ => 1
def uptoBulkAll {H : Type} : List (DataW H) → Nat
  | [] => 0
  | d :: r => uptoBulk d + uptoBulkAll r
def uptoBulkEntries {H : Type} : List (Lit × DataW H) → Nat
  | [] => 0
  | x :: r => uptoBulkEntry x + uptoBulkEntries r
def uptoBulkEntry {H : Type} : Lit × DataW H → Nat
  | (.string bytes, d) => bytes.length + uptoBulk d + 1
  | (_, d) => uptoBulk d + 1
 end
def uptoSmall : (H : Type) → List (DataW H) → Bool := fun _ ds => decide (uptoBulkAll ds ≤ 1048576)
def OpenSpec.upto (s : _root_.Go.ChangeSpec) : _root_.Go.OpenSpec := { _root_.Go.OpenSpec.ofChange s with cond := some uptoSmall }

/-- 'laws.FnExactClassIn', WHERE WHAT IT READS IS OF BULK AT MOST 1048576: true; the input reads as it did. -/
def fnExactClassInUptoRow : OpenClaim := { program := "ytdiifblplmnolaa", sum := "28276511750b51f167b1ea36368bd726cfd8cf3750ded0cc19b23c78247c8c4d", func := "loop.example/restcovers/laws.FnExactClassIn", spec := "fnExactClassIn", apart := false, narrowed := true }
def FnExactClassInUptoSaid : Prop := fnExactClassInUptoRow.holds Try.pinned (OpenSpec.upto fnExactClassInSpec)

/-- 'laws.FnExactClassOf', WHERE WHAT IT READS IS OF BULK AT MOST 1048576: true; the input reads as it did. -/
def fnExactClassOfUptoRow : OpenClaim := { program := "ytdiifblplmnolaa", sum := "28276511750b51f167b1ea36368bd726cfd8cf3750ded0cc19b23c78247c8c4d", func := "loop.example/restcovers/laws.FnExactClassOf", spec := "fnExactClassOf", apart := false, narrowed := true }
def FnExactClassOfUptoSaid : Prop := fnExactClassOfUptoRow.holds Try.pinned (OpenSpec.upto fnExactClassOfSpec)

/-- 'laws.FnExactClassHas', WHERE WHAT IT READS IS OF BULK AT MOST 1048576: true; the input reads as it did. -/
def fnExactClassHasUptoRow : OpenClaim := { program := "ytdiifblplmnolaa", sum := "28276511750b51f167b1ea36368bd726cfd8cf3750ded0cc19b23c78247c8c4d", func := "loop.example/restcovers/laws.FnExactClassHas", spec := "fnExactClassHas", apart := false, narrowed := true }
def FnExactClassHasUptoSaid : Prop := fnExactClassHasUptoRow.holds Try.pinned (OpenSpec.upto fnExactClassHasSpec)

/-- 'laws.FnExactClassBelow', WHERE WHAT IT READS IS OF BULK AT MOST 1048576: true; the input reads as it did. -/
def fnExactClassBelowUptoRow : OpenClaim := { program := "ytdiifblplmnolaa", sum := "28276511750b51f167b1ea36368bd726cfd8cf3750ded0cc19b23c78247c8c4d", func := "loop.example/restcovers/laws.FnExactClassBelow", spec := "fnExactClassBelow", apart := false, narrowed := true }
def FnExactClassBelowUptoSaid : Prop := fnExactClassBelowUptoRow.holds Try.pinned (OpenSpec.upto fnExactClassBelowSpec)

/-- 'laws.FnExactClassMoved', WHERE WHAT IT READS IS OF BULK AT MOST 1048576: true; the input reads as it did. -/
def fnExactClassMovedUptoRow : OpenClaim := { program := "ytdiifblplmnolaa", sum := "28276511750b51f167b1ea36368bd726cfd8cf3750ded0cc19b23c78247c8c4d", func := "loop.example/restcovers/laws.FnExactClassMoved", spec := "fnExactClassMoved", apart := false, narrowed := true }
def FnExactClassMovedUptoSaid : Prop := fnExactClassMovedUptoRow.holds Try.pinned (OpenSpec.upto fnExactClassMovedSpec)

/-- 'laws.FnExactClassScaled', WHERE WHAT IT READS IS OF BULK AT MOST 1048576: true; the input reads as it did. -/
def fnExactClassScaledUptoRow : OpenClaim := { program := "ytdiifblplmnolaa", sum := "28276511750b51f167b1ea36368bd726cfd8cf3750ded0cc19b23c78247c8c4d", func := "loop.example/restcovers/laws.FnExactClassScaled", spec := "fnExactClassScaled", apart := false, narrowed := true }
def FnExactClassScaledUptoSaid : Prop := fnExactClassScaledUptoRow.holds Try.pinned (OpenSpec.upto fnExactClassScaledSpec)

/-- 'laws.FnExactClassFirst', WHERE WHAT IT READS IS OF BULK AT MOST 1048576: true; the input reads as it did. -/
def fnExactClassFirstUptoRow : OpenClaim := { program := "ytdiifblplmnolaa", sum := "28276511750b51f167b1ea36368bd726cfd8cf3750ded0cc19b23c78247c8c4d", func := "loop.example/restcovers/laws.FnExactClassFirst", spec := "fnExactClassFirst", apart := false, narrowed := true }
def FnExactClassFirstUptoSaid : Prop := fnExactClassFirstUptoRow.holds Try.pinned (OpenSpec.upto fnExactClassFirstSpec)

/-- 'laws.FnExactClassCount', WHERE WHAT IT READS IS OF BULK AT MOST 1048576: true; the input reads as it did. -/
def fnExactClassCountUptoRow : OpenClaim := { program := "ytdiifblplmnolaa", sum := "28276511750b51f167b1ea36368bd726cfd8cf3750ded0cc19b23c78247c8c4d", func := "loop.example/restcovers/laws.FnExactClassCount", spec := "fnExactClassCount", apart := false, narrowed := true }
def FnExactClassCountUptoSaid : Prop := fnExactClassCountUptoRow.holds Try.pinned (OpenSpec.upto fnExactClassCountSpec)

end Rows
end Go.Proofs.Ytdiifblplmnolaa
