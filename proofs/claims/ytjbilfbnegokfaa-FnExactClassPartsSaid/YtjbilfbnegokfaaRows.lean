/-
  No cell of these rows narrows 'for every input' (looked for: loops, veiled, ifaces, maps, wideKeys, modest, calm, conditions, laid).
  DERIVED. THE GIVEN ROWS OF THIS SEAT. 8 by the template 'for every input the law returns true; each argument reads behind the call as it read before'; 0 by the template 'total and deterministic' (their statements: YtjbilfbnegokfaaTotals.lean).
  GIVEN WITH THE SEED: the statements are not yours to turn. If you find one false, say at which input.
  Laid BY PROGRAM, IN A SANDBOX (cutbox-rows.mjs): the forced cells as the released guide's own fill.sh prints them over the translation 40180443a80bf92d… (all of the seat's roots in one cut). By AI agents, Wed Nov 11 2026. No macro, syntax, notation, axiom, sorry.
-/
import Derived.Test.YtjbilfbnegokfaaChecked
import GoSem.Claim
import GoSem.ClaimJoined
import GoSem.ClaimMapViews
import Derived.JoinedTies
import Derived.KernelRfl
namespace Go.Proofs.Ytjbilfbnegokfaa
/- THE CELL 'sum', in the pinned program and in every row, IS THE sha256 OF THE DUMP (.gsa) THAT YtjbilfbnegokfaaProg.lean LOADS. Nothing in Lean hashes anything: it is a label: what it is worth is what the hold of that sum in a sandbox is worth. -/
noncomputable def Try.pinned : Pinned := { name := "ytjbilfbnegokfaa", sum := "40180443a80bf92d914a0a73363dff94a24a5cc56cf791cbf25376e0c7046425", checked := Try.checked }
namespace Rows
def none {H : Type} : Left H := { results := [], args := [] }

/-- 'laws.FnExactClassMeet': WHATEVER THE INPUT: true; the input reads as it did. -/
def fnExactClassMeetSpec : ChangeSpec := { name := "fnExactClassMeet", fn := fun _ => fun
  | [d1, d2] => { results := [.lit (.bool true)], args := [d1, d2] }
  | _ => none }
def fnExactClassMeetRow : OpenClaim := { program := "ytjbilfbnegokfaa", sum := "40180443a80bf92d914a0a73363dff94a24a5cc56cf791cbf25376e0c7046425", func := "loop.example/restcovers/laws.FnExactClassMeet", spec := "fnExactClassMeet", unfollowed := true, recurses := true, apart := false }
def FnExactClassMeetSaid : Prop := fnExactClassMeetRow.holds Try.pinned (OpenSpec.ofChange fnExactClassMeetSpec)

/-- ITS FALSE NEIGHBOUR: 'it returns false'. Refute it at one input. -/
def fnExactClassMeetWrong : ChangeSpec := { name := "fnExactClassMeet", fn := fun _ => fun
  | [d1, d2] => { results := [.lit (.bool false)], args := [d1, d2] }
  | _ => none }
def FnExactClassMeetWrongFalsely : Prop := fnExactClassMeetRow.holds Try.pinned (OpenSpec.ofChange fnExactClassMeetWrong)

/-- 'laws.FnExactClassParts': WHATEVER THE INPUT: true; the input reads as it did. -/
def fnExactClassPartsSpec : ChangeSpec := { name := "fnExactClassParts", fn := fun _ => fun
  | [d1, d2] => { results := [.lit (.bool true)], args := [d1, d2] }
  | _ => none }
def fnExactClassPartsRow : OpenClaim := { program := "ytjbilfbnegokfaa", sum := "40180443a80bf92d914a0a73363dff94a24a5cc56cf791cbf25376e0c7046425", func := "loop.example/restcovers/laws.FnExactClassParts", spec := "fnExactClassParts", unfollowed := true, recurses := true, apart := false }
def FnExactClassPartsSaid : Prop := fnExactClassPartsRow.holds Try.pinned (OpenSpec.ofChange fnExactClassPartsSpec)

/-- ITS FALSE NEIGHBOUR: 'it returns false'. Refute it at one input. -/
def fnExactClassPartsWrong : ChangeSpec := { name := "fnExactClassParts", fn := fun _ => fun
  | [d1, d2] => { results := [.lit (.bool false)], args := [d1, d2] }
  | _ => none }
def FnExactClassPartsWrongFalsely : Prop := fnExactClassPartsRow.holds Try.pinned (OpenSpec.ofChange fnExactClassPartsWrong)

/-- 'laws.FnExactSystemIn': WHATEVER THE INPUT: true; the input reads as it did. -/
def fnExactSystemInSpec : ChangeSpec := { name := "fnExactSystemIn", fn := fun _ => fun
  | [d] => { results := [.lit (.bool true)], args := [d] }
  | _ => none }
def fnExactSystemInRow : OpenClaim := { program := "ytjbilfbnegokfaa", sum := "40180443a80bf92d914a0a73363dff94a24a5cc56cf791cbf25376e0c7046425", func := "loop.example/restcovers/laws.FnExactSystemIn", spec := "fnExactSystemIn", apart := false }
def FnExactSystemInSaid : Prop := fnExactSystemInRow.holds Try.pinned (OpenSpec.ofChange fnExactSystemInSpec)

/-- ITS FALSE NEIGHBOUR: 'it returns false'. Refute it at one input. -/
def fnExactSystemInWrong : ChangeSpec := { name := "fnExactSystemIn", fn := fun _ => fun
  | [d] => { results := [.lit (.bool false)], args := [d] }
  | _ => none }
def FnExactSystemInWrongFalsely : Prop := fnExactSystemInRow.holds Try.pinned (OpenSpec.ofChange fnExactSystemInWrong)

/-- 'laws.FnExactSystemPeriod': WHATEVER THE INPUT: true; the input reads as it did. -/
def fnExactSystemPeriodSpec : ChangeSpec := { name := "fnExactSystemPeriod", fn := fun _ => fun
  | [d] => { results := [.lit (.bool true)], args := [d] }
  | _ => none }
def fnExactSystemPeriodRow : OpenClaim := { program := "ytjbilfbnegokfaa", sum := "40180443a80bf92d914a0a73363dff94a24a5cc56cf791cbf25376e0c7046425", func := "loop.example/restcovers/laws.FnExactSystemPeriod", spec := "fnExactSystemPeriod", apart := false }
def FnExactSystemPeriodSaid : Prop := fnExactSystemPeriodRow.holds Try.pinned (OpenSpec.ofChange fnExactSystemPeriodSpec)

/-- ITS FALSE NEIGHBOUR: 'it returns false'. Refute it at one input. -/
def fnExactSystemPeriodWrong : ChangeSpec := { name := "fnExactSystemPeriod", fn := fun _ => fun
  | [d] => { results := [.lit (.bool false)], args := [d] }
  | _ => none }
def FnExactSystemPeriodWrongFalsely : Prop := fnExactSystemPeriodRow.holds Try.pinned (OpenSpec.ofChange fnExactSystemPeriodWrong)

/-- 'laws.FnExactSystemShare': WHATEVER THE INPUT: true; the input reads as it did. -/
def fnExactSystemShareSpec : ChangeSpec := { name := "fnExactSystemShare", fn := fun _ => fun
  | [d] => { results := [.lit (.bool true)], args := [d] }
  | _ => none }
def fnExactSystemShareRow : OpenClaim := { program := "ytjbilfbnegokfaa", sum := "40180443a80bf92d914a0a73363dff94a24a5cc56cf791cbf25376e0c7046425", func := "loop.example/restcovers/laws.FnExactSystemShare", spec := "fnExactSystemShare", apart := false }
def FnExactSystemShareSaid : Prop := fnExactSystemShareRow.holds Try.pinned (OpenSpec.ofChange fnExactSystemShareSpec)

/-- ITS FALSE NEIGHBOUR: 'it returns false'. Refute it at one input. -/
def fnExactSystemShareWrong : ChangeSpec := { name := "fnExactSystemShare", fn := fun _ => fun
  | [d] => { results := [.lit (.bool false)], args := [d] }
  | _ => none }
def FnExactSystemShareWrongFalsely : Prop := fnExactSystemShareRow.holds Try.pinned (OpenSpec.ofChange fnExactSystemShareWrong)

/-- 'laws.FnExactSystemMoved': WHATEVER THE INPUT: true; the input reads as it did. -/
def fnExactSystemMovedSpec : ChangeSpec := { name := "fnExactSystemMoved", fn := fun _ => fun
  | [d1, d2] => { results := [.lit (.bool true)], args := [d1, d2] }
  | _ => none }
def fnExactSystemMovedRow : OpenClaim := { program := "ytjbilfbnegokfaa", sum := "40180443a80bf92d914a0a73363dff94a24a5cc56cf791cbf25376e0c7046425", func := "loop.example/restcovers/laws.FnExactSystemMoved", spec := "fnExactSystemMoved", apart := false }
def FnExactSystemMovedSaid : Prop := fnExactSystemMovedRow.holds Try.pinned (OpenSpec.ofChange fnExactSystemMovedSpec)

/-- ITS FALSE NEIGHBOUR: 'it returns false'. Refute it at one input. -/
def fnExactSystemMovedWrong : ChangeSpec := { name := "fnExactSystemMoved", fn := fun _ => fun
  | [d1, d2] => { results := [.lit (.bool false)], args := [d1, d2] }
  | _ => none }
def FnExactSystemMovedWrongFalsely : Prop := fnExactSystemMovedRow.holds Try.pinned (OpenSpec.ofChange fnExactSystemMovedWrong)

/-- 'laws.FnExactSystemTimes': WHATEVER THE INPUT: true; the input reads as it did. -/
def fnExactSystemTimesSpec : ChangeSpec := { name := "fnExactSystemTimes", fn := fun _ => fun
  | [d] => { results := [.lit (.bool true)], args := [d] }
  | _ => none }
def fnExactSystemTimesRow : OpenClaim := { program := "ytjbilfbnegokfaa", sum := "40180443a80bf92d914a0a73363dff94a24a5cc56cf791cbf25376e0c7046425", func := "loop.example/restcovers/laws.FnExactSystemTimes", spec := "fnExactSystemTimes", unfollowed := true, recurses := true, apart := false }
def FnExactSystemTimesSaid : Prop := fnExactSystemTimesRow.holds Try.pinned (OpenSpec.ofChange fnExactSystemTimesSpec)

/-- ITS FALSE NEIGHBOUR: 'it returns false'. Refute it at one input. -/
def fnExactSystemTimesWrong : ChangeSpec := { name := "fnExactSystemTimes", fn := fun _ => fun
  | [d] => { results := [.lit (.bool false)], args := [d] }
  | _ => none }
def FnExactSystemTimesWrongFalsely : Prop := fnExactSystemTimesRow.holds Try.pinned (OpenSpec.ofChange fnExactSystemTimesWrong)

/-- 'laws.FnExactSystemApart': WHATEVER THE INPUT: true; the input reads as it did. -/
def fnExactSystemApartSpec : ChangeSpec := { name := "fnExactSystemApart", fn := fun _ => fun
  | [d] => { results := [.lit (.bool true)], args := [d] }
  | _ => none }
def fnExactSystemApartRow : OpenClaim := { program := "ytjbilfbnegokfaa", sum := "40180443a80bf92d914a0a73363dff94a24a5cc56cf791cbf25376e0c7046425", func := "loop.example/restcovers/laws.FnExactSystemApart", spec := "fnExactSystemApart", unfollowed := true, recurses := true, apart := false }
def FnExactSystemApartSaid : Prop := fnExactSystemApartRow.holds Try.pinned (OpenSpec.ofChange fnExactSystemApartSpec)

/-- ITS FALSE NEIGHBOUR: 'it returns false'. Refute it at one input. -/
def fnExactSystemApartWrong : ChangeSpec := { name := "fnExactSystemApart", fn := fun _ => fun
  | [d] => { results := [.lit (.bool false)], args := [d] }
  | _ => none }
def FnExactSystemApartWrongFalsely : Prop := fnExactSystemApartRow.holds Try.pinned (OpenSpec.ofChange fnExactSystemApartWrong)

/- THE SECOND FORM. 'bulk': how many values and letters a reading holds, each counted each time it is reached (what is shared counts as often as it is met; a slice's spare places count too). A statement '..UptoSaid' is the law's where the arguments, and the package variables that the reading takes, are together of bulk at most 1048576: NARROWER than '..Said'. Prove '..Said' where nothing that the law and all that it calls make is longer than what came in: it says more and counts as full. Else prove '..UptoSaid'. A law counts once. -/
mutual
def uptoBulk {H : Type} : DataW H → Nat
  | .lit (.string bytes) => bytes.length + 1
  | .lit _ => 1
  | .nil => 1
  | .ptr d => uptoBulk d + 1
  | .slice elems spare => uptoBulkAll elems + uptoBulkAll spare + 1
  | .agg parts => uptoBulkAll parts + 1
  | .iface _ d => uptoBulk d + 1
  | .map entries => uptoBulkEntries entries + 1
  | .held _ => 1
def uptoBulkAll {H : Type} : List (DataW H) → Nat
  | [] => 0
  | d :: r => uptoBulk d + uptoBulkAll r
def uptoBulkEntries {H : Type} : List (Lit × DataW H) → Nat
  | [] => 0
  | x :: r => uptoBulkEntry x + uptoBulkEntries r
def uptoBulkEntry {H : Type} : Lit × DataW H → Nat
  | (.string bytes, d) => bytes.length + uptoBulk d + 1
  | (_, d) => uptoBulk d + 1
 end
def uptoSmall : (H : Type) → List (DataW H) → Bool := fun _ ds => decide (uptoBulkAll ds ≤ 1048576)
def OpenSpec.upto (s : _root_.Go.ChangeSpec) : _root_.Go.OpenSpec := { _root_.Go.OpenSpec.ofChange s with cond := some uptoSmall }

/-- 'laws.FnExactClassMeet', WHERE WHAT IT READS IS OF BULK AT MOST 1048576: true; the input reads as it did. -/
def fnExactClassMeetUptoRow : OpenClaim := { program := "ytjbilfbnegokfaa", sum := "40180443a80bf92d914a0a73363dff94a24a5cc56cf791cbf25376e0c7046425", func := "loop.example/restcovers/laws.FnExactClassMeet", spec := "fnExactClassMeet", unfollowed := true, recurses := true, apart := false, narrowed := true }
def FnExactClassMeetUptoSaid : Prop := fnExactClassMeetUptoRow.holds Try.pinned (OpenSpec.upto fnExactClassMeetSpec)

/-- 'laws.FnExactClassParts', WHERE WHAT IT READS IS OF BULK AT MOST 1048576: true; the input reads as it did. -/
def fnExactClassPartsUptoRow : OpenClaim := { program := "ytjbilfbnegokfaa", sum := "40180443a80bf92d914a0a73363dff94a24a5cc56cf791cbf25376e0c7046425", func := "loop.example/restcovers/laws.FnExactClassParts", spec := "fnExactClassParts", unfollowed := true, recurses := true, apart := false, narrowed := true }
def FnExactClassPartsUptoSaid : Prop := fnExactClassPartsUptoRow.holds Try.pinned (OpenSpec.upto fnExactClassPartsSpec)

/-- 'laws.FnExactSystemIn', WHERE WHAT IT READS IS OF BULK AT MOST 1048576: true; the input reads as it did. -/
def fnExactSystemInUptoRow : OpenClaim := { program := "ytjbilfbnegokfaa", sum := "40180443a80bf92d914a0a73363dff94a24a5cc56cf791cbf25376e0c7046425", func := "loop.example/restcovers/laws.FnExactSystemIn", spec := "fnExactSystemIn", apart := false, narrowed := true }
def FnExactSystemInUptoSaid : Prop := fnExactSystemInUptoRow.holds Try.pinned (OpenSpec.upto fnExactSystemInSpec)

/-- 'laws.FnExactSystemPeriod', WHERE WHAT IT READS IS OF BULK AT MOST 1048576: true; the input reads as it did. -/
def fnExactSystemPeriodUptoRow : OpenClaim := { program := "ytjbilfbnegokfaa", sum := "40180443a80bf92d914a0a73363dff94a24a5cc56cf791cbf25376e0c7046425", func := "loop.example/restcovers/laws.FnExactSystemPeriod", spec := "fnExactSystemPeriod", apart := false, narrowed := true }
def FnExactSystemPeriodUptoSaid : Prop := fnExactSystemPeriodUptoRow.holds Try.pinned (OpenSpec.upto fnExactSystemPeriodSpec)

/-- 'laws.FnExactSystemShare', WHERE WHAT IT READS IS OF BULK AT MOST 1048576: true; the input reads as it did. -/
def fnExactSystemShareUptoRow : OpenClaim := { program := "ytjbilfbnegokfaa", sum := "40180443a80bf92d914a0a73363dff94a24a5cc56cf791cbf25376e0c7046425", func := "loop.example/restcovers/laws.FnExactSystemShare", spec := "fnExactSystemShare", apart := false, narrowed := true }
def FnExactSystemShareUptoSaid : Prop := fnExactSystemShareUptoRow.holds Try.pinned (OpenSpec.upto fnExactSystemShareSpec)

/-- 'laws.FnExactSystemMoved', WHERE WHAT IT READS IS OF BULK AT MOST 1048576: true; the input reads as it did. -/
def fnExactSystemMovedUptoRow : OpenClaim := { program := "ytjbilfbnegokfaa", sum := "40180443a80bf92d914a0a73363dff94a24a5cc56cf791cbf25376e0c7046425", func := "loop.example/restcovers/laws.FnExactSystemMoved", spec := "fnExactSystemMoved", apart := false, narrowed := true }
def FnExactSystemMovedUptoSaid : Prop := fnExactSystemMovedUptoRow.holds Try.pinned (OpenSpec.upto fnExactSystemMovedSpec)

/-- 'laws.FnExactSystemTimes', WHERE WHAT IT READS IS OF BULK AT MOST 1048576: true; the input reads as it did. -/
def fnExactSystemTimesUptoRow : OpenClaim := { program := "ytjbilfbnegokfaa", sum := "40180443a80bf92d914a0a73363dff94a24a5cc56cf791cbf25376e0c7046425", func := "loop.example/restcovers/laws.FnExactSystemTimes", spec := "fnExactSystemTimes", unfollowed := true, recurses := true, apart := false, narrowed := true }
def FnExactSystemTimesUptoSaid : Prop := fnExactSystemTimesUptoRow.holds Try.pinned (OpenSpec.upto fnExactSystemTimesSpec)

/-- 'laws.FnExactSystemApart', WHERE WHAT IT READS IS OF BULK AT MOST 1048576: true; the input reads as it did. -/
def fnExactSystemApartUptoRow : OpenClaim := { program := "ytjbilfbnegokfaa", sum := "40180443a80bf92d914a0a73363dff94a24a5cc56cf791cbf25376e0c7046425", func := "loop.example/restcovers/laws.FnExactSystemApart", spec := "fnExactSystemApart", unfollowed := true, recurses := true, apart := false, narrowed := true }
def FnExactSystemApartUptoSaid : Prop := fnExactSystemApartUptoRow.holds Try.pinned (OpenSpec.upto fnExactSystemApartSpec)

end Rows
end Go.Proofs.Ytjbilfbnegokfaa
