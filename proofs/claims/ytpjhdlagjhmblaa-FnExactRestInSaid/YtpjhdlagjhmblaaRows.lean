/-
  No cell of these rows narrows 'for every input' (looked for: loops, veiled, ifaces, maps, wideKeys, modest, calm, conditions, laid).
  DERIVED. THE GIVEN ROWS OF THIS SEAT. 10 by the template 'for every input the law returns true; each argument reads behind the call as it read before'; 0 by the template 'total and deterministic' (their statements: YtpjhdlagjhmblaaTotals.lean).
  GIVEN WITH THE SEED: the statements are not yours to turn. If you find one false, say at which input.
  Laid BY PROGRAM, IN A SANDBOX (cutbox-rows.mjs): the forced cells as the released guide's own fill.sh prints them over the translation 9455211355c0a434… (all of the seat's roots in one cut). By AI agents, Wed Nov 11 2026. No macro, syntax, notation, axiom, sorry.
-/
import Derived.Test.YtpjhdlagjhmblaaChecked
import GoSem.Claim
import GoSem.ClaimJoined
import GoSem.ClaimMapViews
import Derived.JoinedTies
import Derived.KernelRfl
namespace Go.Proofs.Ytpjhdlagjhmblaa
/- THE CELL 'sum', in the pinned program and in every row, IS THE sha256 OF THE DUMP (.gsa) THAT YtpjhdlagjhmblaaProg.lean LOADS. Nothing in Lean hashes anything: it is a label: what it is worth is what the hold of that sum in a sandbox is worth. -/
noncomputable def Try.pinned : Pinned := { name := "ytpjhdlagjhmblaa", sum := "9455211355c0a434159ff5f74aadced5dc7cdbca80b83ca851f98a97955011b3", checked := Try.checked }
namespace Rows
def none {H : Type} : Left H := { results := [], args := [] }

/-- 'laws.FnExactRestIn': WHATEVER THE INPUT: true; the input reads as it did. -/
def fnExactRestInSpec : ChangeSpec := { name := "fnExactRestIn", fn := fun _ => fun
  | [d] => { results := [.lit (.bool true)], args := [d] }
  | _ => none }
def fnExactRestInRow : OpenClaim := { program := "ytpjhdlagjhmblaa", sum := "9455211355c0a434159ff5f74aadced5dc7cdbca80b83ca851f98a97955011b3", func := "loop.example/restcovers/laws.FnExactRestIn", spec := "fnExactRestIn", apart := false }
def FnExactRestInSaid : Prop := fnExactRestInRow.holds Try.pinned (OpenSpec.ofChange fnExactRestInSpec)

/-- ITS FALSE NEIGHBOUR: 'it returns false'. Refute it at one input. -/
def fnExactRestInWrong : ChangeSpec := { name := "fnExactRestIn", fn := fun _ => fun
  | [d] => { results := [.lit (.bool false)], args := [d] }
  | _ => none }
def FnExactRestInWrongFalsely : Prop := fnExactRestInRow.holds Try.pinned (OpenSpec.ofChange fnExactRestInWrong)

/-- 'laws.FnExactRestSize': WHATEVER THE INPUT: true; the input reads as it did. -/
def fnExactRestSizeSpec : ChangeSpec := { name := "fnExactRestSize", fn := fun _ => fun
  | [d] => { results := [.lit (.bool true)], args := [d] }
  | _ => none }
def fnExactRestSizeRow : OpenClaim := { program := "ytpjhdlagjhmblaa", sum := "9455211355c0a434159ff5f74aadced5dc7cdbca80b83ca851f98a97955011b3", func := "loop.example/restcovers/laws.FnExactRestSize", spec := "fnExactRestSize", apart := false }
def FnExactRestSizeSaid : Prop := fnExactRestSizeRow.holds Try.pinned (OpenSpec.ofChange fnExactRestSizeSpec)

/-- ITS FALSE NEIGHBOUR: 'it returns false'. Refute it at one input. -/
def fnExactRestSizeWrong : ChangeSpec := { name := "fnExactRestSize", fn := fun _ => fun
  | [d] => { results := [.lit (.bool false)], args := [d] }
  | _ => none }
def FnExactRestSizeWrongFalsely : Prop := fnExactRestSizeRow.holds Try.pinned (OpenSpec.ofChange fnExactRestSizeWrong)

/-- 'laws.FnExactRestOf': WHATEVER THE INPUT: true; the input reads as it did. -/
def fnExactRestOfSpec : ChangeSpec := { name := "fnExactRestOf", fn := fun _ => fun
  | [d1, d2] => { results := [.lit (.bool true)], args := [d1, d2] }
  | _ => none }
def fnExactRestOfRow : OpenClaim := { program := "ytpjhdlagjhmblaa", sum := "9455211355c0a434159ff5f74aadced5dc7cdbca80b83ca851f98a97955011b3", func := "loop.example/restcovers/laws.FnExactRestOf", spec := "fnExactRestOf", apart := false }
def FnExactRestOfSaid : Prop := fnExactRestOfRow.holds Try.pinned (OpenSpec.ofChange fnExactRestOfSpec)

/-- ITS FALSE NEIGHBOUR: 'it returns false'. Refute it at one input. -/
def fnExactRestOfWrong : ChangeSpec := { name := "fnExactRestOf", fn := fun _ => fun
  | [d1, d2] => { results := [.lit (.bool false)], args := [d1, d2] }
  | _ => none }
def FnExactRestOfWrongFalsely : Prop := fnExactRestOfRow.holds Try.pinned (OpenSpec.ofChange fnExactRestOfWrong)

/-- 'laws.FnExactRestDigits': WHATEVER THE INPUT: true; the input reads as it did. -/
def fnExactRestDigitsSpec : ChangeSpec := { name := "fnExactRestDigits", fn := fun _ => fun
  | [d1, d2] => { results := [.lit (.bool true)], args := [d1, d2] }
  | _ => none }
def fnExactRestDigitsRow : OpenClaim := { program := "ytpjhdlagjhmblaa", sum := "9455211355c0a434159ff5f74aadced5dc7cdbca80b83ca851f98a97955011b3", func := "loop.example/restcovers/laws.FnExactRestDigits", spec := "fnExactRestDigits", apart := false }
def FnExactRestDigitsSaid : Prop := fnExactRestDigitsRow.holds Try.pinned (OpenSpec.ofChange fnExactRestDigitsSpec)

/-- ITS FALSE NEIGHBOUR: 'it returns false'. Refute it at one input. -/
def fnExactRestDigitsWrong : ChangeSpec := { name := "fnExactRestDigits", fn := fun _ => fun
  | [d1, d2] => { results := [.lit (.bool false)], args := [d1, d2] }
  | _ => none }
def FnExactRestDigitsWrongFalsely : Prop := fnExactRestDigitsRow.holds Try.pinned (OpenSpec.ofChange fnExactRestDigitsWrong)

/-- 'laws.FnExactRestNumber': WHATEVER THE INPUT: true; the input reads as it did. -/
def fnExactRestNumberSpec : ChangeSpec := { name := "fnExactRestNumber", fn := fun _ => fun
  | [d1, d2] => { results := [.lit (.bool true)], args := [d1, d2] }
  | _ => none }
def fnExactRestNumberRow : OpenClaim := { program := "ytpjhdlagjhmblaa", sum := "9455211355c0a434159ff5f74aadced5dc7cdbca80b83ca851f98a97955011b3", func := "loop.example/restcovers/laws.FnExactRestNumber", spec := "fnExactRestNumber", apart := false }
def FnExactRestNumberSaid : Prop := fnExactRestNumberRow.holds Try.pinned (OpenSpec.ofChange fnExactRestNumberSpec)

/-- ITS FALSE NEIGHBOUR: 'it returns false'. Refute it at one input. -/
def fnExactRestNumberWrong : ChangeSpec := { name := "fnExactRestNumber", fn := fun _ => fun
  | [d1, d2] => { results := [.lit (.bool false)], args := [d1, d2] }
  | _ => none }
def FnExactRestNumberWrongFalsely : Prop := fnExactRestNumberRow.holds Try.pinned (OpenSpec.ofChange fnExactRestNumberWrong)

/-- 'laws.FnExactRestAdd': WHATEVER THE INPUT: true; the input reads as it did. -/
def fnExactRestAddSpec : ChangeSpec := { name := "fnExactRestAdd", fn := fun _ => fun
  | [d1, d2, d3] => { results := [.lit (.bool true)], args := [d1, d2, d3] }
  | _ => none }
def fnExactRestAddRow : OpenClaim := { program := "ytpjhdlagjhmblaa", sum := "9455211355c0a434159ff5f74aadced5dc7cdbca80b83ca851f98a97955011b3", func := "loop.example/restcovers/laws.FnExactRestAdd", spec := "fnExactRestAdd", apart := false }
def FnExactRestAddSaid : Prop := fnExactRestAddRow.holds Try.pinned (OpenSpec.ofChange fnExactRestAddSpec)

/-- ITS FALSE NEIGHBOUR: 'it returns false'. Refute it at one input. -/
def fnExactRestAddWrong : ChangeSpec := { name := "fnExactRestAdd", fn := fun _ => fun
  | [d1, d2, d3] => { results := [.lit (.bool false)], args := [d1, d2, d3] }
  | _ => none }
def FnExactRestAddWrongFalsely : Prop := fnExactRestAddRow.holds Try.pinned (OpenSpec.ofChange fnExactRestAddWrong)

/-- 'laws.FnExactRestTimes': WHATEVER THE INPUT: true; the input reads as it did. -/
def fnExactRestTimesSpec : ChangeSpec := { name := "fnExactRestTimes", fn := fun _ => fun
  | [d1, d2, d3] => { results := [.lit (.bool true)], args := [d1, d2, d3] }
  | _ => none }
def fnExactRestTimesRow : OpenClaim := { program := "ytpjhdlagjhmblaa", sum := "9455211355c0a434159ff5f74aadced5dc7cdbca80b83ca851f98a97955011b3", func := "loop.example/restcovers/laws.FnExactRestTimes", spec := "fnExactRestTimes", apart := false }
def FnExactRestTimesSaid : Prop := fnExactRestTimesRow.holds Try.pinned (OpenSpec.ofChange fnExactRestTimesSpec)

/-- ITS FALSE NEIGHBOUR: 'it returns false'. Refute it at one input. -/
def fnExactRestTimesWrong : ChangeSpec := { name := "fnExactRestTimes", fn := fun _ => fun
  | [d1, d2, d3] => { results := [.lit (.bool false)], args := [d1, d2, d3] }
  | _ => none }
def FnExactRestTimesWrongFalsely : Prop := fnExactRestTimesRow.holds Try.pinned (OpenSpec.ofChange fnExactRestTimesWrong)

/-- 'laws.FnExactRestLess': WHATEVER THE INPUT: true; the input reads as it did. -/
def fnExactRestLessSpec : ChangeSpec := { name := "fnExactRestLess", fn := fun _ => fun
  | [d1, d2, d3] => { results := [.lit (.bool true)], args := [d1, d2, d3] }
  | _ => none }
def fnExactRestLessRow : OpenClaim := { program := "ytpjhdlagjhmblaa", sum := "9455211355c0a434159ff5f74aadced5dc7cdbca80b83ca851f98a97955011b3", func := "loop.example/restcovers/laws.FnExactRestLess", spec := "fnExactRestLess", apart := false }
def FnExactRestLessSaid : Prop := fnExactRestLessRow.holds Try.pinned (OpenSpec.ofChange fnExactRestLessSpec)

/-- ITS FALSE NEIGHBOUR: 'it returns false'. Refute it at one input. -/
def fnExactRestLessWrong : ChangeSpec := { name := "fnExactRestLess", fn := fun _ => fun
  | [d1, d2, d3] => { results := [.lit (.bool false)], args := [d1, d2, d3] }
  | _ => none }
def FnExactRestLessWrongFalsely : Prop := fnExactRestLessRow.holds Try.pinned (OpenSpec.ofChange fnExactRestLessWrong)

/-- 'laws.FnExactRestMore': WHATEVER THE INPUT: true; the input reads as it did. -/
def fnExactRestMoreSpec : ChangeSpec := { name := "fnExactRestMore", fn := fun _ => fun
  | [d1, d2, d3] => { results := [.lit (.bool true)], args := [d1, d2, d3] }
  | _ => none }
def fnExactRestMoreRow : OpenClaim := { program := "ytpjhdlagjhmblaa", sum := "9455211355c0a434159ff5f74aadced5dc7cdbca80b83ca851f98a97955011b3", func := "loop.example/restcovers/laws.FnExactRestMore", spec := "fnExactRestMore", apart := false }
def FnExactRestMoreSaid : Prop := fnExactRestMoreRow.holds Try.pinned (OpenSpec.ofChange fnExactRestMoreSpec)

/-- ITS FALSE NEIGHBOUR: 'it returns false'. Refute it at one input. -/
def fnExactRestMoreWrong : ChangeSpec := { name := "fnExactRestMore", fn := fun _ => fun
  | [d1, d2, d3] => { results := [.lit (.bool false)], args := [d1, d2, d3] }
  | _ => none }
def FnExactRestMoreWrongFalsely : Prop := fnExactRestMoreRow.holds Try.pinned (OpenSpec.ofChange fnExactRestMoreWrong)

/-- 'laws.FnExactRestBack': WHATEVER THE INPUT: true; the input reads as it did. -/
def fnExactRestBackSpec : ChangeSpec := { name := "fnExactRestBack", fn := fun _ => fun
  | [d1, d2] => { results := [.lit (.bool true)], args := [d1, d2] }
  | _ => none }
def fnExactRestBackRow : OpenClaim := { program := "ytpjhdlagjhmblaa", sum := "9455211355c0a434159ff5f74aadced5dc7cdbca80b83ca851f98a97955011b3", func := "loop.example/restcovers/laws.FnExactRestBack", spec := "fnExactRestBack", apart := false }
def FnExactRestBackSaid : Prop := fnExactRestBackRow.holds Try.pinned (OpenSpec.ofChange fnExactRestBackSpec)

/-- ITS FALSE NEIGHBOUR: 'it returns false'. Refute it at one input. -/
def fnExactRestBackWrong : ChangeSpec := { name := "fnExactRestBack", fn := fun _ => fun
  | [d1, d2] => { results := [.lit (.bool false)], args := [d1, d2] }
  | _ => none }
def FnExactRestBackWrongFalsely : Prop := fnExactRestBackRow.holds Try.pinned (OpenSpec.ofChange fnExactRestBackWrong)

/- THE SECOND FORM. 'bulk': how many values and letters a reading holds, each counted each time it is reached (what is shared counts as often as it is met; a slice's spare places count too). A statement '..UptoSaid' is the law's where the arguments, and the package variables that the reading takes, are together of bulk at most 1048576: NARROWER than '..Said'. Prove '..Said' where nothing that the law and all that it calls make is longer than what came in: it says more and counts as full. Else prove '..UptoSaid'. A law counts once. -/
mutual
def uptoBulk {H : Type} : DataW H → Nat
  | .lit (.string bytes) => bytes.length + 1
  | .lit _ => 1
  | .nil => 1
  | .ptr d => uptoBulk d + 1
  | .slice elems spare => uptoBulkAll elems + uptoBulkAll spare + 1
  | .agg parts => uptoBulkAll parts + 1
  | .iface _ d => uptoBulk d + 1
  | .map entries => uptoBulkEntries entries + 1
  | .held _ => 1
def uptoBulkAll {H : Type} : List (DataW H) → Nat
  | [] => 0
  | d :: r => uptoBulk d + uptoBulkAll r
def uptoBulkEntries {H : Type} : List (Lit × DataW H) → Nat
  | [] => 0
  | x :: r => uptoBulkEntry x + uptoBulkEntries r
def uptoBulkEntry {H : Type} : Lit × DataW H → Nat
  | (.string bytes, d) => bytes.length + uptoBulk d + 1
  | (_, d) => uptoBulk d + 1
 end
def uptoSmall : (H : Type) → List (DataW H) → Bool := fun _ ds => decide (uptoBulkAll ds ≤ 1048576)
def OpenSpec.upto (s : _root_.Go.ChangeSpec) : _root_.Go.OpenSpec := { _root_.Go.OpenSpec.ofChange s with cond := some uptoSmall }

/-- 'laws.FnExactRestIn', WHERE WHAT IT READS IS OF BULK AT MOST 1048576: true; the input reads as it did. -/
def fnExactRestInUptoRow : OpenClaim := { program := "ytpjhdlagjhmblaa", sum := "9455211355c0a434159ff5f74aadced5dc7cdbca80b83ca851f98a97955011b3", func := "loop.example/restcovers/laws.FnExactRestIn", spec := "fnExactRestIn", apart := false, narrowed := true }
def FnExactRestInUptoSaid : Prop := fnExactRestInUptoRow.holds Try.pinned (OpenSpec.upto fnExactRestInSpec)

/-- 'laws.FnExactRestSize', WHERE WHAT IT READS IS OF BULK AT MOST 1048576: true; the input reads as it did. -/
def fnExactRestSizeUptoRow : OpenClaim := { program := "ytpjhdlagjhmblaa", sum := "9455211355c0a434159ff5f74aadced5dc7cdbca80b83ca851f98a97955011b3", func := "loop.example/restcovers/laws.FnExactRestSize", spec := "fnExactRestSize", apart := false, narrowed := true }
def FnExactRestSizeUptoSaid : Prop := fnExactRestSizeUptoRow.holds Try.pinned (OpenSpec.upto fnExactRestSizeSpec)

/-- 'laws.FnExactRestOf', WHERE WHAT IT READS IS OF BULK AT MOST 1048576: true; the input reads as it did. -/
def fnExactRestOfUptoRow : OpenClaim := { program := "ytpjhdlagjhmblaa", sum := "9455211355c0a434159ff5f74aadced5dc7cdbca80b83ca851f98a97955011b3", func := "loop.example/restcovers/laws.FnExactRestOf", spec := "fnExactRestOf", apart := false, narrowed := true }
def FnExactRestOfUptoSaid : Prop := fnExactRestOfUptoRow.holds Try.pinned (OpenSpec.upto fnExactRestOfSpec)

/-- 'laws.FnExactRestDigits', WHERE WHAT IT READS IS OF BULK AT MOST 1048576: true; the input reads as it did. -/
def fnExactRestDigitsUptoRow : OpenClaim := { program := "ytpjhdlagjhmblaa", sum := "9455211355c0a434159ff5f74aadced5dc7cdbca80b83ca851f98a97955011b3", func := "loop.example/restcovers/laws.FnExactRestDigits", spec := "fnExactRestDigits", apart := false, narrowed := true }
def FnExactRestDigitsUptoSaid : Prop := fnExactRestDigitsUptoRow.holds Try.pinned (OpenSpec.upto fnExactRestDigitsSpec)

/-- 'laws.FnExactRestNumber', WHERE WHAT IT READS IS OF BULK AT MOST 1048576: true; the input reads as it did. -/
def fnExactRestNumberUptoRow : OpenClaim := { program := "ytpjhdlagjhmblaa", sum := "9455211355c0a434159ff5f74aadced5dc7cdbca80b83ca851f98a97955011b3", func := "loop.example/restcovers/laws.FnExactRestNumber", spec := "fnExactRestNumber", apart := false, narrowed := true }
def FnExactRestNumberUptoSaid : Prop := fnExactRestNumberUptoRow.holds Try.pinned (OpenSpec.upto fnExactRestNumberSpec)

/-- 'laws.FnExactRestAdd', WHERE WHAT IT READS IS OF BULK AT MOST 1048576: true; the input reads as it did. -/
def fnExactRestAddUptoRow : OpenClaim := { program := "ytpjhdlagjhmblaa", sum := "9455211355c0a434159ff5f74aadced5dc7cdbca80b83ca851f98a97955011b3", func := "loop.example/restcovers/laws.FnExactRestAdd", spec := "fnExactRestAdd", apart := false, narrowed := true }
def FnExactRestAddUptoSaid : Prop := fnExactRestAddUptoRow.holds Try.pinned (OpenSpec.upto fnExactRestAddSpec)

/-- 'laws.FnExactRestTimes', WHERE WHAT IT READS IS OF BULK AT MOST 1048576: true; the input reads as it did. -/
def fnExactRestTimesUptoRow : OpenClaim := { program := "ytpjhdlagjhmblaa", sum := "9455211355c0a434159ff5f74aadced5dc7cdbca80b83ca851f98a97955011b3", func := "loop.example/restcovers/laws.FnExactRestTimes", spec := "fnExactRestTimes", apart := false, narrowed := true }
def FnExactRestTimesUptoSaid : Prop := fnExactRestTimesUptoRow.holds Try.pinned (OpenSpec.upto fnExactRestTimesSpec)

/-- 'laws.FnExactRestLess', WHERE WHAT IT READS IS OF BULK AT MOST 1048576: true; the input reads as it did. -/
def fnExactRestLessUptoRow : OpenClaim := { program := "ytpjhdlagjhmblaa", sum := "9455211355c0a434159ff5f74aadced5dc7cdbca80b83ca851f98a97955011b3", func := "loop.example/restcovers/laws.FnExactRestLess", spec := "fnExactRestLess", apart := false, narrowed := true }
def FnExactRestLessUptoSaid : Prop := fnExactRestLessUptoRow.holds Try.pinned (OpenSpec.upto fnExactRestLessSpec)

/-- 'laws.FnExactRestMore', WHERE WHAT IT READS IS OF BULK AT MOST 1048576: true; the input reads as it did. -/
def fnExactRestMoreUptoRow : OpenClaim := { program := "ytpjhdlagjhmblaa", sum := "9455211355c0a434159ff5f74aadced5dc7cdbca80b83ca851f98a97955011b3", func := "loop.example/restcovers/laws.FnExactRestMore", spec := "fnExactRestMore", apart := false, narrowed := true }
def FnExactRestMoreUptoSaid : Prop := fnExactRestMoreUptoRow.holds Try.pinned (OpenSpec.upto fnExactRestMoreSpec)

/-- 'laws.FnExactRestBack', WHERE WHAT IT READS IS OF BULK AT MOST 1048576: true; the input reads as it did. -/
def fnExactRestBackUptoRow : OpenClaim := { program := "ytpjhdlagjhmblaa", sum := "9455211355c0a434159ff5f74aadced5dc7cdbca80b83ca851f98a97955011b3", func := "loop.example/restcovers/laws.FnExactRestBack", spec := "fnExactRestBack", apart := false, narrowed := true }
def FnExactRestBackUptoSaid : Prop := fnExactRestBackUptoRow.holds Try.pinned (OpenSpec.upto fnExactRestBackSpec)

end Rows
end Go.Proofs.Ytpjhdlagjhmblaa
