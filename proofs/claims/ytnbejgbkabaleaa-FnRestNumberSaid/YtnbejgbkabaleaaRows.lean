/-
  No cell of these rows narrows 'for every input' (looked for: loops, veiled, ifaces, maps, wideKeys, modest, calm, conditions, laid).
  DERIVED. THE GIVEN ROWS OF THIS SEAT. 10 by the template 'for every input the law returns true; each argument reads behind the call as it read before'; 0 by the template 'total and deterministic' (their statements: YtnbejgbkabaleaaTotals.lean).
  GIVEN WITH THE SEED: the statements are not yours to turn. If you find one false, say at which input.
  Laid BY PROGRAM, IN A SANDBOX (cutbox-rows.mjs): the forced cells as the released guide's own fill.sh prints them over the translation 913e131248b3e470… (all of the seat's roots in one cut). By AI agents, Wed Nov 11 2026. No macro, syntax, notation, axiom, sorry.
-/
import Derived.Test.YtnbejgbkabaleaaChecked
import GoSem.Claim
import GoSem.ClaimJoined
import GoSem.ClaimMapViews
import Derived.JoinedTies
import Derived.KernelRfl
namespace Go.Proofs.Ytnbejgbkabaleaa
/- THE CELL 'sum', in the pinned program and in every row, IS THE sha256 OF THE DUMP (.gsa) THAT YtnbejgbkabaleaaProg.lean LOADS. Nothing in Lean hashes anything: it is a label: what it is worth is what the hold of that sum in a sandbox is worth. -/
noncomputable def Try.pinned : Pinned := { name := "ytnbejgbkabaleaa", sum := "913e131248b3e470f1d44da012803ae19b8e04396034e98938ae411eab1c5040", checked := Try.checked }
namespace Rows
def none {H : Type} : Left H := { results := [], args := [] }

/-- 'laws.FnBase': WHATEVER THE INPUT: true; the input reads as it did. -/
def fnBaseSpec : ChangeSpec := { name := "fnBase", fn := fun _ => fun
  | [d] => { results := [.lit (.bool true)], args := [d] }
  | _ => none }
def fnBaseRow : OpenClaim := { program := "ytnbejgbkabaleaa", sum := "913e131248b3e470f1d44da012803ae19b8e04396034e98938ae411eab1c5040", func := "loop.example/restcovers/laws.FnBase", spec := "fnBase", apart := false }
def FnBaseSaid : Prop := fnBaseRow.holds Try.pinned (OpenSpec.ofChange fnBaseSpec)

/-- ITS FALSE NEIGHBOUR: 'it returns false'. Refute it at one input. -/
def fnBaseWrong : ChangeSpec := { name := "fnBase", fn := fun _ => fun
  | [d] => { results := [.lit (.bool false)], args := [d] }
  | _ => none }
def FnBaseWrongFalsely : Prop := fnBaseRow.holds Try.pinned (OpenSpec.ofChange fnBaseWrong)

/-- 'laws.FnSize': WHATEVER THE INPUT: true; the input reads as it did. -/
def fnSizeSpec : ChangeSpec := { name := "fnSize", fn := fun _ => fun
  | [d] => { results := [.lit (.bool true)], args := [d] }
  | _ => none }
def fnSizeRow : OpenClaim := { program := "ytnbejgbkabaleaa", sum := "913e131248b3e470f1d44da012803ae19b8e04396034e98938ae411eab1c5040", func := "loop.example/restcovers/laws.FnSize", spec := "fnSize", apart := false }
def FnSizeSaid : Prop := fnSizeRow.holds Try.pinned (OpenSpec.ofChange fnSizeSpec)

/-- ITS FALSE NEIGHBOUR: 'it returns false'. Refute it at one input. -/
def fnSizeWrong : ChangeSpec := { name := "fnSize", fn := fun _ => fun
  | [d] => { results := [.lit (.bool false)], args := [d] }
  | _ => none }
def FnSizeWrongFalsely : Prop := fnSizeRow.holds Try.pinned (OpenSpec.ofChange fnSizeWrong)

/-- 'laws.FnRestOf': WHATEVER THE INPUT: true; the input reads as it did. -/
def fnRestOfSpec : ChangeSpec := { name := "fnRestOf", fn := fun _ => fun
  | [d] => { results := [.lit (.bool true)], args := [d] }
  | _ => none }
def fnRestOfRow : OpenClaim := { program := "ytnbejgbkabaleaa", sum := "913e131248b3e470f1d44da012803ae19b8e04396034e98938ae411eab1c5040", func := "loop.example/restcovers/laws.FnRestOf", spec := "fnRestOf", apart := false }
def FnRestOfSaid : Prop := fnRestOfRow.holds Try.pinned (OpenSpec.ofChange fnRestOfSpec)

/-- ITS FALSE NEIGHBOUR: 'it returns false'. Refute it at one input. -/
def fnRestOfWrong : ChangeSpec := { name := "fnRestOf", fn := fun _ => fun
  | [d] => { results := [.lit (.bool false)], args := [d] }
  | _ => none }
def FnRestOfWrongFalsely : Prop := fnRestOfRow.holds Try.pinned (OpenSpec.ofChange fnRestOfWrong)

/-- 'laws.FnRestNumber': WHATEVER THE INPUT: true; the input reads as it did. -/
def fnRestNumberSpec : ChangeSpec := { name := "fnRestNumber", fn := fun _ => fun
  | [d] => { results := [.lit (.bool true)], args := [d] }
  | _ => none }
def fnRestNumberRow : OpenClaim := { program := "ytnbejgbkabaleaa", sum := "913e131248b3e470f1d44da012803ae19b8e04396034e98938ae411eab1c5040", func := "loop.example/restcovers/laws.FnRestNumber", spec := "fnRestNumber", apart := false }
def FnRestNumberSaid : Prop := fnRestNumberRow.holds Try.pinned (OpenSpec.ofChange fnRestNumberSpec)

/-- ITS FALSE NEIGHBOUR: 'it returns false'. Refute it at one input. -/
def fnRestNumberWrong : ChangeSpec := { name := "fnRestNumber", fn := fun _ => fun
  | [d] => { results := [.lit (.bool false)], args := [d] }
  | _ => none }
def FnRestNumberWrongFalsely : Prop := fnRestNumberRow.holds Try.pinned (OpenSpec.ofChange fnRestNumberWrong)

/-- 'laws.FnRestAdd': WHATEVER THE INPUT: true; the input reads as it did. -/
def fnRestAddSpec : ChangeSpec := { name := "fnRestAdd", fn := fun _ => fun
  | [d] => { results := [.lit (.bool true)], args := [d] }
  | _ => none }
def fnRestAddRow : OpenClaim := { program := "ytnbejgbkabaleaa", sum := "913e131248b3e470f1d44da012803ae19b8e04396034e98938ae411eab1c5040", func := "loop.example/restcovers/laws.FnRestAdd", spec := "fnRestAdd", apart := false }
def FnRestAddSaid : Prop := fnRestAddRow.holds Try.pinned (OpenSpec.ofChange fnRestAddSpec)

/-- ITS FALSE NEIGHBOUR: 'it returns false'. Refute it at one input. -/
def fnRestAddWrong : ChangeSpec := { name := "fnRestAdd", fn := fun _ => fun
  | [d] => { results := [.lit (.bool false)], args := [d] }
  | _ => none }
def FnRestAddWrongFalsely : Prop := fnRestAddRow.holds Try.pinned (OpenSpec.ofChange fnRestAddWrong)

/-- 'laws.FnRestTimes': WHATEVER THE INPUT: true; the input reads as it did. -/
def fnRestTimesSpec : ChangeSpec := { name := "fnRestTimes", fn := fun _ => fun
  | [d] => { results := [.lit (.bool true)], args := [d] }
  | _ => none }
def fnRestTimesRow : OpenClaim := { program := "ytnbejgbkabaleaa", sum := "913e131248b3e470f1d44da012803ae19b8e04396034e98938ae411eab1c5040", func := "loop.example/restcovers/laws.FnRestTimes", spec := "fnRestTimes", apart := false }
def FnRestTimesSaid : Prop := fnRestTimesRow.holds Try.pinned (OpenSpec.ofChange fnRestTimesSpec)

/-- ITS FALSE NEIGHBOUR: 'it returns false'. Refute it at one input. -/
def fnRestTimesWrong : ChangeSpec := { name := "fnRestTimes", fn := fun _ => fun
  | [d] => { results := [.lit (.bool false)], args := [d] }
  | _ => none }
def FnRestTimesWrongFalsely : Prop := fnRestTimesRow.holds Try.pinned (OpenSpec.ofChange fnRestTimesWrong)

/-- 'laws.FnDigits': WHATEVER THE INPUT: true; the input reads as it did. -/
def fnDigitsSpec : ChangeSpec := { name := "fnDigits", fn := fun _ => fun
  | [d] => { results := [.lit (.bool true)], args := [d] }
  | _ => none }
def fnDigitsRow : OpenClaim := { program := "ytnbejgbkabaleaa", sum := "913e131248b3e470f1d44da012803ae19b8e04396034e98938ae411eab1c5040", func := "loop.example/restcovers/laws.FnDigits", spec := "fnDigits", apart := false }
def FnDigitsSaid : Prop := fnDigitsRow.holds Try.pinned (OpenSpec.ofChange fnDigitsSpec)

/-- ITS FALSE NEIGHBOUR: 'it returns false'. Refute it at one input. -/
def fnDigitsWrong : ChangeSpec := { name := "fnDigits", fn := fun _ => fun
  | [d] => { results := [.lit (.bool false)], args := [d] }
  | _ => none }
def FnDigitsWrongFalsely : Prop := fnDigitsRow.holds Try.pinned (OpenSpec.ofChange fnDigitsWrong)

/-- 'laws.FnLess': WHATEVER THE INPUT: true; the input reads as it did. -/
def fnLessSpec : ChangeSpec := { name := "fnLess", fn := fun _ => fun
  | [d] => { results := [.lit (.bool true)], args := [d] }
  | _ => none }
def fnLessRow : OpenClaim := { program := "ytnbejgbkabaleaa", sum := "913e131248b3e470f1d44da012803ae19b8e04396034e98938ae411eab1c5040", func := "loop.example/restcovers/laws.FnLess", spec := "fnLess", apart := false }
def FnLessSaid : Prop := fnLessRow.holds Try.pinned (OpenSpec.ofChange fnLessSpec)

/-- ITS FALSE NEIGHBOUR: 'it returns false'. Refute it at one input. -/
def fnLessWrong : ChangeSpec := { name := "fnLess", fn := fun _ => fun
  | [d] => { results := [.lit (.bool false)], args := [d] }
  | _ => none }
def FnLessWrongFalsely : Prop := fnLessRow.holds Try.pinned (OpenSpec.ofChange fnLessWrong)

/-- 'laws.FnMore': WHATEVER THE INPUT: true; the input reads as it did. -/
def fnMoreSpec : ChangeSpec := { name := "fnMore", fn := fun _ => fun
  | [d] => { results := [.lit (.bool true)], args := [d] }
  | _ => none }
def fnMoreRow : OpenClaim := { program := "ytnbejgbkabaleaa", sum := "913e131248b3e470f1d44da012803ae19b8e04396034e98938ae411eab1c5040", func := "loop.example/restcovers/laws.FnMore", spec := "fnMore", apart := false }
def FnMoreSaid : Prop := fnMoreRow.holds Try.pinned (OpenSpec.ofChange fnMoreSpec)

/-- ITS FALSE NEIGHBOUR: 'it returns false'. Refute it at one input. -/
def fnMoreWrong : ChangeSpec := { name := "fnMore", fn := fun _ => fun
  | [d] => { results := [.lit (.bool false)], args := [d] }
  | _ => none }
def FnMoreWrongFalsely : Prop := fnMoreRow.holds Try.pinned (OpenSpec.ofChange fnMoreWrong)

/-- 'laws.FnBack': WHATEVER THE INPUT: true; the input reads as it did. -/
def fnBackSpec : ChangeSpec := { name := "fnBack", fn := fun _ => fun
  | [d] => { results := [.lit (.bool true)], args := [d] }
  | _ => none }
def fnBackRow : OpenClaim := { program := "ytnbejgbkabaleaa", sum := "913e131248b3e470f1d44da012803ae19b8e04396034e98938ae411eab1c5040", func := "loop.example/restcovers/laws.FnBack", spec := "fnBack", apart := false }
def FnBackSaid : Prop := fnBackRow.holds Try.pinned (OpenSpec.ofChange fnBackSpec)

/-- ITS FALSE NEIGHBOUR: 'it returns false'. Refute it at one input. -/
def fnBackWrong : ChangeSpec := { name := "fnBack", fn := fun _ => fun
  | [d] => { results := [.lit (.bool false)], args := [d] }
  | _ => none }
def FnBackWrongFalsely : Prop := fnBackRow.holds Try.pinned (OpenSpec.ofChange fnBackWrong)

/- THE SECOND FORM. 'bulk': how many values and letters a reading holds, each counted each time it is reached (what is shared counts as often as it is met; a slice's spare places count too). A statement '..UptoSaid' is the law's where the arguments, and the package variables that the reading takes, are together of bulk at most 1048576: NARROWER than '..Said'. Prove '..Said' where nothing that the law and all that it calls make is longer than what came in: it says more and counts as full. Else prove '..UptoSaid'. A law counts once. -/
mutual
def uptoBulk {H : Type} : DataW H → Nat
  | .lit (.string bytes) => bytes.length + 1
  | .lit _ => 1
  | .nil => 1
  | .ptr d => uptoBulk d + 1
  | .slice elems spare => uptoBulkAll elems + uptoBulkAll spare + 1
  | .agg parts => uptoBulkAll parts + 1
  | .iface _ d => uptoBulk d + 1
  | .map entries => uptoBulkEntries entries + 1
  | .held _ => 1
def uptoBulkAll {H : Type} : List (DataW H) → Nat
  | [] => 0
  | d :: r => uptoBulk d + uptoBulkAll r
def uptoBulkEntries {H : Type} : List (Lit × DataW H) → Nat
  | [] => 0
  | x :: r => uptoBulkEntry x + uptoBulkEntries r
def uptoBulkEntry {H : Type} : Lit × DataW H → Nat
  | (.string bytes, d) => bytes.length + uptoBulk d + 1
  | (_, d) => uptoBulk d + 1
 end
def uptoSmall : (H : Type) → List (DataW H) → Bool := fun _ ds => decide (uptoBulkAll ds ≤ 1048576)
def OpenSpec.upto (s : _root_.Go.ChangeSpec) : _root_.Go.OpenSpec := { _root_.Go.OpenSpec.ofChange s with cond := some uptoSmall }

/-- 'laws.FnBase', WHERE WHAT IT READS IS OF BULK AT MOST 1048576: true; the input reads as it did. -/
def fnBaseUptoRow : OpenClaim := { program := "ytnbejgbkabaleaa", sum := "913e131248b3e470f1d44da012803ae19b8e04396034e98938ae411eab1c5040", func := "loop.example/restcovers/laws.FnBase", spec := "fnBase", apart := false, narrowed := true }
def FnBaseUptoSaid : Prop := fnBaseUptoRow.holds Try.pinned (OpenSpec.upto fnBaseSpec)

/-- 'laws.FnSize', WHERE WHAT IT READS IS OF BULK AT MOST 1048576: true; the input reads as it did. -/
def fnSizeUptoRow : OpenClaim := { program := "ytnbejgbkabaleaa", sum := "913e131248b3e470f1d44da012803ae19b8e04396034e98938ae411eab1c5040", func := "loop.example/restcovers/laws.FnSize", spec := "fnSize", apart := false, narrowed := true }
def FnSizeUptoSaid : Prop := fnSizeUptoRow.holds Try.pinned (OpenSpec.upto fnSizeSpec)

/-- 'laws.FnRestOf', WHERE WHAT IT READS IS OF BULK AT MOST 1048576: true; the input reads as it did. -/
def fnRestOfUptoRow : OpenClaim := { program := "ytnbejgbkabaleaa", sum := "913e131248b3e470f1d44da012803ae19b8e04396034e98938ae411eab1c5040", func := "loop.example/restcovers/laws.FnRestOf", spec := "fnRestOf", apart := false, narrowed := true }
def FnRestOfUptoSaid : Prop := fnRestOfUptoRow.holds Try.pinned (OpenSpec.upto fnRestOfSpec)

/-- 'laws.FnRestNumber', WHERE WHAT IT READS IS OF BULK AT MOST 1048576: true; the input reads as it did. -/
def fnRestNumberUptoRow : OpenClaim := { program := "ytnbejgbkabaleaa", sum := "913e131248b3e470f1d44da012803ae19b8e04396034e98938ae411eab1c5040", func := "loop.example/restcovers/laws.FnRestNumber", spec := "fnRestNumber", apart := false, narrowed := true }
def FnRestNumberUptoSaid : Prop := fnRestNumberUptoRow.holds Try.pinned (OpenSpec.upto fnRestNumberSpec)

/-- 'laws.FnRestAdd', WHERE WHAT IT READS IS OF BULK AT MOST 1048576: true; the input reads as it did. -/
def fnRestAddUptoRow : OpenClaim := { program := "ytnbejgbkabaleaa", sum := "913e131248b3e470f1d44da012803ae19b8e04396034e98938ae411eab1c5040", func := "loop.example/restcovers/laws.FnRestAdd", spec := "fnRestAdd", apart := false, narrowed := true }
def FnRestAddUptoSaid : Prop := fnRestAddUptoRow.holds Try.pinned (OpenSpec.upto fnRestAddSpec)

/-- 'laws.FnRestTimes', WHERE WHAT IT READS IS OF BULK AT MOST 1048576: true; the input reads as it did. -/
def fnRestTimesUptoRow : OpenClaim := { program := "ytnbejgbkabaleaa", sum := "913e131248b3e470f1d44da012803ae19b8e04396034e98938ae411eab1c5040", func := "loop.example/restcovers/laws.FnRestTimes", spec := "fnRestTimes", apart := false, narrowed := true }
def FnRestTimesUptoSaid : Prop := fnRestTimesUptoRow.holds Try.pinned (OpenSpec.upto fnRestTimesSpec)

/-- 'laws.FnDigits', WHERE WHAT IT READS IS OF BULK AT MOST 1048576: true; the input reads as it did. -/
def fnDigitsUptoRow : OpenClaim := { program := "ytnbejgbkabaleaa", sum := "913e131248b3e470f1d44da012803ae19b8e04396034e98938ae411eab1c5040", func := "loop.example/restcovers/laws.FnDigits", spec := "fnDigits", apart := false, narrowed := true }
def FnDigitsUptoSaid : Prop := fnDigitsUptoRow.holds Try.pinned (OpenSpec.upto fnDigitsSpec)

/-- 'laws.FnLess', WHERE WHAT IT READS IS OF BULK AT MOST 1048576: true; the input reads as it did. -/
def fnLessUptoRow : OpenClaim := { program := "ytnbejgbkabaleaa", sum := "913e131248b3e470f1d44da012803ae19b8e04396034e98938ae411eab1c5040", func := "loop.example/restcovers/laws.FnLess", spec := "fnLess", apart := false, narrowed := true }
def FnLessUptoSaid : Prop := fnLessUptoRow.holds Try.pinned (OpenSpec.upto fnLessSpec)

/-- 'laws.FnMore', WHERE WHAT IT READS IS OF BULK AT MOST 1048576: true; the input reads as it did. -/
def fnMoreUptoRow : OpenClaim := { program := "ytnbejgbkabaleaa", sum := "913e131248b3e470f1d44da012803ae19b8e04396034e98938ae411eab1c5040", func := "loop.example/restcovers/laws.FnMore", spec := "fnMore", apart := false, narrowed := true }
def FnMoreUptoSaid : Prop := fnMoreUptoRow.holds Try.pinned (OpenSpec.upto fnMoreSpec)

/-- 'laws.FnBack', WHERE WHAT IT READS IS OF BULK AT MOST 1048576: true; the input reads as it did. -/
def fnBackUptoRow : OpenClaim := { program := "ytnbejgbkabaleaa", sum := "913e131248b3e470f1d44da012803ae19b8e04396034e98938ae411eab1c5040", func := "loop.example/restcovers/laws.FnBack", spec := "fnBack", apart := false, narrowed := true }
def FnBackUptoSaid : Prop := fnBackUptoRow.holds Try.pinned (OpenSpec.upto fnBackSpec)

end Rows
end Go.Proofs.Ytnbejgbkabaleaa
