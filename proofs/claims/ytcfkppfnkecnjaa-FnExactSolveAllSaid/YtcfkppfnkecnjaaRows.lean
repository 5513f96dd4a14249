/-
  No cell of these rows narrows 'for every input' (looked for: loops, veiled, ifaces, maps, wideKeys, modest, calm, conditions, laid).
  DERIVED. THE GIVEN ROWS OF THIS SEAT. 6 by the template 'for every input the law returns true; each argument reads behind the call as it read before'; 0 by the template 'total and deterministic' (their statements: YtcfkppfnkecnjaaTotals.lean).
  GIVEN WITH THE SEED: the statements are not yours to turn. If you find one false, say at which input.
  Laid BY PROGRAM, IN A SANDBOX (cutbox-rows.mjs): the forced cells as the released guide's own fill.sh prints them over the translation 01d712a0e6b1f1d3… (all of the seat's roots in one cut). By AI agents, Wed Nov 11 2026. No macro, syntax, notation, axiom, sorry.
-/
import Derived.Test.YtcfkppfnkecnjaaChecked
import GoSem.Claim
import GoSem.ClaimJoined
import GoSem.ClaimMapViews
import Derived.JoinedTies
import Derived.KernelRfl
namespace Go.Proofs.Ytcfkppfnkecnjaa
/- THE CELL 'sum', in the pinned program and in every row, IS THE sha256 OF THE DUMP (.gsa) THAT YtcfkppfnkecnjaaProg.lean LOADS. Nothing in Lean hashes anything: it is a label: what it is worth is what the hold of that sum in a sandbox is worth. -/
noncomputable def Try.pinned : Pinned := { name := "ytcfkppfnkecnjaa", sum := "01d712a0e6b1f1d342908a2ba62af5e3083d8ec21a9e8fab7b296e4394c30b89", checked := Try.checked }
namespace Rows
def none {H : Type} : Left H := { results := [], args := [] }

/-- 'laws.FnExactSolveLine': WHATEVER THE INPUT: true; the input reads as it did. -/
def fnExactSolveLineSpec : ChangeSpec := { name := "fnExactSolveLine", fn := fun _ => fun
  | [d1, d2, d3] => { results := [.lit (.bool true)], args := [d1, d2, d3] }
  | _ => none }
def fnExactSolveLineRow : OpenClaim := { program := "ytcfkppfnkecnjaa", sum := "01d712a0e6b1f1d342908a2ba62af5e3083d8ec21a9e8fab7b296e4394c30b89", func := "loop.example/restcovers/laws.FnExactSolveLine", spec := "fnExactSolveLine", apart := false }
def FnExactSolveLineSaid : Prop := fnExactSolveLineRow.holds Try.pinned (OpenSpec.ofChange fnExactSolveLineSpec)

/-- ITS FALSE NEIGHBOUR: 'it returns false'. Refute it at one input. -/
def fnExactSolveLineWrong : ChangeSpec := { name := "fnExactSolveLine", fn := fun _ => fun
  | [d1, d2, d3] => { results := [.lit (.bool false)], args := [d1, d2, d3] }
  | _ => none }
def FnExactSolveLineWrongFalsely : Prop := fnExactSolveLineRow.holds Try.pinned (OpenSpec.ofChange fnExactSolveLineWrong)

/-- 'laws.FnExactSolveAll': WHATEVER THE INPUT: true; the input reads as it did. -/
def fnExactSolveAllSpec : ChangeSpec := { name := "fnExactSolveAll", fn := fun _ => fun
  | [d] => { results := [.lit (.bool true)], args := [d] }
  | _ => none }
def fnExactSolveAllRow : OpenClaim := { program := "ytcfkppfnkecnjaa", sum := "01d712a0e6b1f1d342908a2ba62af5e3083d8ec21a9e8fab7b296e4394c30b89", func := "loop.example/restcovers/laws.FnExactSolveAll", spec := "fnExactSolveAll", unfollowed := true, recurses := true, apart := false }
def FnExactSolveAllSaid : Prop := fnExactSolveAllRow.holds Try.pinned (OpenSpec.ofChange fnExactSolveAllSpec)

/-- ITS FALSE NEIGHBOUR: 'it returns false'. Refute it at one input. -/
def fnExactSolveAllWrong : ChangeSpec := { name := "fnExactSolveAll", fn := fun _ => fun
  | [d] => { results := [.lit (.bool false)], args := [d] }
  | _ => none }
def FnExactSolveAllWrongFalsely : Prop := fnExactSolveAllRow.holds Try.pinned (OpenSpec.ofChange fnExactSolveAllWrong)

/-- 'laws.FnExactSolveBack': WHATEVER THE INPUT: true; the input reads as it did. -/
def fnExactSolveBackSpec : ChangeSpec := { name := "fnExactSolveBack", fn := fun _ => fun
  | [d1, d2] => { results := [.lit (.bool true)], args := [d1, d2] }
  | _ => none }
def fnExactSolveBackRow : OpenClaim := { program := "ytcfkppfnkecnjaa", sum := "01d712a0e6b1f1d342908a2ba62af5e3083d8ec21a9e8fab7b296e4394c30b89", func := "loop.example/restcovers/laws.FnExactSolveBack", spec := "fnExactSolveBack", apart := false }
def FnExactSolveBackSaid : Prop := fnExactSolveBackRow.holds Try.pinned (OpenSpec.ofChange fnExactSolveBackSpec)

/-- ITS FALSE NEIGHBOUR: 'it returns false'. Refute it at one input. -/
def fnExactSolveBackWrong : ChangeSpec := { name := "fnExactSolveBack", fn := fun _ => fun
  | [d1, d2] => { results := [.lit (.bool false)], args := [d1, d2] }
  | _ => none }
def FnExactSolveBackWrongFalsely : Prop := fnExactSolveBackRow.holds Try.pinned (OpenSpec.ofChange fnExactSolveBackWrong)

/-- 'laws.FnExactSolveUnits': WHATEVER THE INPUT: true; the input reads as it did. -/
def fnExactSolveUnitsSpec : ChangeSpec := { name := "fnExactSolveUnits", fn := fun _ => fun
  | [d] => { results := [.lit (.bool true)], args := [d] }
  | _ => none }
def fnExactSolveUnitsRow : OpenClaim := { program := "ytcfkppfnkecnjaa", sum := "01d712a0e6b1f1d342908a2ba62af5e3083d8ec21a9e8fab7b296e4394c30b89", func := "loop.example/restcovers/laws.FnExactSolveUnits", spec := "fnExactSolveUnits", unfollowed := true, recurses := true, apart := false }
def FnExactSolveUnitsSaid : Prop := fnExactSolveUnitsRow.holds Try.pinned (OpenSpec.ofChange fnExactSolveUnitsSpec)

/-- ITS FALSE NEIGHBOUR: 'it returns false'. Refute it at one input. -/
def fnExactSolveUnitsWrong : ChangeSpec := { name := "fnExactSolveUnits", fn := fun _ => fun
  | [d] => { results := [.lit (.bool false)], args := [d] }
  | _ => none }
def FnExactSolveUnitsWrongFalsely : Prop := fnExactSolveUnitsRow.holds Try.pinned (OpenSpec.ofChange fnExactSolveUnitsWrong)

/-- 'laws.FnExactSolveSquares': WHATEVER THE INPUT: true; the input reads as it did. -/
def fnExactSolveSquaresSpec : ChangeSpec := { name := "fnExactSolveSquares", fn := fun _ => fun
  | [d1, d2] => { results := [.lit (.bool true)], args := [d1, d2] }
  | _ => none }
def fnExactSolveSquaresRow : OpenClaim := { program := "ytcfkppfnkecnjaa", sum := "01d712a0e6b1f1d342908a2ba62af5e3083d8ec21a9e8fab7b296e4394c30b89", func := "loop.example/restcovers/laws.FnExactSolveSquares", spec := "fnExactSolveSquares", apart := false }
def FnExactSolveSquaresSaid : Prop := fnExactSolveSquaresRow.holds Try.pinned (OpenSpec.ofChange fnExactSolveSquaresSpec)

/-- ITS FALSE NEIGHBOUR: 'it returns false'. Refute it at one input. -/
def fnExactSolveSquaresWrong : ChangeSpec := { name := "fnExactSolveSquares", fn := fun _ => fun
  | [d1, d2] => { results := [.lit (.bool false)], args := [d1, d2] }
  | _ => none }
def FnExactSolveSquaresWrongFalsely : Prop := fnExactSolveSquaresRow.holds Try.pinned (OpenSpec.ofChange fnExactSolveSquaresWrong)

/-- 'laws.FnExactSolvePower': WHATEVER THE INPUT: true; the input reads as it did. -/
def fnExactSolvePowerSpec : ChangeSpec := { name := "fnExactSolvePower", fn := fun _ => fun
  | [d1, d2, d3] => { results := [.lit (.bool true)], args := [d1, d2, d3] }
  | _ => none }
def fnExactSolvePowerRow : OpenClaim := { program := "ytcfkppfnkecnjaa", sum := "01d712a0e6b1f1d342908a2ba62af5e3083d8ec21a9e8fab7b296e4394c30b89", func := "loop.example/restcovers/laws.FnExactSolvePower", spec := "fnExactSolvePower", apart := false }
def FnExactSolvePowerSaid : Prop := fnExactSolvePowerRow.holds Try.pinned (OpenSpec.ofChange fnExactSolvePowerSpec)

/-- ITS FALSE NEIGHBOUR: 'it returns false'. Refute it at one input. -/
def fnExactSolvePowerWrong : ChangeSpec := { name := "fnExactSolvePower", fn := fun _ => fun
  | [d1, d2, d3] => { results := [.lit (.bool false)], args := [d1, d2, d3] }
  | _ => none }
def FnExactSolvePowerWrongFalsely : Prop := fnExactSolvePowerRow.holds Try.pinned (OpenSpec.ofChange fnExactSolvePowerWrong)

/- THE SECOND FORM. 'bulk': how many values and letters a reading holds, each counted each time it is reached (what is shared counts as often as it is met; a slice's spare places count too). A statement '..UptoSaid' is the law's where the arguments, and the package variables that the reading takes, are together of bulk at most 1048576: NARROWER than '..Said'. Prove '..Said' where nothing that the law and all that it calls make is longer than what came in: it says more and counts as full. Else prove '..UptoSaid'. A law counts once. -/
mutual
def uptoBulk {H : Type} : DataW H → Nat
  | .lit (.string bytes) => bytes.length + 1
  | .lit _ => 1
  | .nil => 1
  | .ptr d => uptoBulk d + 1
  | .slice elems spare => uptoBulkAll elems + uptoBulkAll spare + 1
  | .agg parts => uptoBulkAll parts + 1
  | .iface _ d => uptoBulk d + 1
  | .map entries => uptoBulkEntries entries + 1
  | .held _ => 1
def uptoBulkAll {H : Type} : List (DataW H) → Nat
  | [] => 0
  | d :: r => uptoBulk d + uptoBulkAll r
def uptoBulkEntries {H : Type} : List (Lit × DataW H) → Nat
  | [] => 0
  | x :: r => uptoBulkEntry x + uptoBulkEntries r
def uptoBulkEntry {H : Type} : Lit × DataW H → Nat
  | (.string bytes, d) => bytes.length + uptoBulk d + 1
  | (_, d) => uptoBulk d + 1
 end
def uptoSmall : (H : Type) → List (DataW H) → Bool := fun _ ds => decide (uptoBulkAll ds ≤ 1048576)
def OpenSpec.upto (s : _root_.Go.ChangeSpec) : _root_.Go.OpenSpec := { _root_.Go.OpenSpec.ofChange s with cond := some uptoSmall }

/-- 'laws.FnExactSolveLine', WHERE WHAT IT READS IS OF BULK AT MOST 1048576: true; the input reads as it did. -/
def fnExactSolveLineUptoRow : OpenClaim := { program := "ytcfkppfnkecnjaa", sum := "01d712a0e6b1f1d342908a2ba62af5e3083d8ec21a9e8fab7b296e4394c30b89", func := "loop.example/restcovers/laws.FnExactSolveLine", spec := "fnExactSolveLine", apart := false, narrowed := true }
def FnExactSolveLineUptoSaid : Prop := fnExactSolveLineUptoRow.holds Try.pinned (OpenSpec.upto fnExactSolveLineSpec)

/-- 'laws.FnExactSolveAll', WHERE WHAT IT READS IS OF BULK AT MOST 1048576: true; the input reads as it did. -/
def fnExactSolveAllUptoRow : OpenClaim := { program := "ytcfkppfnkecnjaa", sum := "01d712a0e6b1f1d342908a2ba62af5e3083d8ec21a9e8fab7b296e4394c30b89", func := "loop.example/restcovers/laws.FnExactSolveAll", spec := "fnExactSolveAll", unfollowed := true, recurses := true, apart := false, narrowed := true }
def FnExactSolveAllUptoSaid : Prop := fnExactSolveAllUptoRow.holds Try.pinned (OpenSpec.upto fnExactSolveAllSpec)

/-- 'laws.FnExactSolveBack', WHERE WHAT IT READS IS OF BULK AT MOST 1048576: true; the input reads as it did. -/
def fnExactSolveBackUptoRow : OpenClaim := { program := "ytcfkppfnkecnjaa", sum := "01d712a0e6b1f1d342908a2ba62af5e3083d8ec21a9e8fab7b296e4394c30b89", func := "loop.example/restcovers/laws.FnExactSolveBack", spec := "fnExactSolveBack", apart := false, narrowed := true }
def FnExactSolveBackUptoSaid : Prop := fnExactSolveBackUptoRow.holds Try.pinned (OpenSpec.upto fnExactSolveBackSpec)

/-- 'laws.FnExactSolveUnits', WHERE WHAT IT READS IS OF BULK AT MOST 1048576: true; the input reads as it did. -/
def fnExactSolveUnitsUptoRow : OpenClaim := { program := "ytcfkppfnkecnjaa", sum := "01d712a0e6b1f1d342908a2ba62af5e3083d8ec21a9e8fab7b296e4394c30b89", func := "loop.example/restcovers/laws.FnExactSolveUnits", spec := "fnExactSolveUnits", unfollowed := true, recurses := true, apart := false, narrowed := true }
def FnExactSolveUnitsUptoSaid : Prop := fnExactSolveUnitsUptoRow.holds Try.pinned (OpenSpec.upto fnExactSolveUnitsSpec)

/-- 'laws.FnExactSolveSquares', WHERE WHAT IT READS IS OF BULK AT MOST 1048576: true; the input reads as it did. -/
def fnExactSolveSquaresUptoRow : OpenClaim := { program := "ytcfkppfnkecnjaa", sum := "01d712a0e6b1f1d342908a2ba62af5e3083d8ec21a9e8fab7b296e4394c30b89", func := "loop.example/restcovers/laws.FnExactSolveSquares", spec := "fnExactSolveSquares", apart := false, narrowed := true }
def FnExactSolveSquaresUptoSaid : Prop := fnExactSolveSquaresUptoRow.holds Try.pinned (OpenSpec.upto fnExactSolveSquaresSpec)

/-- 'laws.FnExactSolvePower', WHERE WHAT IT READS IS OF BULK AT MOST 1048576: true; the input reads as it did. -/
def fnExactSolvePowerUptoRow : OpenClaim := { program := "ytcfkppfnkecnjaa", sum := "01d712a0e6b1f1d342908a2ba62af5e3083d8ec21a9e8fab7b296e4394c30b89", func := "loop.example/restcovers/laws.FnExactSolvePower", spec := "fnExactSolvePower", apart := false, narrowed := true }
def FnExactSolvePowerUptoSaid : Prop := fnExactSolvePowerUptoRow.holds Try.pinned (OpenSpec.upto fnExactSolvePowerSpec)

end Rows
end Go.Proofs.Ytcfkppfnkecnjaa
