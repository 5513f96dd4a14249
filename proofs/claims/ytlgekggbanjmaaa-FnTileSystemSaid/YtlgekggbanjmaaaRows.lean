/-
  No cell of these rows narrows 'for every input' (looked for: loops, veiled, ifaces, maps, wideKeys, modest, calm, conditions, laid).
  DERIVED. THE GIVEN ROWS OF THIS SEAT. 8 by the template 'for every input the law returns true; each argument reads behind the call as it read before'; 0 by the template 'total and deterministic' (their statements: YtlgekggbanjmaaaTotals.lean).
  GIVEN WITH THE SEED: the statements are not yours to turn. If you find one false, say at which input.
  Laid BY PROGRAM, IN A SANDBOX (cutbox-rows.mjs): the forced cells as the released guide's own fill.sh prints them over the translation e7d05da3d3ac51d6… (all of the seat's roots in one cut). By AI agents, Wed Nov 11 2026. No macro, syntax, notation, axiom, sorry.
-/
import Derived.Test.YtlgekggbanjmaaaChecked
import GoSem.Claim
import GoSem.ClaimJoined
import GoSem.ClaimMapViews
import Derived.JoinedTies
import Derived.KernelRfl
namespace Go.Proofs.Ytlgekggbanjmaaa
/- THE CELL 'sum', in the pinned program and in every row, IS THE sha256 OF THE DUMP (.gsa) THAT YtlgekggbanjmaaaProg.lean LOADS. Nothing in Lean hashes anything: it is a label: what it is worth is what the hold of that sum in a sandbox is worth. -/
noncomputable def Try.pinned : Pinned := { name := "ytlgekggbanjmaaa", sum := "e7d05da3d3ac51d67b8610c69bb6ba8b679a2c1fc3d894010baa2fe3aa398ad3", checked := Try.checked }
namespace Rows
def none {H : Type} : Left H := { results := [], args := [] }

/-- 'laws.FnTile': WHATEVER THE INPUT: true; the input reads as it did. -/
def fnTileSpec : ChangeSpec := { name := "fnTile", fn := fun _ => fun
  | [d] => { results := [.lit (.bool true)], args := [d] }
  | _ => none }
def fnTileRow : OpenClaim := { program := "ytlgekggbanjmaaa", sum := "e7d05da3d3ac51d67b8610c69bb6ba8b679a2c1fc3d894010baa2fe3aa398ad3", func := "loop.example/restcovers/laws.FnTile", spec := "fnTile", unfollowed := true, recurses := true, apart := false }
def FnTileSaid : Prop := fnTileRow.holds Try.pinned (OpenSpec.ofChange fnTileSpec)

/-- ITS FALSE NEIGHBOUR: 'it returns false'. Refute it at one input. -/
def fnTileWrong : ChangeSpec := { name := "fnTile", fn := fun _ => fun
  | [d] => { results := [.lit (.bool false)], args := [d] }
  | _ => none }
def FnTileWrongFalsely : Prop := fnTileRow.holds Try.pinned (OpenSpec.ofChange fnTileWrong)

/-- 'laws.FnBoth': WHATEVER THE INPUT: true; the input reads as it did. -/
def fnBothSpec : ChangeSpec := { name := "fnBoth", fn := fun _ => fun
  | [d] => { results := [.lit (.bool true)], args := [d] }
  | _ => none }
def fnBothRow : OpenClaim := { program := "ytlgekggbanjmaaa", sum := "e7d05da3d3ac51d67b8610c69bb6ba8b679a2c1fc3d894010baa2fe3aa398ad3", func := "loop.example/restcovers/laws.FnBoth", spec := "fnBoth", unfollowed := true, recurses := true, apart := false }
def FnBothSaid : Prop := fnBothRow.holds Try.pinned (OpenSpec.ofChange fnBothSpec)

/-- ITS FALSE NEIGHBOUR: 'it returns false'. Refute it at one input. -/
def fnBothWrong : ChangeSpec := { name := "fnBoth", fn := fun _ => fun
  | [d] => { results := [.lit (.bool false)], args := [d] }
  | _ => none }
def FnBothWrongFalsely : Prop := fnBothRow.holds Try.pinned (OpenSpec.ofChange fnBothWrong)

/-- 'laws.FnTileMoved': WHATEVER THE INPUT: true; the input reads as it did. -/
def fnTileMovedSpec : ChangeSpec := { name := "fnTileMoved", fn := fun _ => fun
  | [d] => { results := [.lit (.bool true)], args := [d] }
  | _ => none }
def fnTileMovedRow : OpenClaim := { program := "ytlgekggbanjmaaa", sum := "e7d05da3d3ac51d67b8610c69bb6ba8b679a2c1fc3d894010baa2fe3aa398ad3", func := "loop.example/restcovers/laws.FnTileMoved", spec := "fnTileMoved", unfollowed := true, recurses := true, apart := false }
def FnTileMovedSaid : Prop := fnTileMovedRow.holds Try.pinned (OpenSpec.ofChange fnTileMovedSpec)

/-- ITS FALSE NEIGHBOUR: 'it returns false'. Refute it at one input. -/
def fnTileMovedWrong : ChangeSpec := { name := "fnTileMoved", fn := fun _ => fun
  | [d] => { results := [.lit (.bool false)], args := [d] }
  | _ => none }
def FnTileMovedWrongFalsely : Prop := fnTileMovedRow.holds Try.pinned (OpenSpec.ofChange fnTileMovedWrong)

/-- 'laws.FnStep': WHATEVER THE INPUT: true; the input reads as it did. -/
def fnStepSpec : ChangeSpec := { name := "fnStep", fn := fun _ => fun
  | [d] => { results := [.lit (.bool true)], args := [d] }
  | _ => none }
def fnStepRow : OpenClaim := { program := "ytlgekggbanjmaaa", sum := "e7d05da3d3ac51d67b8610c69bb6ba8b679a2c1fc3d894010baa2fe3aa398ad3", func := "loop.example/restcovers/laws.FnStep", spec := "fnStep", unfollowed := true, recurses := true, apart := false }
def FnStepSaid : Prop := fnStepRow.holds Try.pinned (OpenSpec.ofChange fnStepSpec)

/-- ITS FALSE NEIGHBOUR: 'it returns false'. Refute it at one input. -/
def fnStepWrong : ChangeSpec := { name := "fnStep", fn := fun _ => fun
  | [d] => { results := [.lit (.bool false)], args := [d] }
  | _ => none }
def FnStepWrongFalsely : Prop := fnStepRow.holds Try.pinned (OpenSpec.ofChange fnStepWrong)

/-- 'laws.FnFind': WHATEVER THE INPUT: true; the input reads as it did. -/
def fnFindSpec : ChangeSpec := { name := "fnFind", fn := fun _ => fun
  | [d] => { results := [.lit (.bool true)], args := [d] }
  | _ => none }
def fnFindRow : OpenClaim := { program := "ytlgekggbanjmaaa", sum := "e7d05da3d3ac51d67b8610c69bb6ba8b679a2c1fc3d894010baa2fe3aa398ad3", func := "loop.example/restcovers/laws.FnFind", spec := "fnFind", unfollowed := true, recurses := true, apart := false }
def FnFindSaid : Prop := fnFindRow.holds Try.pinned (OpenSpec.ofChange fnFindSpec)

/-- ITS FALSE NEIGHBOUR: 'it returns false'. Refute it at one input. -/
def fnFindWrong : ChangeSpec := { name := "fnFind", fn := fun _ => fun
  | [d] => { results := [.lit (.bool false)], args := [d] }
  | _ => none }
def FnFindWrongFalsely : Prop := fnFindRow.holds Try.pinned (OpenSpec.ofChange fnFindWrong)

/-- 'laws.FnTileCount': WHATEVER THE INPUT: true; the input reads as it did. -/
def fnTileCountSpec : ChangeSpec := { name := "fnTileCount", fn := fun _ => fun
  | [d] => { results := [.lit (.bool true)], args := [d] }
  | _ => none }
def fnTileCountRow : OpenClaim := { program := "ytlgekggbanjmaaa", sum := "e7d05da3d3ac51d67b8610c69bb6ba8b679a2c1fc3d894010baa2fe3aa398ad3", func := "loop.example/restcovers/laws.FnTileCount", spec := "fnTileCount", unfollowed := true, recurses := true, apart := false }
def FnTileCountSaid : Prop := fnTileCountRow.holds Try.pinned (OpenSpec.ofChange fnTileCountSpec)

/-- ITS FALSE NEIGHBOUR: 'it returns false'. Refute it at one input. -/
def fnTileCountWrong : ChangeSpec := { name := "fnTileCount", fn := fun _ => fun
  | [d] => { results := [.lit (.bool false)], args := [d] }
  | _ => none }
def FnTileCountWrongFalsely : Prop := fnTileCountRow.holds Try.pinned (OpenSpec.ofChange fnTileCountWrong)

/-- 'laws.FnTileScaled': WHATEVER THE INPUT: true; the input reads as it did. -/
def fnTileScaledSpec : ChangeSpec := { name := "fnTileScaled", fn := fun _ => fun
  | [d] => { results := [.lit (.bool true)], args := [d] }
  | _ => none }
def fnTileScaledRow : OpenClaim := { program := "ytlgekggbanjmaaa", sum := "e7d05da3d3ac51d67b8610c69bb6ba8b679a2c1fc3d894010baa2fe3aa398ad3", func := "loop.example/restcovers/laws.FnTileScaled", spec := "fnTileScaled", unfollowed := true, recurses := true, apart := false }
def FnTileScaledSaid : Prop := fnTileScaledRow.holds Try.pinned (OpenSpec.ofChange fnTileScaledSpec)

/-- ITS FALSE NEIGHBOUR: 'it returns false'. Refute it at one input. -/
def fnTileScaledWrong : ChangeSpec := { name := "fnTileScaled", fn := fun _ => fun
  | [d] => { results := [.lit (.bool false)], args := [d] }
  | _ => none }
def FnTileScaledWrongFalsely : Prop := fnTileScaledRow.holds Try.pinned (OpenSpec.ofChange fnTileScaledWrong)

/-- 'laws.FnTileSystem': WHATEVER THE INPUT: true; the input reads as it did. -/
def fnTileSystemSpec : ChangeSpec := { name := "fnTileSystem", fn := fun _ => fun
  | [d] => { results := [.lit (.bool true)], args := [d] }
  | _ => none }
def fnTileSystemRow : OpenClaim := { program := "ytlgekggbanjmaaa", sum := "e7d05da3d3ac51d67b8610c69bb6ba8b679a2c1fc3d894010baa2fe3aa398ad3", func := "loop.example/restcovers/laws.FnTileSystem", spec := "fnTileSystem", unfollowed := true, recurses := true, apart := false }
def FnTileSystemSaid : Prop := fnTileSystemRow.holds Try.pinned (OpenSpec.ofChange fnTileSystemSpec)

/-- ITS FALSE NEIGHBOUR: 'it returns false'. Refute it at one input. -/
def fnTileSystemWrong : ChangeSpec := { name := "fnTileSystem", fn := fun _ => fun
  | [d] => { results := [.lit (.bool false)], args := [d] }
  | _ => none }
def FnTileSystemWrongFalsely : Prop := fnTileSystemRow.holds Try.pinned (OpenSpec.ofChange fnTileSystemWrong)

/- THE SECOND FORM. 'bulk': how many values and letters a reading holds, each counted each time it is reached (what is shared counts as often as it is met; a slice's spare places count too). A statement '..UptoSaid' is the law's where the arguments, and the package variables that the reading takes, are together of bulk at most 1048576: NARROWER than '..Said'. Prove '..Said' where nothing that the law and all that it calls make is longer than what came in: it says more and counts as full. Else prove '..UptoSaid'. A law counts once. -/
mutual
def uptoBulk {H : Type} : DataW H → Nat
  | .lit (.string bytes) => bytes.length + 1
  | .lit _ => 1
  | .nil => 1
  | .ptr d => uptoBulk d + 1
  | .slice elems spare => uptoBulkAll elems + uptoBulkAll spare + 1
  | .agg parts => uptoBulkAll parts + 1
  | .iface _ d => uptoBulk d + 1
  | .map entries => uptoBulkEntries entries + 1
  | .held _ => 1
def uptoBulkAll {H : Type} : List (DataW H) → Nat
  | [] => 0
  | d :: r => uptoBulk d + uptoBulkAll r
def uptoBulkEntries {H : Type} : List (Lit × DataW H) → Nat
  | [] => 0
  | x :: r => uptoBulkEntry x + uptoBulkEntries r
def uptoBulkEntry {H : Type} : Lit × DataW H → Nat
  | (.string bytes, d) => bytes.length + uptoBulk d + 1
  | (_, d) => uptoBulk d + 1
 end
def uptoSmall : (H : Type) → List (DataW H) → Bool := fun _ ds => decide (uptoBulkAll ds ≤ 1048576)
def OpenSpec.upto (s : _root_.Go.ChangeSpec) : _root_.Go.OpenSpec := { _root_.Go.OpenSpec.ofChange s with cond := some uptoSmall }

/-- 'laws.FnTile', WHERE WHAT IT READS IS OF BULK AT MOST 1048576: true; the input reads as it did. -/
def fnTileUptoRow : OpenClaim := { program := "ytlgekggbanjmaaa", sum := "e7d05da3d3ac51d67b8610c69bb6ba8b679a2c1fc3d894010baa2fe3aa398ad3", func := "loop.example/restcovers/laws.FnTile", spec := "fnTile", unfollowed := true, recurses := true, apart := false, narrowed := true }
def FnTileUptoSaid : Prop := fnTileUptoRow.holds Try.pinned (OpenSpec.upto fnTileSpec)

/-- 'laws.FnBoth', WHERE WHAT IT READS IS OF BULK AT MOST 1048576: true; the input reads as it did. -/
def fnBothUptoRow : OpenClaim := { program := "ytlgekggbanjmaaa", sum := "e7d05da3d3ac51d67b8610c69bb6ba8b679a2c1fc3d894010baa2fe3aa398ad3", func := "loop.example/restcovers/laws.FnBoth", spec := "fnBoth", unfollowed := true, recurses := true, apart := false, narrowed := true }
def FnBothUptoSaid : Prop := fnBothUptoRow.holds Try.pinned (OpenSpec.upto fnBothSpec)

/-- 'laws.FnTileMoved', WHERE WHAT IT READS IS OF BULK AT MOST 1048576: true; the input reads as it did. -/
def fnTileMovedUptoRow : OpenClaim := { program := "ytlgekggbanjmaaa", sum := "e7d05da3d3ac51d67b8610c69bb6ba8b679a2c1fc3d894010baa2fe3aa398ad3", func := "loop.example/restcovers/laws.FnTileMoved", spec := "fnTileMoved", unfollowed := true, recurses := true, apart := false, narrowed := true }
def FnTileMovedUptoSaid : Prop := fnTileMovedUptoRow.holds Try.pinned (OpenSpec.upto fnTileMovedSpec)

/-- 'laws.FnStep', WHERE WHAT IT READS IS OF BULK AT MOST 1048576: true; the input reads as it did. -/
def fnStepUptoRow : OpenClaim := { program := "ytlgekggbanjmaaa", sum := "e7d05da3d3ac51d67b8610c69bb6ba8b679a2c1fc3d894010baa2fe3aa398ad3", func := "loop.example/restcovers/laws.FnStep", spec := "fnStep", unfollowed := true, recurses := true, apart := false, narrowed := true }
def FnStepUptoSaid : Prop := fnStepUptoRow.holds Try.pinned (OpenSpec.upto fnStepSpec)

/-- 'laws.FnFind', WHERE WHAT IT READS IS OF BULK AT MOST 1048576: true; the input reads as it did. -/
def fnFindUptoRow : OpenClaim := { program := "ytlgekggbanjmaaa", sum := "e7d05da3d3ac51d67b8610c69bb6ba8b679a2c1fc3d894010baa2fe3aa398ad3", func := "loop.example/restcovers/laws.FnFind", spec := "fnFind", unfollowed := true, recurses := true, apart := false, narrowed := true }
def FnFindUptoSaid : Prop := fnFindUptoRow.holds Try.pinned (OpenSpec.upto fnFindSpec)

/-- 'laws.FnTileCount', WHERE WHAT IT READS IS OF BULK AT MOST 1048576: true; the input reads as it did. -/
def fnTileCountUptoRow : OpenClaim := { program := "ytlgekggbanjmaaa", sum := "e7d05da3d3ac51d67b8610c69bb6ba8b679a2c1fc3d894010baa2fe3aa398ad3", func := "loop.example/restcovers/laws.FnTileCount", spec := "fnTileCount", unfollowed := true, recurses := true, apart := false, narrowed := true }
def FnTileCountUptoSaid : Prop := fnTileCountUptoRow.holds Try.pinned (OpenSpec.upto fnTileCountSpec)

/-- 'laws.FnTileScaled', WHERE WHAT IT READS IS OF BULK AT MOST 1048576: true; the input reads as it did. -/
def fnTileScaledUptoRow : OpenClaim := { program := "ytlgekggbanjmaaa", sum := "e7d05da3d3ac51d67b8610c69bb6ba8b679a2c1fc3d894010baa2fe3aa398ad3", func := "loop.example/restcovers/laws.FnTileScaled", spec := "fnTileScaled", unfollowed := true, recurses := true, apart := false, narrowed := true }
def FnTileScaledUptoSaid : Prop := fnTileScaledUptoRow.holds Try.pinned (OpenSpec.upto fnTileScaledSpec)

/-- 'laws.FnTileSystem', WHERE WHAT IT READS IS OF BULK AT MOST 1048576: true; the input reads as it did. -/
def fnTileSystemUptoRow : OpenClaim := { program := "ytlgekggbanjmaaa", sum := "e7d05da3d3ac51d67b8610c69bb6ba8b679a2c1fc3d894010baa2fe3aa398ad3", func := "loop.example/restcovers/laws.FnTileSystem", spec := "fnTileSystem", unfollowed := true, recurses := true, apart := false, narrowed := true }
def FnTileSystemUptoSaid : Prop := fnTileSystemUptoRow.holds Try.pinned (OpenSpec.upto fnTileSystemSpec)

end Rows
end Go.Proofs.Ytlgekggbanjmaaa
