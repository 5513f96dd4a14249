/-
  No cell of these rows narrows 'for every input' (looked for: loops, veiled, ifaces, maps, wideKeys, modest, calm, conditions, laid).
  DERIVED. THE GIVEN ROWS OF THIS SEAT. 8 by the template 'for every input the law returns true; each argument reads behind the call as it read before'; 0 by the template 'total and deterministic' (their statements: YtlecnpmflihcpaaTotals.lean).
  GIVEN WITH THE SEED: the statements are not yours to turn. If you find one false, say at which input.
  Laid BY PROGRAM, IN A SANDBOX (cutbox-rows.mjs): the forced cells as the released guide's own fill.sh prints them over the translation e7cb9785ba44f200… (all of the seat's roots in one cut). By AI agents, Wed Nov 11 2026. No macro, syntax, notation, axiom, sorry.
-/
import Derived.Test.YtlecnpmflihcpaaChecked
import GoSem.Claim
import GoSem.ClaimJoined
import GoSem.ClaimMapViews
import Derived.JoinedTies
import Derived.KernelRfl
namespace Go.Proofs.Ytlecnpmflihcpaa
/- THE CELL 'sum', in the pinned program and in every row, IS THE sha256 OF THE DUMP (.gsa) THAT YtlecnpmflihcpaaProg.lean LOADS. Nothing in Lean hashes anything: it is a label: what it is worth is what the hold of that sum in a sandbox is worth. -/
noncomputable def Try.pinned : Pinned := { name := "ytlecnpmflihcpaa", sum := "e7cb9785ba44f200c0474e678aa4e2c8a3f72cddc8465f6a4411d75f9b9e1e5e", checked := Try.checked }
namespace Rows
def none {H : Type} : Left H := { results := [], args := [] }

/-- 'laws.FnExactTileIn': WHATEVER THE INPUT: true; the input reads as it did. -/
def fnExactTileInSpec : ChangeSpec := { name := "fnExactTileIn", fn := fun _ => fun
  | [d1, d2] => { results := [.lit (.bool true)], args := [d1, d2] }
  | _ => none }
def fnExactTileInRow : OpenClaim := { program := "ytlecnpmflihcpaa", sum := "e7cb9785ba44f200c0474e678aa4e2c8a3f72cddc8465f6a4411d75f9b9e1e5e", func := "loop.example/restcovers/laws.FnExactTileIn", spec := "fnExactTileIn", apart := false }
def FnExactTileInSaid : Prop := fnExactTileInRow.holds Try.pinned (OpenSpec.ofChange fnExactTileInSpec)

/-- ITS FALSE NEIGHBOUR: 'it returns false'. Refute it at one input. -/
def fnExactTileInWrong : ChangeSpec := { name := "fnExactTileIn", fn := fun _ => fun
  | [d1, d2] => { results := [.lit (.bool false)], args := [d1, d2] }
  | _ => none }
def FnExactTileInWrongFalsely : Prop := fnExactTileInRow.holds Try.pinned (OpenSpec.ofChange fnExactTileInWrong)

/-- 'laws.FnExactTileBoth': WHATEVER THE INPUT: true; the input reads as it did. -/
def fnExactTileBothSpec : ChangeSpec := { name := "fnExactTileBoth", fn := fun _ => fun
  | [d1, d2, d3] => { results := [.lit (.bool true)], args := [d1, d2, d3] }
  | _ => none }
def fnExactTileBothRow : OpenClaim := { program := "ytlecnpmflihcpaa", sum := "e7cb9785ba44f200c0474e678aa4e2c8a3f72cddc8465f6a4411d75f9b9e1e5e", func := "loop.example/restcovers/laws.FnExactTileBoth", spec := "fnExactTileBoth", recurses := true, apart := false }
def FnExactTileBothSaid : Prop := fnExactTileBothRow.holds Try.pinned (OpenSpec.ofChange fnExactTileBothSpec)

/-- ITS FALSE NEIGHBOUR: 'it returns false'. Refute it at one input. -/
def fnExactTileBothWrong : ChangeSpec := { name := "fnExactTileBoth", fn := fun _ => fun
  | [d1, d2, d3] => { results := [.lit (.bool false)], args := [d1, d2, d3] }
  | _ => none }
def FnExactTileBothWrongFalsely : Prop := fnExactTileBothRow.holds Try.pinned (OpenSpec.ofChange fnExactTileBothWrong)

/-- 'laws.FnExactTileMoved': WHATEVER THE INPUT: true; the input reads as it did. -/
def fnExactTileMovedSpec : ChangeSpec := { name := "fnExactTileMoved", fn := fun _ => fun
  | [d1, d2, d3] => { results := [.lit (.bool true)], args := [d1, d2, d3] }
  | _ => none }
def fnExactTileMovedRow : OpenClaim := { program := "ytlecnpmflihcpaa", sum := "e7cb9785ba44f200c0474e678aa4e2c8a3f72cddc8465f6a4411d75f9b9e1e5e", func := "loop.example/restcovers/laws.FnExactTileMoved", spec := "fnExactTileMoved", unfollowed := true, recurses := true, apart := false }
def FnExactTileMovedSaid : Prop := fnExactTileMovedRow.holds Try.pinned (OpenSpec.ofChange fnExactTileMovedSpec)

/-- ITS FALSE NEIGHBOUR: 'it returns false'. Refute it at one input. -/
def fnExactTileMovedWrong : ChangeSpec := { name := "fnExactTileMoved", fn := fun _ => fun
  | [d1, d2, d3] => { results := [.lit (.bool false)], args := [d1, d2, d3] }
  | _ => none }
def FnExactTileMovedWrongFalsely : Prop := fnExactTileMovedRow.holds Try.pinned (OpenSpec.ofChange fnExactTileMovedWrong)

/-- 'laws.FnExactTileStep': WHATEVER THE INPUT: true; the input reads as it did. -/
def fnExactTileStepSpec : ChangeSpec := { name := "fnExactTileStep", fn := fun _ => fun
  | [d1, d2] => { results := [.lit (.bool true)], args := [d1, d2] }
  | _ => none }
def fnExactTileStepRow : OpenClaim := { program := "ytlecnpmflihcpaa", sum := "e7cb9785ba44f200c0474e678aa4e2c8a3f72cddc8465f6a4411d75f9b9e1e5e", func := "loop.example/restcovers/laws.FnExactTileStep", spec := "fnExactTileStep", unfollowed := true, recurses := true, apart := false }
def FnExactTileStepSaid : Prop := fnExactTileStepRow.holds Try.pinned (OpenSpec.ofChange fnExactTileStepSpec)

/-- ITS FALSE NEIGHBOUR: 'it returns false'. Refute it at one input. -/
def fnExactTileStepWrong : ChangeSpec := { name := "fnExactTileStep", fn := fun _ => fun
  | [d1, d2] => { results := [.lit (.bool false)], args := [d1, d2] }
  | _ => none }
def FnExactTileStepWrongFalsely : Prop := fnExactTileStepRow.holds Try.pinned (OpenSpec.ofChange fnExactTileStepWrong)

/-- 'laws.FnExactTileFind': WHATEVER THE INPUT: true; the input reads as it did. -/
def fnExactTileFindSpec : ChangeSpec := { name := "fnExactTileFind", fn := fun _ => fun
  | [d1, d2] => { results := [.lit (.bool true)], args := [d1, d2] }
  | _ => none }
def fnExactTileFindRow : OpenClaim := { program := "ytlecnpmflihcpaa", sum := "e7cb9785ba44f200c0474e678aa4e2c8a3f72cddc8465f6a4411d75f9b9e1e5e", func := "loop.example/restcovers/laws.FnExactTileFind", spec := "fnExactTileFind", unfollowed := true, recurses := true, apart := false }
def FnExactTileFindSaid : Prop := fnExactTileFindRow.holds Try.pinned (OpenSpec.ofChange fnExactTileFindSpec)

/-- ITS FALSE NEIGHBOUR: 'it returns false'. Refute it at one input. -/
def fnExactTileFindWrong : ChangeSpec := { name := "fnExactTileFind", fn := fun _ => fun
  | [d1, d2] => { results := [.lit (.bool false)], args := [d1, d2] }
  | _ => none }
def FnExactTileFindWrongFalsely : Prop := fnExactTileFindRow.holds Try.pinned (OpenSpec.ofChange fnExactTileFindWrong)

/-- 'laws.FnExactTileCount': WHATEVER THE INPUT: true; the input reads as it did. -/
def fnExactTileCountSpec : ChangeSpec := { name := "fnExactTileCount", fn := fun _ => fun
  | [d1, d2] => { results := [.lit (.bool true)], args := [d1, d2] }
  | _ => none }
def fnExactTileCountRow : OpenClaim := { program := "ytlecnpmflihcpaa", sum := "e7cb9785ba44f200c0474e678aa4e2c8a3f72cddc8465f6a4411d75f9b9e1e5e", func := "loop.example/restcovers/laws.FnExactTileCount", spec := "fnExactTileCount", unfollowed := true, recurses := true, apart := false }
def FnExactTileCountSaid : Prop := fnExactTileCountRow.holds Try.pinned (OpenSpec.ofChange fnExactTileCountSpec)

/-- ITS FALSE NEIGHBOUR: 'it returns false'. Refute it at one input. -/
def fnExactTileCountWrong : ChangeSpec := { name := "fnExactTileCount", fn := fun _ => fun
  | [d1, d2] => { results := [.lit (.bool false)], args := [d1, d2] }
  | _ => none }
def FnExactTileCountWrongFalsely : Prop := fnExactTileCountRow.holds Try.pinned (OpenSpec.ofChange fnExactTileCountWrong)

/-- 'laws.FnExactTileScaled': WHATEVER THE INPUT: true; the input reads as it did. -/
def fnExactTileScaledSpec : ChangeSpec := { name := "fnExactTileScaled", fn := fun _ => fun
  | [d1, d2, d3] => { results := [.lit (.bool true)], args := [d1, d2, d3] }
  | _ => none }
def fnExactTileScaledRow : OpenClaim := { program := "ytlecnpmflihcpaa", sum := "e7cb9785ba44f200c0474e678aa4e2c8a3f72cddc8465f6a4411d75f9b9e1e5e", func := "loop.example/restcovers/laws.FnExactTileScaled", spec := "fnExactTileScaled", unfollowed := true, recurses := true, apart := false }
def FnExactTileScaledSaid : Prop := fnExactTileScaledRow.holds Try.pinned (OpenSpec.ofChange fnExactTileScaledSpec)

/-- ITS FALSE NEIGHBOUR: 'it returns false'. Refute it at one input. -/
def fnExactTileScaledWrong : ChangeSpec := { name := "fnExactTileScaled", fn := fun _ => fun
  | [d1, d2, d3] => { results := [.lit (.bool false)], args := [d1, d2, d3] }
  | _ => none }
def FnExactTileScaledWrongFalsely : Prop := fnExactTileScaledRow.holds Try.pinned (OpenSpec.ofChange fnExactTileScaledWrong)

/-- 'laws.FnExactTileSystem': WHATEVER THE INPUT: true; the input reads as it did. -/
def fnExactTileSystemSpec : ChangeSpec := { name := "fnExactTileSystem", fn := fun _ => fun
  | [d1, d2, d3] => { results := [.lit (.bool true)], args := [d1, d2, d3] }
  | _ => none }
def fnExactTileSystemRow : OpenClaim := { program := "ytlecnpmflihcpaa", sum := "e7cb9785ba44f200c0474e678aa4e2c8a3f72cddc8465f6a4411d75f9b9e1e5e", func := "loop.example/restcovers/laws.FnExactTileSystem", spec := "fnExactTileSystem", recurses := true, apart := false }
def FnExactTileSystemSaid : Prop := fnExactTileSystemRow.holds Try.pinned (OpenSpec.ofChange fnExactTileSystemSpec)

/-- ITS FALSE NEIGHBOUR: 'it returns false'. Refute it at one input. -/
def fnExactTileSystemWrong : ChangeSpec := { name := "fnExactTileSystem", fn := fun _ => fun
  | [d1, d2, d3] => { results := [.lit (.bool false)], args := [d1, d2, d3] }
  | _ => none }
def FnExactTileSystemWrongFalsely : Prop := fnExactTileSystemRow.holds Try.pinned (OpenSpec.ofChange fnExactTileSystemWrong)

/- THE SECOND FORM. 'bulk': how many values and letters a reading holds, each counted each time it is reached (what is shared counts as often as it is met; a slice's spare places count too). A statement '..UptoSaid' is the law's where the arguments, and the package variables that the reading takes, are together of bulk at most 1048576: NARROWER than '..Said'. Prove '..Said' where nothing that the law and all that it calls make is longer than what came in: it says more and counts as full. Else prove '..UptoSaid'. A law counts once. -/
mutual
def uptoBulk {H : Type} : DataW H → Nat
  | .lit (.string bytes) => bytes.length + 1
  | .lit _ => 1
  | .nil => 1
  | .ptr d => uptoBulk d + 1
  | .slice elems spare => uptoBulkAll elems + uptoBulkAll spare + 1
  | .agg parts => uptoBulkAll parts + 1
  | .iface _ d => uptoBulk d + 1
  | .map entries => uptoBulkEntries entries + 1
  | .held _ => 1
def uptoBulkAll {H : Type} : List (DataW H) → Nat
  | [] => 0
  | d :: r => uptoBulk d + uptoBulkAll r
def uptoBulkEntries {H : Type} : List (Lit × DataW H) → Nat
  | [] => 0
  | x :: r => uptoBulkEntry x + uptoBulkEntries r
def uptoBulkEntry {H : Type} : Lit × DataW H → Nat
  | (.string bytes, d) => bytes.length + uptoBulk d + 1
  | (_, d) => uptoBulk d + 1
 end
def uptoSmall : (H : Type) → List (DataW H) → Bool := fun _ ds => decide (uptoBulkAll ds ≤ 1048576)
def OpenSpec.upto (s : _root_.Go.ChangeSpec) : _root_.Go.OpenSpec := { _root_.Go.OpenSpec.ofChange s with cond := some uptoSmall }

/-- 'laws.FnExactTileIn', WHERE WHAT IT READS IS OF BULK AT MOST 1048576: true; the input reads as it did. -/
def fnExactTileInUptoRow : OpenClaim := { program := "ytlecnpmflihcpaa", sum := "e7cb9785ba44f200c0474e678aa4e2c8a3f72cddc8465f6a4411d75f9b9e1e5e", func := "loop.example/restcovers/laws.FnExactTileIn", spec := "fnExactTileIn", apart := false, narrowed := true }
def FnExactTileInUptoSaid : Prop := fnExactTileInUptoRow.holds Try.pinned (OpenSpec.upto fnExactTileInSpec)

/-- 'laws.FnExactTileBoth', WHERE WHAT IT READS IS OF BULK AT MOST 1048576: true; the input reads as it did. -/
def fnExactTileBothUptoRow : OpenClaim := { program := "ytlecnpmflihcpaa", sum := "e7cb9785ba44f200c0474e678aa4e2c8a3f72cddc8465f6a4411d75f9b9e1e5e", func := "loop.example/restcovers/laws.FnExactTileBoth", spec := "fnExactTileBoth", recurses := true, apart := false, narrowed := true }
def FnExactTileBothUptoSaid : Prop := fnExactTileBothUptoRow.holds Try.pinned (OpenSpec.upto fnExactTileBothSpec)

/-- 'laws.FnExactTileMoved', WHERE WHAT IT READS IS OF BULK AT MOST 1048576: true; the input reads as it did. -/
def fnExactTileMovedUptoRow : OpenClaim := { program := "ytlecnpmflihcpaa", sum := "e7cb9785ba44f200c0474e678aa4e2c8a3f72cddc8465f6a4411d75f9b9e1e5e", func := "loop.example/restcovers/laws.FnExactTileMoved", spec := "fnExactTileMoved", unfollowed := true, recurses := true, apart := false, narrowed := true }
def FnExactTileMovedUptoSaid : Prop := fnExactTileMovedUptoRow.holds Try.pinned (OpenSpec.upto fnExactTileMovedSpec)

/-- 'laws.FnExactTileStep', WHERE WHAT IT READS IS OF BULK AT MOST 1048576: true; the input reads as it did. -/
def fnExactTileStepUptoRow : OpenClaim := { program := "ytlecnpmflihcpaa", sum := "e7cb9785ba44f200c0474e678aa4e2c8a3f72cddc8465f6a4411d75f9b9e1e5e", func := "loop.example/restcovers/laws.FnExactTileStep", spec := "fnExactTileStep", unfollowed := true, recurses := true, apart := false, narrowed := true }
def FnExactTileStepUptoSaid : Prop := fnExactTileStepUptoRow.holds Try.pinned (OpenSpec.upto fnExactTileStepSpec)

/-- 'laws.FnExactTileFind', WHERE WHAT IT READS IS OF BULK AT MOST 1048576: true; the input reads as it did. -/
def fnExactTileFindUptoRow : OpenClaim := { program := "ytlecnpmflihcpaa", sum := "e7cb9785ba44f200c0474e678aa4e2c8a3f72cddc8465f6a4411d75f9b9e1e5e", func := "loop.example/restcovers/laws.FnExactTileFind", spec := "fnExactTileFind", unfollowed := true, recurses := true, apart := false, narrowed := true }
def FnExactTileFindUptoSaid : Prop := fnExactTileFindUptoRow.holds Try.pinned (OpenSpec.upto fnExactTileFindSpec)

/-- 'laws.FnExactTileCount', WHERE WHAT IT READS IS OF BULK AT MOST 1048576: true; the input reads as it did. -/
def fnExactTileCountUptoRow : OpenClaim := { program := "ytlecnpmflihcpaa", sum := "e7cb9785ba44f200c0474e678aa4e2c8a3f72cddc8465f6a4411d75f9b9e1e5e", func := "loop.example/restcovers/laws.FnExactTileCount", spec := "fnExactTileCount", unfollowed := true, recurses := true, apart := false, narrowed := true }
def FnExactTileCountUptoSaid : Prop := fnExactTileCountUptoRow.holds Try.pinned (OpenSpec.upto fnExactTileCountSpec)

/-- 'laws.FnExactTileScaled', WHERE WHAT IT READS IS OF BULK AT MOST 1048576: true; the input reads as it did. -/
def fnExactTileScaledUptoRow : OpenClaim := { program := "ytlecnpmflihcpaa", sum := "e7cb9785ba44f200c0474e678aa4e2c8a3f72cddc8465f6a4411d75f9b9e1e5e", func := "loop.example/restcovers/laws.FnExactTileScaled", spec := "fnExactTileScaled", unfollowed := true, recurses := true, apart := false, narrowed := true }
def FnExactTileScaledUptoSaid : Prop := fnExactTileScaledUptoRow.holds Try.pinned (OpenSpec.upto fnExactTileScaledSpec)

/-- 'laws.FnExactTileSystem', WHERE WHAT IT READS IS OF BULK AT MOST 1048576: true; the input reads as it did. -/
def fnExactTileSystemUptoRow : OpenClaim := { program := "ytlecnpmflihcpaa", sum := "e7cb9785ba44f200c0474e678aa4e2c8a3f72cddc8465f6a4411d75f9b9e1e5e", func := "loop.example/restcovers/laws.FnExactTileSystem", spec := "fnExactTileSystem", recurses := true, apart := false, narrowed := true }
def FnExactTileSystemUptoSaid : Prop := fnExactTileSystemUptoRow.holds Try.pinned (OpenSpec.upto fnExactTileSystemSpec)

end Rows
end Go.Proofs.Ytlecnpmflihcpaa
