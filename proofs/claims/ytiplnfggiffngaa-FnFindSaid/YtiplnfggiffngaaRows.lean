/-
  No cell of these rows narrows 'for every input' (looked for: loops, veiled, ifaces, maps, wideKeys, modest, calm, conditions, laid).
  DERIVED. THE GIVEN ROWS OF THIS SEAT. 3 by the template 'for every input the law returns true; each argument reads behind the call as it read before'; 0 by the template 'total and deterministic' (their statements: YtiplnfggiffngaaTotals.lean).
  GIVEN WITH THE SEED: the statements are not yours to turn. If you find one false, say at which input.
  Laid BY PROGRAM, IN A SANDBOX (cutbox-rows.mjs): the forced cells as the released guide's own fill.sh prints them over the translation f22aa0e5190d2eb8… (all of the seat's roots in one cut). By AI agents, Wed Nov 11 2026. No macro, syntax, notation, axiom, sorry.
-/
import Derived.Test.YtiplnfggiffngaaChecked
import GoSem.Claim
import GoSem.ClaimJoined
import GoSem.ClaimMapViews
import Derived.JoinedTies
import Derived.KernelRfl
namespace Go.Proofs.Ytiplnfggiffngaa
/- THE CELL 'sum', in the pinned program and in every row, IS THE sha256 OF THE DUMP (.gsa) THAT YtiplnfggiffngaaProg.lean LOADS. Nothing in Lean hashes anything: it is a label: what it is worth is what the hold of that sum in a sandbox is worth. -/
noncomputable def Try.pinned : Pinned := { name := "ytiplnfggiffngaa", sum := "f22aa0e5190d2eb89a1cb4c9c990d531704b677bbee8cd18489df61af6721c19", checked := Try.checked }
namespace Rows
def none {H : Type} : Left H := { results := [], args := [] }

/-- 'laws.FnFind': WHATEVER THE INPUT: true; the input reads as it did. -/
def fnFindSpec : ChangeSpec := { name := "fnFind", fn := fun _ => fun
  | [d] => { results := [.lit (.bool true)], args := [d] }
  | _ => none }
def fnFindRow : OpenClaim := { program := "ytiplnfggiffngaa", sum := "f22aa0e5190d2eb89a1cb4c9c990d531704b677bbee8cd18489df61af6721c19", func := "loop.example/restcovers/laws.FnFind", spec := "fnFind", unfollowed := true, recurses := true, apart := false }
def FnFindSaid : Prop := fnFindRow.holds Try.pinned (OpenSpec.ofChange fnFindSpec)

/-- ITS FALSE NEIGHBOUR: 'it returns false'. Refute it at one input. -/
def fnFindWrong : ChangeSpec := { name := "fnFind", fn := fun _ => fun
  | [d] => { results := [.lit (.bool false)], args := [d] }
  | _ => none }
def FnFindWrongFalsely : Prop := fnFindRow.holds Try.pinned (OpenSpec.ofChange fnFindWrong)

/-- 'laws.FnTileCount': WHATEVER THE INPUT: true; the input reads as it did. -/
def fnTileCountSpec : ChangeSpec := { name := "fnTileCount", fn := fun _ => fun
  | [d] => { results := [.lit (.bool true)], args := [d] }
  | _ => none }
def fnTileCountRow : OpenClaim := { program := "ytiplnfggiffngaa", sum := "f22aa0e5190d2eb89a1cb4c9c990d531704b677bbee8cd18489df61af6721c19", func := "loop.example/restcovers/laws.FnTileCount", spec := "fnTileCount", unfollowed := true, recurses := true, apart := false }
def FnTileCountSaid : Prop := fnTileCountRow.holds Try.pinned (OpenSpec.ofChange fnTileCountSpec)

/-- ITS FALSE NEIGHBOUR: 'it returns false'. Refute it at one input. -/
def fnTileCountWrong : ChangeSpec := { name := "fnTileCount", fn := fun _ => fun
  | [d] => { results := [.lit (.bool false)], args := [d] }
  | _ => none }
def FnTileCountWrongFalsely : Prop := fnTileCountRow.holds Try.pinned (OpenSpec.ofChange fnTileCountWrong)

/-- 'laws.FnTileScaled': WHATEVER THE INPUT: true; the input reads as it did. -/
def fnTileScaledSpec : ChangeSpec := { name := "fnTileScaled", fn := fun _ => fun
  | [d] => { results := [.lit (.bool true)], args := [d] }
  | _ => none }
def fnTileScaledRow : OpenClaim := { program := "ytiplnfggiffngaa", sum := "f22aa0e5190d2eb89a1cb4c9c990d531704b677bbee8cd18489df61af6721c19", func := "loop.example/restcovers/laws.FnTileScaled", spec := "fnTileScaled", unfollowed := true, recurses := true, apart := false }
def FnTileScaledSaid : Prop := fnTileScaledRow.holds Try.pinned (OpenSpec.ofChange fnTileScaledSpec)

/-- ITS FALSE NEIGHBOUR: 'it returns false'. Refute it at one input. -/
def fnTileScaledWrong : ChangeSpec := { name := "fnTileScaled", fn := fun _ => fun
  | [d] => { results := [.lit (.bool false)], args := [d] }
  | _ => none }
def FnTileScaledWrongFalsely : Prop := fnTileScaledRow.holds Try.pinned (OpenSpec.ofChange fnTileScaledWrong)

/- THE SECOND FORM. 'bulk': how many values and letters a reading holds, each counted each time it is reached (what is shared counts as often as it is met; a slice's spare places count too). A statement '..UptoSaid' is the law's where the arguments, and the package variables that the reading takes, are together of bulk at most 1048576: NARROWER than '..Said'. Prove '..Said' where nothing that the law and all that it calls make is longer than what came in: it says more and counts as full. Else prove '..UptoSaid'. A law counts once. -/
mutual
def uptoBulk {H : Type} : DataW H → Nat
  | .lit (.string bytes) => bytes.length + 1
  | .lit _ => 1
  | .nil => 1
  | .ptr d => uptoBulk d + 1
  | .slice elems spare => uptoBulkAll elems + uptoBulkAll spare + 1
  | .agg parts => uptoBulkAll parts + 1
  | .iface _ d => uptoBulk d + 1
  | .map entries => uptoBulkEntries entries + 1
  | .held _ => 1
def uptoBulkAll {H : Type} : List (DataW H) → Nat
  | [] => 0
  | d :: r => uptoBulk d + uptoBulkAll r
def uptoBulkEntries {H : Type} : List (Lit × DataW H) → Nat
  | [] => 0
  | x :: r => uptoBulkEntry x + uptoBulkEntries r
def uptoBulkEntry {H : Type} : Lit × DataW H → Nat
  | (.string bytes, d) => bytes.length + uptoBulk d + 1
  | (_, d) => uptoBulk d + 1
 end
def uptoSmall : (H : Type) → List (DataW H) → Bool := fun _ ds => decide (uptoBulkAll ds ≤ 1048576)
def OpenSpec.upto (s : _root_.Go.ChangeSpec) : _root_.Go.OpenSpec := { _root_.Go.OpenSpec.ofChange s with cond := some uptoSmall }

/-- 'laws.FnFind', WHERE WHAT IT READS IS OF BULK AT MOST 1048576: true; the input reads as it did. -/
def fnFindUptoRow : OpenClaim := { program := "ytiplnfggiffngaa", sum := "f22aa0e5190d2eb89a1cb4c9c990d531704b677bbee8cd18489df61af6721c19", func := "loop.example/restcovers/laws.FnFind", spec := "fnFind", unfollowed := true, recurses := true, apart := false, narrowed := true }
def FnFindUptoSaid : Prop := fnFindUptoRow.holds Try.pinned (OpenSpec.upto fnFindSpec)

/-- 'laws.FnTileCount', WHERE WHAT IT READS IS OF BULK AT MOST 1048576: true; the input reads as it did. -/
def fnTileCountUptoRow : OpenClaim := { program := "ytiplnfggiffngaa", sum := "f22aa0e5190d2eb89a1cb4c9c990d531704b677bbee8cd18489df61af6721c19", func := "loop.example/restcovers/laws.FnTileCount", spec := "fnTileCount", unfollowed := true, recurses := true, apart := false, narrowed := true }
def FnTileCountUptoSaid : Prop := fnTileCountUptoRow.holds Try.pinned (OpenSpec.upto fnTileCountSpec)

/-- 'laws.FnTileScaled', WHERE WHAT IT READS IS OF BULK AT MOST 1048576: true; the input reads as it did. -/
def fnTileScaledUptoRow : OpenClaim := { program := "ytiplnfggiffngaa", sum := "f22aa0e5190d2eb89a1cb4c9c990d531704b677bbee8cd18489df61af6721c19", func := "loop.example/restcovers/laws.FnTileScaled", spec := "fnTileScaled", unfollowed := true, recurses := true, apart := false, narrowed := true }
def FnTileScaledUptoSaid : Prop := fnTileScaledUptoRow.holds Try.pinned (OpenSpec.upto fnTileScaledSpec)

end Rows
end Go.Proofs.Ytiplnfggiffngaa
