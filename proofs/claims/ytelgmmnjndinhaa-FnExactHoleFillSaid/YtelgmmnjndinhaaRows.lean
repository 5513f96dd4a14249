/-
  No cell of these rows narrows 'for every input' (looked for: loops, veiled, ifaces, maps, wideKeys, modest, calm, conditions, laid).
  DERIVED. THE GIVEN ROWS OF THIS SEAT. 11 by the template 'for every input the law returns true; each argument reads behind the call as it read before'; 0 by the template 'total and deterministic' (their statements: YtelgmmnjndinhaaTotals.lean).
  GIVEN WITH THE SEED: the statements are not yours to turn. If you find one false, say at which input.
  Laid BY PROGRAM, IN A SANDBOX (cutbox-rows.mjs): the forced cells as the released guide's own fill.sh prints them over the translation f8ce8b193ae116aa… (all of the seat's roots in one cut). By AI agents, Wed Nov 11 2026. No macro, syntax, notation, axiom, sorry.
-/
import Derived.Test.YtelgmmnjndinhaaChecked
import GoSem.Claim
import GoSem.ClaimJoined
import GoSem.ClaimMapViews
import Derived.JoinedTies
import Derived.KernelRfl
namespace Go.Proofs.Ytelgmmnjndinhaa
/- THE CELL 'sum', in the pinned program and in every row, IS THE sha256 OF THE DUMP (.gsa) THAT YtelgmmnjndinhaaProg.lean LOADS. Nothing in Lean hashes anything: it is a label: what it is worth is what the hold of that sum in a sandbox is worth. -/
noncomputable def Try.pinned : Pinned := { name := "ytelgmmnjndinhaa", sum := "f8ce8b193ae116aaaaa0b49b5acaecf84289c2e66616fa9e9325f09663865354", checked := Try.checked }
namespace Rows
def none {H : Type} : Left H := { results := [], args := [] }

/-- 'laws.FnExactSystemHoles': WHATEVER THE INPUT: true; the input reads as it did. -/
def fnExactSystemHolesSpec : ChangeSpec := { name := "fnExactSystemHoles", fn := fun _ => fun
  | [d] => { results := [.lit (.bool true)], args := [d] }
  | _ => none }
def fnExactSystemHolesRow : OpenClaim := { program := "ytelgmmnjndinhaa", sum := "f8ce8b193ae116aaaaa0b49b5acaecf84289c2e66616fa9e9325f09663865354", func := "loop.example/restcovers/laws.FnExactSystemHoles", spec := "fnExactSystemHoles", unfollowed := true, recurses := true, apart := false }
def FnExactSystemHolesSaid : Prop := fnExactSystemHolesRow.holds Try.pinned (OpenSpec.ofChange fnExactSystemHolesSpec)

/-- ITS FALSE NEIGHBOUR: 'it returns false'. Refute it at one input. -/
def fnExactSystemHolesWrong : ChangeSpec := { name := "fnExactSystemHoles", fn := fun _ => fun
  | [d] => { results := [.lit (.bool false)], args := [d] }
  | _ => none }
def FnExactSystemHolesWrongFalsely : Prop := fnExactSystemHolesRow.holds Try.pinned (OpenSpec.ofChange fnExactSystemHolesWrong)

/-- 'laws.FnExactSystemAll': WHATEVER THE INPUT: true; the input reads as it did. -/
def fnExactSystemAllSpec : ChangeSpec := { name := "fnExactSystemAll", fn := fun _ => fun
  | [d] => { results := [.lit (.bool true)], args := [d] }
  | _ => none }
def fnExactSystemAllRow : OpenClaim := { program := "ytelgmmnjndinhaa", sum := "f8ce8b193ae116aaaaa0b49b5acaecf84289c2e66616fa9e9325f09663865354", func := "loop.example/restcovers/laws.FnExactSystemAll", spec := "fnExactSystemAll", unfollowed := true, recurses := true, apart := false }
def FnExactSystemAllSaid : Prop := fnExactSystemAllRow.holds Try.pinned (OpenSpec.ofChange fnExactSystemAllSpec)

/-- ITS FALSE NEIGHBOUR: 'it returns false'. Refute it at one input. -/
def fnExactSystemAllWrong : ChangeSpec := { name := "fnExactSystemAll", fn := fun _ => fun
  | [d] => { results := [.lit (.bool false)], args := [d] }
  | _ => none }
def FnExactSystemAllWrongFalsely : Prop := fnExactSystemAllRow.holds Try.pinned (OpenSpec.ofChange fnExactSystemAllWrong)

/-- 'laws.FnExactSystemExact': WHATEVER THE INPUT: true; the input reads as it did. -/
def fnExactSystemExactSpec : ChangeSpec := { name := "fnExactSystemExact", fn := fun _ => fun
  | [d] => { results := [.lit (.bool true)], args := [d] }
  | _ => none }
def fnExactSystemExactRow : OpenClaim := { program := "ytelgmmnjndinhaa", sum := "f8ce8b193ae116aaaaa0b49b5acaecf84289c2e66616fa9e9325f09663865354", func := "loop.example/restcovers/laws.FnExactSystemExact", spec := "fnExactSystemExact", unfollowed := true, recurses := true, apart := false }
def FnExactSystemExactSaid : Prop := fnExactSystemExactRow.holds Try.pinned (OpenSpec.ofChange fnExactSystemExactSpec)

/-- ITS FALSE NEIGHBOUR: 'it returns false'. Refute it at one input. -/
def fnExactSystemExactWrong : ChangeSpec := { name := "fnExactSystemExact", fn := fun _ => fun
  | [d] => { results := [.lit (.bool false)], args := [d] }
  | _ => none }
def FnExactSystemExactWrongFalsely : Prop := fnExactSystemExactRow.holds Try.pinned (OpenSpec.ofChange fnExactSystemExactWrong)

/-- 'laws.FnExactSystemSame': WHATEVER THE INPUT: true; the input reads as it did. -/
def fnExactSystemSameSpec : ChangeSpec := { name := "fnExactSystemSame", fn := fun _ => fun
  | [d1, d2] => { results := [.lit (.bool true)], args := [d1, d2] }
  | _ => none }
def fnExactSystemSameRow : OpenClaim := { program := "ytelgmmnjndinhaa", sum := "f8ce8b193ae116aaaaa0b49b5acaecf84289c2e66616fa9e9325f09663865354", func := "loop.example/restcovers/laws.FnExactSystemSame", spec := "fnExactSystemSame", unfollowed := true, recurses := true, apart := false }
def FnExactSystemSameSaid : Prop := fnExactSystemSameRow.holds Try.pinned (OpenSpec.ofChange fnExactSystemSameSpec)

/-- ITS FALSE NEIGHBOUR: 'it returns false'. Refute it at one input. -/
def fnExactSystemSameWrong : ChangeSpec := { name := "fnExactSystemSame", fn := fun _ => fun
  | [d1, d2] => { results := [.lit (.bool false)], args := [d1, d2] }
  | _ => none }
def FnExactSystemSameWrongFalsely : Prop := fnExactSystemSameRow.holds Try.pinned (OpenSpec.ofChange fnExactSystemSameWrong)

/-- 'laws.FnExactHoleFirst': WHATEVER THE INPUT: true; the input reads as it did. -/
def fnExactHoleFirstSpec : ChangeSpec := { name := "fnExactHoleFirst", fn := fun _ => fun
  | [d] => { results := [.lit (.bool true)], args := [d] }
  | _ => none }
def fnExactHoleFirstRow : OpenClaim := { program := "ytelgmmnjndinhaa", sum := "f8ce8b193ae116aaaaa0b49b5acaecf84289c2e66616fa9e9325f09663865354", func := "loop.example/restcovers/laws.FnExactHoleFirst", spec := "fnExactHoleFirst", unfollowed := true, recurses := true, apart := false }
def FnExactHoleFirstSaid : Prop := fnExactHoleFirstRow.holds Try.pinned (OpenSpec.ofChange fnExactHoleFirstSpec)

/-- ITS FALSE NEIGHBOUR: 'it returns false'. Refute it at one input. -/
def fnExactHoleFirstWrong : ChangeSpec := { name := "fnExactHoleFirst", fn := fun _ => fun
  | [d] => { results := [.lit (.bool false)], args := [d] }
  | _ => none }
def FnExactHoleFirstWrongFalsely : Prop := fnExactHoleFirstRow.holds Try.pinned (OpenSpec.ofChange fnExactHoleFirstWrong)

/-- 'laws.FnExactHoleRun': WHATEVER THE INPUT: true; the input reads as it did. -/
def fnExactHoleRunSpec : ChangeSpec := { name := "fnExactHoleRun", fn := fun _ => fun
  | [d] => { results := [.lit (.bool true)], args := [d] }
  | _ => none }
def fnExactHoleRunRow : OpenClaim := { program := "ytelgmmnjndinhaa", sum := "f8ce8b193ae116aaaaa0b49b5acaecf84289c2e66616fa9e9325f09663865354", func := "loop.example/restcovers/laws.FnExactHoleRun", spec := "fnExactHoleRun", unfollowed := true, recurses := true, apart := false }
def FnExactHoleRunSaid : Prop := fnExactHoleRunRow.holds Try.pinned (OpenSpec.ofChange fnExactHoleRunSpec)

/-- ITS FALSE NEIGHBOUR: 'it returns false'. Refute it at one input. -/
def fnExactHoleRunWrong : ChangeSpec := { name := "fnExactHoleRun", fn := fun _ => fun
  | [d] => { results := [.lit (.bool false)], args := [d] }
  | _ => none }
def FnExactHoleRunWrongFalsely : Prop := fnExactHoleRunRow.holds Try.pinned (OpenSpec.ofChange fnExactHoleRunWrong)

/-- 'laws.FnExactHoleSpare': WHATEVER THE INPUT: true; the input reads as it did. -/
def fnExactHoleSpareSpec : ChangeSpec := { name := "fnExactHoleSpare", fn := fun _ => fun
  | [d] => { results := [.lit (.bool true)], args := [d] }
  | _ => none }
def fnExactHoleSpareRow : OpenClaim := { program := "ytelgmmnjndinhaa", sum := "f8ce8b193ae116aaaaa0b49b5acaecf84289c2e66616fa9e9325f09663865354", func := "loop.example/restcovers/laws.FnExactHoleSpare", spec := "fnExactHoleSpare", unfollowed := true, recurses := true, apart := false }
def FnExactHoleSpareSaid : Prop := fnExactHoleSpareRow.holds Try.pinned (OpenSpec.ofChange fnExactHoleSpareSpec)

/-- ITS FALSE NEIGHBOUR: 'it returns false'. Refute it at one input. -/
def fnExactHoleSpareWrong : ChangeSpec := { name := "fnExactHoleSpare", fn := fun _ => fun
  | [d] => { results := [.lit (.bool false)], args := [d] }
  | _ => none }
def FnExactHoleSpareWrongFalsely : Prop := fnExactHoleSpareRow.holds Try.pinned (OpenSpec.ofChange fnExactHoleSpareWrong)

/-- 'laws.FnExactHoleLeast': WHATEVER THE INPUT: true; the input reads as it did. -/
def fnExactHoleLeastSpec : ChangeSpec := { name := "fnExactHoleLeast", fn := fun _ => fun
  | [d] => { results := [.lit (.bool true)], args := [d] }
  | _ => none }
def fnExactHoleLeastRow : OpenClaim := { program := "ytelgmmnjndinhaa", sum := "f8ce8b193ae116aaaaa0b49b5acaecf84289c2e66616fa9e9325f09663865354", func := "loop.example/restcovers/laws.FnExactHoleLeast", spec := "fnExactHoleLeast", unfollowed := true, recurses := true, apart := false }
def FnExactHoleLeastSaid : Prop := fnExactHoleLeastRow.holds Try.pinned (OpenSpec.ofChange fnExactHoleLeastSpec)

/-- ITS FALSE NEIGHBOUR: 'it returns false'. Refute it at one input. -/
def fnExactHoleLeastWrong : ChangeSpec := { name := "fnExactHoleLeast", fn := fun _ => fun
  | [d] => { results := [.lit (.bool false)], args := [d] }
  | _ => none }
def FnExactHoleLeastWrongFalsely : Prop := fnExactHoleLeastRow.holds Try.pinned (OpenSpec.ofChange fnExactHoleLeastWrong)

/-- 'laws.FnExactHoleFill': WHATEVER THE INPUT: true; the input reads as it did. -/
def fnExactHoleFillSpec : ChangeSpec := { name := "fnExactHoleFill", fn := fun _ => fun
  | [d] => { results := [.lit (.bool true)], args := [d] }
  | _ => none }
def fnExactHoleFillRow : OpenClaim := { program := "ytelgmmnjndinhaa", sum := "f8ce8b193ae116aaaaa0b49b5acaecf84289c2e66616fa9e9325f09663865354", func := "loop.example/restcovers/laws.FnExactHoleFill", spec := "fnExactHoleFill", unfollowed := true, recurses := true, apart := false }
def FnExactHoleFillSaid : Prop := fnExactHoleFillRow.holds Try.pinned (OpenSpec.ofChange fnExactHoleFillSpec)

/-- ITS FALSE NEIGHBOUR: 'it returns false'. Refute it at one input. -/
def fnExactHoleFillWrong : ChangeSpec := { name := "fnExactHoleFill", fn := fun _ => fun
  | [d] => { results := [.lit (.bool false)], args := [d] }
  | _ => none }
def FnExactHoleFillWrongFalsely : Prop := fnExactHoleFillRow.holds Try.pinned (OpenSpec.ofChange fnExactHoleFillWrong)

/-- 'laws.FnExactHoleWorst': WHATEVER THE INPUT: true; the input reads as it did. -/
def fnExactHoleWorstSpec : ChangeSpec := { name := "fnExactHoleWorst", fn := fun _ => fun
  | [d] => { results := [.lit (.bool true)], args := [d] }
  | _ => none }
def fnExactHoleWorstRow : OpenClaim := { program := "ytelgmmnjndinhaa", sum := "f8ce8b193ae116aaaaa0b49b5acaecf84289c2e66616fa9e9325f09663865354", func := "loop.example/restcovers/laws.FnExactHoleWorst", spec := "fnExactHoleWorst", unfollowed := true, recurses := true, apart := false }
def FnExactHoleWorstSaid : Prop := fnExactHoleWorstRow.holds Try.pinned (OpenSpec.ofChange fnExactHoleWorstSpec)

/-- ITS FALSE NEIGHBOUR: 'it returns false'. Refute it at one input. -/
def fnExactHoleWorstWrong : ChangeSpec := { name := "fnExactHoleWorst", fn := fun _ => fun
  | [d] => { results := [.lit (.bool false)], args := [d] }
  | _ => none }
def FnExactHoleWorstWrongFalsely : Prop := fnExactHoleWorstRow.holds Try.pinned (OpenSpec.ofChange fnExactHoleWorstWrong)

/-- 'laws.FnExactHoleMeet': WHATEVER THE INPUT: true; the input reads as it did. -/
def fnExactHoleMeetSpec : ChangeSpec := { name := "fnExactHoleMeet", fn := fun _ => fun
  | [d1, d2] => { results := [.lit (.bool true)], args := [d1, d2] }
  | _ => none }
def fnExactHoleMeetRow : OpenClaim := { program := "ytelgmmnjndinhaa", sum := "f8ce8b193ae116aaaaa0b49b5acaecf84289c2e66616fa9e9325f09663865354", func := "loop.example/restcovers/laws.FnExactHoleMeet", spec := "fnExactHoleMeet", unfollowed := true, recurses := true, apart := false }
def FnExactHoleMeetSaid : Prop := fnExactHoleMeetRow.holds Try.pinned (OpenSpec.ofChange fnExactHoleMeetSpec)

/-- ITS FALSE NEIGHBOUR: 'it returns false'. Refute it at one input. -/
def fnExactHoleMeetWrong : ChangeSpec := { name := "fnExactHoleMeet", fn := fun _ => fun
  | [d1, d2] => { results := [.lit (.bool false)], args := [d1, d2] }
  | _ => none }
def FnExactHoleMeetWrongFalsely : Prop := fnExactHoleMeetRow.holds Try.pinned (OpenSpec.ofChange fnExactHoleMeetWrong)

/- THE SECOND FORM. 'bulk': how many values and letters a reading holds, each counted each time it is reached (what is shared counts as often as it is met; a slice's spare places count too). A statement '..UptoSaid' is the law's where the arguments, and the package variables that the reading takes, are together of bulk at most 1048576: NARROWER than '..Said'. Prove '..Said' where nothing that the law and all that it calls make is longer than what came in: it says more and counts as full. Else prove '..UptoSaid'. A law counts once. -/
mutual
def uptoBulk {H : Type} : DataW H → Nat
  | .lit (.string bytes) => bytes.length + 1
  | .lit _ => 1
  | .nil => 1
  | .ptr d => uptoBulk d + 1
  | .slice elems spare => uptoBulkAll elems + uptoBulkAll spare + 1
  | .agg parts => uptoBulkAll parts + 1
  | .iface _ d => uptoBulk d + 1
  | .map entries => uptoBulkEntries entries + 1
  | .held _ => 1
def uptoBulkAll {H : Type} : List (DataW H) → Nat
  | [] => 0
  | d :: r => uptoBulk d + uptoBulkAll r
def uptoBulkEntries {H : Type} : List (Lit × DataW H) → Nat
  | [] => 0
  | x :: r => uptoBulkEntry x + uptoBulkEntries r
def uptoBulkEntry {H : Type} : Lit × DataW H → Nat
  | (.string bytes, d) => bytes.length + uptoBulk d + 1
  | (_, d) => uptoBulk d + 1
 end
def uptoSmall : (H : Type) → List (DataW H) → Bool := fun _ ds => decide (uptoBulkAll ds ≤ 1048576)
def OpenSpec.upto (s : _root_.Go.ChangeSpec) : _root_.Go.OpenSpec := { _root_.Go.OpenSpec.ofChange s with cond := some uptoSmall }

/-- 'laws.FnExactSystemHoles', WHERE WHAT IT READS IS OF BULK AT MOST 1048576: true; the input reads as it did. -/
def fnExactSystemHolesUptoRow : OpenClaim := { program := "ytelgmmnjndinhaa", sum := "f8ce8b193ae116aaaaa0b49b5acaecf84289c2e66616fa9e9325f09663865354", func := "loop.example/restcovers/laws.FnExactSystemHoles", spec := "fnExactSystemHoles", unfollowed := true, recurses := true, apart := false, narrowed := true }
def FnExactSystemHolesUptoSaid : Prop := fnExactSystemHolesUptoRow.holds Try.pinned (OpenSpec.upto fnExactSystemHolesSpec)

/-- 'laws.FnExactSystemAll', WHERE WHAT IT READS IS OF BULK AT MOST 1048576: true; the input reads as it did. -/
def fnExactSystemAllUptoRow : OpenClaim := { program := "ytelgmmnjndinhaa", sum := "f8ce8b193ae116aaaaa0b49b5acaecf84289c2e66616fa9e9325f09663865354", func := "loop.example/restcovers/laws.FnExactSystemAll", spec := "fnExactSystemAll", unfollowed := true, recurses := true, apart := false, narrowed := true }
def FnExactSystemAllUptoSaid : Prop := fnExactSystemAllUptoRow.holds Try.pinned (OpenSpec.upto fnExactSystemAllSpec)

/-- 'laws.FnExactSystemExact', WHERE WHAT IT READS IS OF BULK AT MOST 1048576: true; the input reads as it did. -/
def fnExactSystemExactUptoRow : OpenClaim := { program := "ytelgmmnjndinhaa", sum := "f8ce8b193ae116aaaaa0b49b5acaecf84289c2e66616fa9e9325f09663865354", func := "loop.example/restcovers/laws.FnExactSystemExact", spec := "fnExactSystemExact", unfollowed := true, recurses := true, apart := false, narrowed := true }
def FnExactSystemExactUptoSaid : Prop := fnExactSystemExactUptoRow.holds Try.pinned (OpenSpec.upto fnExactSystemExactSpec)

/-- 'laws.FnExactSystemSame', WHERE WHAT IT READS IS OF BULK AT MOST 1048576: true; the input reads as it did. -/
def fnExactSystemSameUptoRow : OpenClaim := { program := "ytelgmmnjndinhaa", sum := "f8ce8b193ae116aaaaa0b49b5acaecf84289c2e66616fa9e9325f09663865354", func := "loop.example/restcovers/laws.FnExactSystemSame", spec := "fnExactSystemSame", unfollowed := true, recurses := true, apart := false, narrowed := true }
def FnExactSystemSameUptoSaid : Prop := fnExactSystemSameUptoRow.holds Try.pinned (OpenSpec.upto fnExactSystemSameSpec)

/-- 'laws.FnExactHoleFirst', WHERE WHAT IT READS IS OF BULK AT MOST 1048576: true; the input reads as it did. -/
def fnExactHoleFirstUptoRow : OpenClaim := { program := "ytelgmmnjndinhaa", sum := "f8ce8b193ae116aaaaa0b49b5acaecf84289c2e66616fa9e9325f09663865354", func := "loop.example/restcovers/laws.FnExactHoleFirst", spec := "fnExactHoleFirst", unfollowed := true, recurses := true, apart := false, narrowed := true }
def FnExactHoleFirstUptoSaid : Prop := fnExactHoleFirstUptoRow.holds Try.pinned (OpenSpec.upto fnExactHoleFirstSpec)

/-- 'laws.FnExactHoleRun', WHERE WHAT IT READS IS OF BULK AT MOST 1048576: true; the input reads as it did. -/
def fnExactHoleRunUptoRow : OpenClaim := { program := "ytelgmmnjndinhaa", sum := "f8ce8b193ae116aaaaa0b49b5acaecf84289c2e66616fa9e9325f09663865354", func := "loop.example/restcovers/laws.FnExactHoleRun", spec := "fnExactHoleRun", unfollowed := true, recurses := true, apart := false, narrowed := true }
def FnExactHoleRunUptoSaid : Prop := fnExactHoleRunUptoRow.holds Try.pinned (OpenSpec.upto fnExactHoleRunSpec)

/-- 'laws.FnExactHoleSpare', WHERE WHAT IT READS IS OF BULK AT MOST 1048576: true; the input reads as it did. -/
def fnExactHoleSpareUptoRow : OpenClaim := { program := "ytelgmmnjndinhaa", sum := "f8ce8b193ae116aaaaa0b49b5acaecf84289c2e66616fa9e9325f09663865354", func := "loop.example/restcovers/laws.FnExactHoleSpare", spec := "fnExactHoleSpare", unfollowed := true, recurses := true, apart := false, narrowed := true }
def FnExactHoleSpareUptoSaid : Prop := fnExactHoleSpareUptoRow.holds Try.pinned (OpenSpec.upto fnExactHoleSpareSpec)

/-- 'laws.FnExactHoleLeast', WHERE WHAT IT READS IS OF BULK AT MOST 1048576: true; the input reads as it did. -/
def fnExactHoleLeastUptoRow : OpenClaim := { program := "ytelgmmnjndinhaa", sum := "f8ce8b193ae116aaaaa0b49b5acaecf84289c2e66616fa9e9325f09663865354", func := "loop.example/restcovers/laws.FnExactHoleLeast", spec := "fnExactHoleLeast", unfollowed := true, recurses := true, apart := false, narrowed := true }
def FnExactHoleLeastUptoSaid : Prop := fnExactHoleLeastUptoRow.holds Try.pinned (OpenSpec.upto fnExactHoleLeastSpec)

/-- 'laws.FnExactHoleFill', WHERE WHAT IT READS IS OF BULK AT MOST 1048576: true; the input reads as it did. -/
def fnExactHoleFillUptoRow : OpenClaim := { program := "ytelgmmnjndinhaa", sum := "f8ce8b193ae116aaaaa0b49b5acaecf84289c2e66616fa9e9325f09663865354", func := "loop.example/restcovers/laws.FnExactHoleFill", spec := "fnExactHoleFill", unfollowed := true, recurses := true, apart := false, narrowed := true }
def FnExactHoleFillUptoSaid : Prop := fnExactHoleFillUptoRow.holds Try.pinned (OpenSpec.upto fnExactHoleFillSpec)

/-- 'laws.FnExactHoleWorst', WHERE WHAT IT READS IS OF BULK AT MOST 1048576: true; the input reads as it did. -/
def fnExactHoleWorstUptoRow : OpenClaim := { program := "ytelgmmnjndinhaa", sum := "f8ce8b193ae116aaaaa0b49b5acaecf84289c2e66616fa9e9325f09663865354", func := "loop.example/restcovers/laws.FnExactHoleWorst", spec := "fnExactHoleWorst", unfollowed := true, recurses := true, apart := false, narrowed := true }
def FnExactHoleWorstUptoSaid : Prop := fnExactHoleWorstUptoRow.holds Try.pinned (OpenSpec.upto fnExactHoleWorstSpec)

/-- 'laws.FnExactHoleMeet', WHERE WHAT IT READS IS OF BULK AT MOST 1048576: true; the input reads as it did. -/
def fnExactHoleMeetUptoRow : OpenClaim := { program := "ytelgmmnjndinhaa", sum := "f8ce8b193ae116aaaaa0b49b5acaecf84289c2e66616fa9e9325f09663865354", func := "loop.example/restcovers/laws.FnExactHoleMeet", spec := "fnExactHoleMeet", unfollowed := true, recurses := true, apart := false, narrowed := true }
def FnExactHoleMeetUptoSaid : Prop := fnExactHoleMeetUptoRow.holds Try.pinned (OpenSpec.upto fnExactHoleMeetSpec)

end Rows
end Go.Proofs.Ytelgmmnjndinhaa
