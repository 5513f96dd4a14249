/- Contracts of the helpers of the exact laws on lists of classes: how many there are, the list laid anew, two lists compared. -/
import Derived.Test.YtgdpebnnmklbjaaC1
import Derived.Test.YtgdpebnnmklbjaaMathS
import Derived.LoopTactic
import Derived.OwnWalk
import Derived.Laws.OwnMore
namespace Go.Proofs.Ytgdpebnnmklbjaa
open Go.RowKit
theorem infoC : (Try.prog.info? 34).map (fun i => (i.zero, i.size, i.bytes)) = some (some (.agg #[.int .i64 0, .int .i64 0]), 2, 16) := by kernel_rfl
def ToPost (w : World) (zs : List Cl) (e : Ending) (w' : World) : Prop := ∃ g, w.heap.size ≤ g ∧ e = .returned (.slice (some ⟨g, 0, none⟩) zs.length zs.length) ∧ OwnC w' w.heap.size 34 (.slice (some ⟨g, 0, none⟩) zs.length zs.length) zs ∧ Below w.heap.size w w'
end Go.Proofs.Ytgdpebnnmklbjaa
