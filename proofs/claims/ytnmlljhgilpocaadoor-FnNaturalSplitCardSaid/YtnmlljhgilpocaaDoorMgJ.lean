/- Contracts of the helpers of the exact laws on lists of classes: how many there are, the list laid anew, two lists compared. -/
import Derived.Test.YtnmlljhgilpocaaDoorMgK
import Derived.Test.YtnmlljhgilpocaaDoorMathS
import Derived.LoopTactic
import Derived.OwnWalk
import Derived.Laws.OwnMore
import Derived.Test.YtnmlljhgilpocaaDoorS1
namespace Go.Proofs.YtnmlljhgilpocaaDoor
open Go.RowKit
theorem infoC : (Tryd.prog.info? 41).map (fun i => (i.zero, i.size, i.bytes)) = some (some (.agg #[.int .i64 0, .int .i64 0]), 2, 16) := by kernel_rfl
def ToPost (w : World) (zs : List Cl) (e : Ending) (w' : World) : Prop := ∃ g, w.heap.size ≤ g ∧ e = .returned (.slice (some ⟨g, 0, none⟩) zs.length zs.length) ∧ OwnC w' w.heap.size 41 (.slice (some ⟨g, 0, none⟩) zs.length zs.length) zs ∧ Below w.heap.size w w'
end Go.Proofs.YtnmlljhgilpocaaDoor
namespace Go.Proofs.YtnmlljhgilpocaaDoor
open Go.RowKit
/-- the sum of the period over the first k moduli -/
def shrK (P : Int) (zs : List Cl) : Nat → Int
  | 0 => 0
  | k + 1 => shrK P zs k + P / mAt zs k
theorem rib {a b : Int} {x : Bool} (h : a = b) : Ending.returned (.tuple #[.int .i64 a, .bool x]) = .returned (.tuple #[.int .i64 b, .bool x]) := by rw [h]
def shrI (zs : List Cl) : Int := shrK (perI zs) zs zs.length
theorem shrK_bd {P : Int} {zs : List Cl} (h1 : 1 ≤ P) (h2 : P ≤ 1000) (ha : allB zs = true) (k : Nat) (hk : k ≤ zs.length) : 0 ≤ shrK P zs k ∧ shrK P zs k ≤ 1000 * (k : Int) := by
  induction k with
  | zero => simp [shrK]
  | succ k ih =>
    obtain ⟨i1, i2⟩ := ih (by omega)
    obtain ⟨m1, m2, _, _⟩ := inB_iff.1 (allB_at ha k (by omega))
    have := quo_bd (show 0 ≤ P by omega) m1
    simp only [shrK]
    omega
end Go.Proofs.YtnmlljhgilpocaaDoor
namespace Go.Proofs.YtnmlljhgilpocaaDoor
open Go.RowKit
end Go.Proofs.YtnmlljhgilpocaaDoor
