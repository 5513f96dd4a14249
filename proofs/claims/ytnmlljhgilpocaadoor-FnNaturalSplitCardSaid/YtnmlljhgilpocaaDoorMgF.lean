/- Contracts of SystemHoles, SystemAll and SystemExact, in the program and in the model. -/
import Derived.Test.YtnmlljhgilpocaaDoorMgE
import Derived.Test.YtnmlljhgilpocaaDoorMz8
import Derived.Test.YtnmlljhgilpocaaDoorCA
import Derived.Test.YtnmlljhgilpocaaDoorMathL
import Derived.Shelf.Slices.Equal
import Derived.Shelf.Slices.Empties2
namespace Go.Proofs.YtnmlljhgilpocaaDoor
open Go.RowKit
open Go.Maps
/-- it is a system, and covers all -/
def alB (zs : List Cl) : Bool := sysB zs && (holL zs).isEmpty
theorem len_nil {L : List Int} : (L.length == 0) = L.isEmpty := by cases L <;> simp
def exaB (zs : List Cl) : Bool := alB zs && apaB zs
theorem alB_sys {zs : List Cl} (h : alB zs = true) : sysB zs = true := by
  unfold alB at h
  simp at h
  exact h.1
end Go.Proofs.YtnmlljhgilpocaaDoor
namespace Go.Proofs.YtnmlljhgilpocaaDoor
open Go.RowKit
open Go.Maps
theorem ints_cells {w : World} {b off n : Nat} {xs : List Int} (h : Ints w (some ⟨b, off, none⟩) n xs) (h0 : 0 < n) : ∀ j, j < xs.length → w.cell? ⟨b, off + j, none⟩ = some (.int .i64 (xs.getD j 0)) := by
  intro j hj
  have hl := h.len
  rcases h.lies with h1 | ⟨b', off', e, _, hcells⟩
  · omega
  · simp only [Option.some.injEq, Addr.mk.injEq, and_true] at e
    obtain ⟨rfl, rfl⟩ := e
    rw [hcells j (by omega), List.getD_eq_getElem?_getD]
theorem holK_len (zs : List Cl) (k : Nat) (h : k ≤ 1000) : (holK zs k).length ≤ 1048576 := by have := holK_le zs k; omega
end Go.Proofs.YtnmlljhgilpocaaDoor
namespace Go.Proofs.YtnmlljhgilpocaaDoor
open Go.RowKit
end Go.Proofs.YtnmlljhgilpocaaDoor
