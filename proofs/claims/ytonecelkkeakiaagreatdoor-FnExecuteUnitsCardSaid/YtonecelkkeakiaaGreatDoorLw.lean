/- A world in which the library's variables hold what the program's text lays into them (own text). -/
import Derived.Test.YtonecelkkeakiaaGreatDoorRows
import Derived.LaidHandle
import Derived.LaidLaws
import Derived.LaidSub
import Derived.Lay
import Derived.Handed
import Derived.KernelRfl
namespace Go.Proofs.YtonecelkkeakiaaGreatDoor
open Go
set_option maxRecDepth 100000
noncomputable def plainLaid : List (String × DataW Unit) := Rows.fnExecuteUnitsRow.laid.filter fun x => x.2.handleName?.isNone
noncomputable def heldWorld (os : Os) : World :=
  let w0 := World.holding Tryz.prog os ⟨#[], #[], []⟩
  { w0 with heap := w0.heap.modify 2 fun
      | .cells _ t frozen => .cells #[.iface 279 (.agg #[typeHandle Tryz.prog 53])] t frozen
      | o => o }
noncomputable def laidWorld (os : Os) : World := (heldWorld os).layVars Tryz.prog plainLaid
theorem laidWorld_os (os : Os) : (laidWorld os).os = os := (World.layVars_os _ _ _).trans rfl
theorem laidFits (os : Os) : (heldWorld os).layFits Tryz.prog plainLaid [] = true := by kernel_rfl
theorem laidIfaces (os : Os) : (heldWorld os).layIfaces Tryz.prog plainLaid (laidWorld os) = true := by kernel_rfl
theorem laidHandle (os : Os) (args : Array Value) : ((Rows.fnExecuteUnitsRow.laid).filter fun x => x.2.handleName?.isSome).all (handleAtB Tryz.prog ((laidWorld os).forCall (fun _ _ => 0) ⟨#[], args, []⟩).memory) = true := by kernel_rfl
theorem laidPlain (os : Os) : laidMet Tryz.prog plainLaid (laidWorld os) := by
  have e1 : (plainLaid.filter fun x => (plainLaid.map (·.1)).contains x.1) = plainLaid := List.filter_eq_self.2 fun x hx => List.contains_iff_mem.2 (List.mem_map.2 ⟨x, hx, rfl⟩)
  have e2 : (plainLaid.filter fun x => !(plainLaid.map (·.1)).contains x.1) = [] := List.filter_eq_nil_iff.2 fun x hx => by rw [List.contains_iff_mem.2 (List.mem_map.2 ⟨x, hx, rfl⟩)]; simp
  exact laidMet_layVars (w0 := heldWorld os) (plainLaid.map (·.1)) [] (by rw [e1]; rfl) (by rw [e1]; exact laidFits os) (by rw [e1]; exact laidIfaces os) (by rw [e2]; exact LaidIn.none)
theorem laidWorld_met (os : Os) (args : Array Value) : laidMetH Tryz.prog Rows.fnExecuteUnitsRow.laid ((laidWorld os).forCall (fun _ _ => 0) ⟨#[], args, []⟩).memory :=
  laidMetH_of_parts ((laidPlain os).of_heap (by simp [World.memory, World.forCall, Input.heap])) (laidHandle os args)
end Go.Proofs.YtonecelkkeakiaaGreatDoor
