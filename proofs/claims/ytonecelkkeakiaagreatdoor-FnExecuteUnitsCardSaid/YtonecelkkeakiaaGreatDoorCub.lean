/- A closed fact of the row FnExecuteUnits, by itself. -/
import Derived.Test.YtonecelkkeakiaaGreatDoorRows
import Derived.Conc.LeavingOf
import Derived.KernelRfl
namespace Go.Proofs.YtonecelkkeakiaaGreatDoor
theorem f_inPlace : (Rows.fnExecuteUnitsRow.inPlace == Tryz.prog.inPlace 7) = true := by kernel_rfl
end Go.Proofs.YtonecelkkeakiaaGreatDoor
