/- A closed fact of the row FnExecuteUnits, by itself. -/
import Derived.Test.YtonecelkkeakiaaGreatDoorRows
import Derived.Conc.LeavingOf
import Derived.KernelRfl
namespace Go.Proofs.YtonecelkkeakiaaGreatDoor
theorem f_named : (Rows.fnExecuteUnitsRow.named == Tryz.prog.varsNamed 7) = true := by kernel_rfl
end Go.Proofs.YtonecelkkeakiaaGreatDoor
