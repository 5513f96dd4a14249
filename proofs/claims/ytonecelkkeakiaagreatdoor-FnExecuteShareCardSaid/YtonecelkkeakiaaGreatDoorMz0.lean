/- A closed fact of the row FnExecuteUnits, by itself. -/
import Derived.Test.YtonecelkkeakiaaGreatDoorRows
import Derived.Conc.LeavingOf
import Derived.KernelRfl
namespace Go.Proofs.YtonecelkkeakiaaGreatDoor
theorem f_laid : (laidOutB Tryz.prog) = true := by kernel_rfl
end Go.Proofs.YtonecelkkeakiaaGreatDoor
namespace Go.Proofs.YtonecelkkeakiaaGreatDoor
theorem f_heard : (Tryz.prog.stopsHeard) = true := by kernel_rfl
end Go.Proofs.YtonecelkkeakiaaGreatDoor
namespace Go.Proofs.YtonecelkkeakiaaGreatDoor
theorem f_maps : (mapsRowed Tryz.prog) = true := by kernel_rfl
end Go.Proofs.YtonecelkkeakiaaGreatDoor
namespace Go.Proofs.YtonecelkkeakiaaGreatDoor
theorem g_inPlace : (Rows.fnExecuteShareRow.inPlace == Tryz.prog.inPlace 6) = true := by kernel_rfl
end Go.Proofs.YtonecelkkeakiaaGreatDoor
namespace Go.Proofs.YtonecelkkeakiaaGreatDoor
theorem g_named : (Rows.fnExecuteShareRow.named == Tryz.prog.varsNamed 6) = true := by kernel_rfl
end Go.Proofs.YtonecelkkeakiaaGreatDoor
namespace Go.Proofs.YtonecelkkeakiaaGreatDoor
theorem g_rec : (Rows.fnExecuteShareRow.recurses == Tryz.prog.recurses 6) = true := by kernel_rfl
end Go.Proofs.YtonecelkkeakiaaGreatDoor
namespace Go.Proofs.YtonecelkkeakiaaGreatDoor
theorem g_unf : (Rows.fnExecuteShareRow.unfollowed == Tryz.prog.unfollowed 6) = true := by kernel_rfl
end Go.Proofs.YtonecelkkeakiaaGreatDoor
namespace Go.Proofs.YtonecelkkeakiaaGreatDoor
theorem g_keys : (Rows.fnExecuteShareRow.plainKeys == Tryz.prog.plainKeys) = true := by kernel_rfl
end Go.Proofs.YtonecelkkeakiaaGreatDoor
