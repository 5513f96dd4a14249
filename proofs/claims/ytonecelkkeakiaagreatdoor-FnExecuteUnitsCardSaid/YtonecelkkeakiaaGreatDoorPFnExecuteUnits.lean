/- The tied card of the law FnExecuteUnits. -/
import Derived.Test.YtonecelkkeakiaaGreatDoorQu
namespace Go.Proofs.YtonecelkkeakiaaGreatDoor.fnExecuteUnitsDone
open Go
theorem six : Claim7.isSixth { stood := { row := Rows.fnExecuteUnitsRow, standIns := [], harness := Rows.fnExecuteUnitsCard.stood.harness, looks := true }, kinds := [] } = false := by kernel_rfl
theorem goes : true = Rows.fnExecuteUnitsRow.goesBy Tryz.pinned.checked.prog := by kernel_rfl
theorem mains : Tryz.pinned.checked.prog.mainIs = some (Rows.fnExecuteUnitsCard.stood.harness.1, Rows.fnExecuteUnitsCard.stood.harness.2.toList) := by kernel_rfl
theorem wfs : Rows.fnExecuteUnitsRow.wfByText (OpenSpec.ofChange Rows.fnExecuteUnitsSpec) = true := by kernel_rfl
theorem card : Rows.FnExecuteUnitsCardSaid := by
  unfold Rows.FnExecuteUnitsCardSaid Rows.fnExecuteUnitsCard
  refine ⟨Claim7.tied_new_at .later [.data, .data, .data, .data, .handle, .sentinel, .sentinel, .pinned] true (Claim7.new_of_sixth said (true, "6e1f25ca6dadaf2ab704774d7469c384f2398d334629965ba918e757c6251520") true rfl ⟨rfl, rfl⟩ mains six plain) wfs, fun D hD => ?_, fnExecuteUnits_row_tie, fun h => ?_, goes⟩
  · cases hD
  · cases h
#print axioms card
end Go.Proofs.YtonecelkkeakiaaGreatDoor.fnExecuteUnitsDone
