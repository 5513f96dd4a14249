/- The tied card of the law FnExecuteShare. -/
import Derived.Test.YtonecelkkeakiaaGreatDoorQus
namespace Go.Proofs.YtonecelkkeakiaaGreatDoor.fnExecuteShareDone
open Go
theorem six : Claim7.isSixth { stood := { row := Rows.fnExecuteShareRow, standIns := [], harness := Rows.fnExecuteShareCard.stood.harness, looks := true }, kinds := [] } = false := by kernel_rfl
theorem goes : true = Rows.fnExecuteShareRow.goesBy Tryz.pinned.checked.prog := by kernel_rfl
theorem mains : Tryz.pinned.checked.prog.mainIs = some (Rows.fnExecuteShareCard.stood.harness.1, Rows.fnExecuteShareCard.stood.harness.2.toList) := by kernel_rfl
theorem wfs : Rows.fnExecuteShareRow.wfByText (OpenSpec.ofChange Rows.fnExecuteShareSpec) = true := by kernel_rfl
theorem card : Rows.FnExecuteShareCardSaid := by
  unfold Rows.FnExecuteShareCardSaid Rows.fnExecuteShareCard
  refine ⟨Claim7.tied_new_at .later [.data, .data, .data, .data, .handle, .sentinel, .sentinel, .pinned] true (Claim7.new_of_sixth said (true, "6e1f25ca6dadaf2ab704774d7469c384f2398d334629965ba918e757c6251520") true rfl ⟨rfl, rfl⟩ mains six plain) wfs, fun D hD => ?_, fnExecuteShare_row_tie, fun h => ?_, goes⟩
  · cases hD
  · cases h
#print axioms card
end Go.Proofs.YtonecelkkeakiaaGreatDoor.fnExecuteShareDone
