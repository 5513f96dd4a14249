/- Contracts of SystemHoles, SystemAll and SystemExact, in the program and in the model. -/
import Derived.Test.YtcokcnpnemhdfaaGreatDoorS14
import Derived.Test.YtcokcnpnemhdfaaGreatDoorS8
namespace Go.Proofs.YtcokcnpnemhdfaaGreatDoor
open Go.RowKit
open Go.Maps
/-- it is a system, and covers all -/
def alB (zs : List Cl) : Bool := sysB zs && (holL zs).isEmpty
theorem len_nil {L : List Int} : (L.length == 0) = L.isEmpty := by cases L <;> simp
def exaB (zs : List Cl) : Bool := alB zs && apaB zs
theorem alB_sys {zs : List Cl} (h : alB zs = true) : sysB zs = true := by
  unfold alB at h
  simp at h
  exact h.1
end Go.Proofs.YtcokcnpnemhdfaaGreatDoor
