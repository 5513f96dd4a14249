/- Contracts of HoleWorst, in the program and in the model; the program's holesAndPeriod. -/
import Derived.Test.YtgdpebnnmklbjaaS15
import Derived.BigQuiet
namespace Go.Proofs.Ytgdpebnnmklbjaa
open Go.RowKit
def RetIP (w : World) (zs : List Int) (P : Int) (ok : Bool) (e : Ending) (w' : World) : Prop := ∃ v, e = .returned (.tuple #[v, .int .i64 P, .bool ok]) ∧ OwnI w' w.heap.size 3 v zs ∧ Below w.heap.size w w'
/-- both numbers of HoleWorst -/
def worG (zs : List Cl) : Int := gcdI ((holL zs).length : Int) (perI zs)
def worN (zs : List Cl) : Int := selI (sysB zs) (((holL zs).length : Int) / worG zs)
def worM (zs : List Cl) : Int := selI (sysB zs) (perI zs / worG zs)
theorem holL_le {zs : List Cl} (h : sysB zs = true) : (holL zs).length ≤ 1000 := by
  have := holR_le zs
  rwa [holR_t h] at this
theorem worG_bd {zs : List Cl} (h : sysB zs = true) : 1 ≤ worG zs := by
  obtain ⟨_, _, _, _, P1, P2⟩ := sysB_facts h
  unfold worG gcdI
  have : 0 < (((holL zs).length : Int).toNat).gcd (perI zs).toNat := Nat.gcd_pos_of_pos_right _ (by omega)
  omega
def Ret3 (a b : Int) (ok : Bool) (w : World) (e : Ending) (w' : World) : Prop := e = .returned (.tuple #[.int .i64 a, .int .i64 b, .bool ok]) ∧ Below w.heap.size w w'
end Go.Proofs.Ytgdpebnnmklbjaa
