/- Contracts of the two functions that give the greatest common divisor. -/
import Derived.Test.YtchplpaniafhlaaC1
import Derived.LoopTactic
namespace Go.Proofs.Ytchplpaniafhlaa
open Go.RowKit
def gcdI (a b : Int) : Int := ((a.toNat.gcd b.toNat : Nat) : Int)
theorem gcdI_zero {a : Int} (h : 0 ≤ a) : gcdI a 0 = a := by simp [gcdI]; omega
theorem gcdI_step {a b : Int} (ha : 0 ≤ a) (hb : 0 < b) : gcdI b (a % b) = gcdI a b := by
  obtain ⟨x, rfl⟩ := Int.eq_ofNat_of_zero_le ha
  obtain ⟨y, rfl⟩ := Int.eq_ofNat_of_zero_le (show 0 ≤ b by omega)
  have e : ((x : Int) % (y : Int)).toNat = x % y := by rw [← Int.natCast_emod]; exact Int.toNat_natCast _
  unfold gcdI
  rw [e]
  simp only [Int.toNat_natCast]
  rw [Nat.gcd_comm x y, Nat.gcd_rec y x, Nat.gcd_comm]
end Go.Proofs.Ytchplpaniafhlaa
