/- Contracts of ClassOf, in the program and in its model, and the walks of two exact laws: each call returns what is said, and changes nothing that was there. -/
import Derived.Test.YtiplnfggiffngaaC1
import Derived.LoopTactic
import Derived.Test.YtiplnfggiffngaaMathS
import Derived.BigQuiet
import Derived.OwnWalk
import Derived.Laws.OwnMore
namespace Go.Proofs.Ytiplnfggiffngaa
open Go.RowKit
/-! ClassOf -/
end Go.Proofs.Ytiplnfggiffngaa
namespace Go.Proofs.Ytiplnfggiffngaa
open Go.RowKit
def gcdI (a b : Int) : Int := ((a.toNat.gcd b.toNat : Nat) : Int)
theorem gcdI_zero {a : Int} (h : 0 ≤ a) : gcdI a 0 = a := by simp [gcdI]; omega
theorem gcdI_step {a b : Int} (ha : 0 ≤ a) (hb : 0 < b) : gcdI b (a % b) = gcdI a b := by
  obtain ⟨x, rfl⟩ := Int.eq_ofNat_of_zero_le ha
  obtain ⟨y, rfl⟩ := Int.eq_ofNat_of_zero_le (show 0 ≤ b by omega)
  have e : ((x : Int) % (y : Int)).toNat = x % y := by rw [← Int.natCast_emod]; exact Int.toNat_natCast _
  unfold gcdI
  rw [e]
  simp only [Int.toNat_natCast]
  rw [Nat.gcd_comm x y, Nat.gcd_rec y x, Nat.gcd_comm]
end Go.Proofs.Ytiplnfggiffngaa
namespace Go.Proofs.Ytiplnfggiffngaa
open Go.RowKit
set_option maxRecDepth 20000 in
set_option maxHeartbeats 1000000 in
theorem c_sameInts (s t : Option Addr) (n c1 c2 : Nat) (zs : List Int) (hn : n ≤ 1048576) (w : World) (hs : Ints w s n zs) (ht : Ints w t n zs) : Calls Try.prog 9 #[.slice s n c1, .slice t n c2] w fun e w' => e = .returned (.bool true) ∧ Below w.heap.size w w' := by
  go_enter Try.func9, Try.ntmps9
  go_wp2_with fail
  go_loopw [5] (fun i wr => ∃ k : Nat, k ≤ n ∧ i = .int .i64 k ∧ Below w.heap.size w wr) (fun i _ => n - (intOf i).toNat)
  case atStart => exact ⟨0, Nat.zero_le _, rfl, Below.refl _ _⟩
  case round =>
    obtain ⟨k, hk, rfl, hB⟩ := hrel
    by_cases hlt : k < n
    · rcases (hs.keep hB).lies with h0 | ⟨b1, o1, rfl, hb1, hcells1⟩
      · omega
      rcases (ht.keep hB).lies with h0 | ⟨b2, o2, rfl, hb2, hcells2⟩
      · omega
      have hx := hcells1 k hlt
      have hx2 := hcells2 k hlt
      clear hcells1 hcells2
      go_wp2_with fail
      go_quiet (fail)
      go_wp2_with fail
      go_roundw
      case rel => exact ⟨k + 1, by omega, by go_num, bel_drewN hB _⟩
      case measure => simp [intOf]; omega
    · go_wp2_with fail
      go_ret
      exact ⟨rfl, hB⟩
end Go.Proofs.Ytiplnfggiffngaa
namespace Go.Proofs.Ytiplnfggiffngaa
open Go.RowKit
end Go.Proofs.Ytiplnfggiffngaa
