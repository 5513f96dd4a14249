/- Contracts of the two functions that give the greatest common divisor. -/
import Derived.Test.YtgdpebnnmklbjaaC1
import Derived.LoopTactic
namespace Go.Proofs.Ytgdpebnnmklbjaa
open Go.RowKit
def gcdI (a b : Int) : Int := ((a.toNat.gcd b.toNat : Nat) : Int)
theorem gcdI_zero {a : Int} (h : 0 ≤ a) : gcdI a 0 = a := by simp [gcdI]; omega
theorem gcdI_step {a b : Int} (ha : 0 ≤ a) (hb : 0 < b) : gcdI b (a % b) = gcdI a b := by
  obtain ⟨x, rfl⟩ := Int.eq_ofNat_of_zero_le ha
  obtain ⟨y, rfl⟩ := Int.eq_ofNat_of_zero_le (show 0 ≤ b by omega)
  have e : ((x : Int) % (y : Int)).toNat = x % y := by rw [← Int.natCast_emod]; exact Int.toNat_natCast _
  unfold gcdI
  rw [e]
  simp only [Int.toNat_natCast]
  rw [Nat.gcd_comm x y, Nat.gcd_rec y x, Nat.gcd_comm]
theorem c_l1Gcd (a b : Int) (ha : 0 ≤ a) (ha2 : a ≤ 1000) (hb : 0 ≤ b) (hb2 : b ≤ 1000) (w : World) : Calls Try.prog 72 #[.int .i64 a, .int .i64 b] w fun e w' => e = .returned (.int .i64 (gcdI a b)) ∧ w = w' := by
  go_enter Try.func72, Try.ntmps72
  go_wp2
  go_loop [0, 1] (fun x y => ∃ p q : Int, 0 ≤ p ∧ p ≤ 1000 ∧ 0 ≤ q ∧ q ≤ 1000 ∧ Hid (gcdI p q = gcdI a b) ∧ x = .int .i64 p ∧ y = .int .i64 q) (fun _ y => (intOf y).toNat)
  case atStart => exact ⟨a, b, ha, ha2, hb, hb2, rfl, rfl, rfl⟩
  case round =>
    obtain ⟨p, q, p1, p2, q1, q2, hg, rfl, rfl⟩ := hrel
    by_cases hq : q = 0
    · have hq0 : (q != 0) = false := by simp [hq]
      have hgo : p = gcdI a b := by have := hg.out; rw [hq, gcdI_zero p1] at this; exact this
      have HG := Lib.hid hgo
      clear hgo hg hq
      go_wp2
      go_ret
      exact ⟨ri HG.out, rfl⟩
    · have hq0 : (q != 0) = true := by simpa using hq
      have hm := emod_bd p q (by omega)
      have hs : Hid (gcdI q (p % q) = gcdI a b) := by show _ = _; rw [gcdI_step p1 (by omega)]; exact hg.out
      clear hg
      go_wp2
      go_round
      case rel => exact ⟨q, p % q, by omega, by omega, hm.1, by omega, hs, rfl, rfl⟩
      case measure => simp [intOf]; omega
theorem c_commonDivisor (a b : Int) (ha : 0 ≤ a) (ha2 : a ≤ 1000) (hb : 0 ≤ b) (hb2 : b ≤ 1000) (w : World) : Calls Try.prog 78 #[.int .i64 a, .int .i64 b] w fun e w' => ∃ n, e = .returned (.int .i64 (gcdI a b)) ∧ w' = w.drewN n := by
  go_enter Try.func78, Try.ntmps78
  go_wp2
  go_loopw [0, 1] (fun x y wr => ∃ (p q : Int) (n : Nat), 0 ≤ p ∧ p ≤ 1000 ∧ 0 ≤ q ∧ q ≤ 1000 ∧ Hid (gcdI p q = gcdI a b) ∧ x = .int .i64 p ∧ y = .int .i64 q ∧ wr = w.drewN n) (fun _ y _ => (intOf y).toNat)
  case atStart => exact ⟨a, b, 0, ha, ha2, hb, hb2, rfl, rfl, rfl, rfl⟩
  case round =>
    obtain ⟨p, q, n, p1, p2, q1, q2, hg, rfl, rfl, rfl⟩ := hrel
    by_cases hq : q = 0
    · have hq0 : (q != 0) = false := by simp [hq]
      have hgo : p = gcdI a b := by have := hg.out; rw [hq, gcdI_zero p1] at this; exact this
      have HG := Lib.hid hgo
      clear hgo hg hq
      go_wp2
      go_ret
      exact ⟨n, ri HG.out, rfl⟩
    · have hq0 : (q != 0) = true := by simpa using hq
      have hm := emod_bd p q (by omega)
      have hs : Hid (gcdI q (p % q) = gcdI a b) := by show _ = _; rw [gcdI_step p1 (by omega)]; exact hg.out
      clear hg
      go_wp2
      go_quiet (fail)
      go_wp2
      go_roundw
      case rel => exact ⟨q, p % q, n + nq, by omega, by omega, hm.1, by omega, hs, rfl, rfl, by simp [World.drewN, Nat.add_assoc]⟩
      case measure => simp [intOf]; omega
end Go.Proofs.Ytgdpebnnmklbjaa
