/- The walk of the promise law FnPower. -/
import Derived.Test.YtcbpbfencgnppaaDg
import Derived.Test.YtcbpbfencgnppaaY2
namespace Go.Proofs.Ytcbpbfencgnppaa
open Go.RowKit
set_option maxRecDepth 20000 in
set_option maxHeartbeats 4000000 in
theorem w_FnPower (s : Option Addr) (len cap : Nat) (w : World) (h : Code0 w s len cap) : Calls Try.prog 6 #[.slice s len cap] w fun e w' => e = .returned (.bool true) ∧ Below w.heap.size w w' := by
  have hlc := h.lc
  have hcm := h.cm
  unfold maxLen at hcm
  by_cases hlen : ¬ len ≤ 1048576
  · go_enter Try.func6, Try.ntmps6
    go_wp2_with fail
    go_ret
    exact ⟨rfl, Below.refl _ _⟩
  have hlen2 : len ≤ 1048576 := by omega
  clear hlen
  go_enter Try.func6, Try.ntmps6
  go_wp2_with fail
  refine (c_DrawSolvePower s len cap _ h).mono ?_
  rintro e w0 ⟨a, k, m, a1, a2, k1, k2, m1, m2, rfl, hT⟩
  have hI := fun w0 => c_implSolvePower a k m w0
  have hS := fun w1 => c_specSolvePower a k m w1
  have hN := fun w1 => c_implSolvePower a (k + 1) m w1
  cases ho : powB a k m
  · rw [powR_f ho, ho] at hI hS
    go_wp2_with fail
    refine (hI _).mono ?_
    rintro e w1 ⟨rfl, rfl⟩
    go_wp2_with fail
    refine (hS _).mono ?_
    rintro e w2 ⟨rfl, rfl⟩
    go_wp2_with fail
    go_ret
    exact ⟨rfl, hT⟩
  · obtain ⟨ha, hm, _, _, p0, p1⟩ := powR_bd ho
    obtain ⟨na1, na2⟩ := numB_iff.1 ha
    obtain ⟨r1, r2⟩ := big_mul na1 na2 p0 (by omega)
    rw [Int.mul_comm] at r1 r2
    rw [ho] at hI hS
    by_cases hk : k = 1000000
    · have hkb : (k == 1000000) = true := by simpa using hk
      clear ha hm ho hk
      go_wp2_with fail
      refine (hI _).mono ?_
      rintro e w1 ⟨rfl, rfl⟩
      go_wp2_with fail
      refine (hS _).mono ?_
      rintro e w2 ⟨rfl, rfl⟩
      go_wp2_with fail
      refine (hN _).mono ?_
      rintro e w3 ⟨rfl, rfl⟩
      clear hI hS hN
      go_wp2_with fail
      go_ret
      exact ⟨rfl, hT⟩
    · have hkb : (k == 1000000) = false := by simpa using hk
      obtain ⟨hB, hd⟩ := pow_next ho hk
      obtain ⟨_, _, _, _, x0, x1⟩ := powR_bd hB
      have hz := tmod_zero hd
      rw [hB] at hN
      clear ha hm ho hk hB hd
      generalize powR a k m = P at *
      generalize powR a (k + 1) m = X at *
      go_wp2_with fail
      refine (hI _).mono ?_
      rintro e w1 ⟨rfl, rfl⟩
      go_wp2_with fail
      refine (hS _).mono ?_
      rintro e w2 ⟨rfl, rfl⟩
      go_wp2_with fail
      refine (hN _).mono ?_
      rintro e w3 ⟨rfl, rfl⟩
      clear hI hS hN
      go_wp2_with fail
      go_ret
      exact ⟨rfl, hT⟩
end Go.Proofs.Ytcbpbfencgnppaa
