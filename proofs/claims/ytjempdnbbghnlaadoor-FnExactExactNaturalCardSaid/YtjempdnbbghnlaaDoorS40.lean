/- Contracts of ExactLeast, in the program and in the model. -/
import Derived.Test.YtjempdnbbghnlaaDoorC1
import Derived.Test.YtjempdnbbghnlaaDoorMathN
import Derived.LoopTactic
import Derived.BigQuiet
namespace Go.Proofs.YtjempdnbbghnlaaDoor
open Go.RowKit
set_option maxHeartbeats 1000000 in
theorem c_l4Prime (n : Nat) (h1 : 2 ≤ n) (h2 : n ≤ 1000) (w : World) : Calls Tryd.prog 27 #[.int .i64 n] w fun e w' => e = .returned (.int .i64 (lpd n)) ∧ Below w.heap.size w w' := by
  obtain ⟨p1, p2, p3, p4⟩ := lpd_ex h1
  have HL := Lib.hid (fun (q : Nat) (a : 2 ≤ q) (b : n % q = 0) c => lpd_eq (show 1 ≤ n by omega) a b c)
  have HN := Lib.hid (fun (q : Nat) (a : 2 ≤ q) (b : q < lpd n) => p4 q a b)
  have HP := Lib.hid p3
  clear p3 p4
  go_enter Tryd.func27, Tryd.ntmps27
  go_wp2_with fail
  go_loopw [3] (fun i wr => ∃ q : Nat, 2 ≤ q ∧ q ≤ lpd n ∧ i = .int .i64 q ∧ Below w.heap.size w wr) (fun i _ => n - (intOf i).toNat)
  case atStart => exact ⟨2, Nat.le_refl _, p1, rfl, Below.refl _ _⟩
  case round =>
    obtain ⟨q, q1, q2, rfl, hB⟩ := hrel
    have hqz : ¬ (q : Int) = 0 := by omega
    have hz5 : (0 : Int) ≤ (n : Int) := by omega
    by_cases hq : q = lpd n
    · subst hq
      have hm : ((n : Int) % ((lpd n : Nat) : Int) != 0) = false := by
        rw [← Int.natCast_emod, HP.out]
        rfl
      go_wp2_with fail
      go_ret
      exact ⟨rfl, hB⟩
    · have hne := HN.out q q1 (by omega)
      have hm : (Int.tmod (n : Int) (q : Int) != 0) = true := by
        rw [Int.tmod_eq_emod_of_nonneg hz5, ← Int.natCast_emod]
        simp
        omega
      have hqw : q < 1000 := by omega
      go_wp2_with fail
      go_roundw
      case rel => exact ⟨q + 1, by omega, by omega, by go_num, hB⟩
      case measure => simp [intOf]; omega
end Go.Proofs.YtjempdnbbghnlaaDoor
