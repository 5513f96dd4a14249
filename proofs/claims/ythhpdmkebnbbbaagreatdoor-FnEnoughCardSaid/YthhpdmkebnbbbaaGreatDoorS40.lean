/- Contracts of ExactLeast, in the program and in the model. -/
import Derived.Test.YthhpdmkebnbbbaaGreatDoorMgK
import Derived.Test.YthhpdmkebnbbbaaGreatDoorMgA
import Derived.LoopTactic
import Derived.BigQuiet
namespace Go.Proofs.YthhpdmkebnbbbaaGreatDoor
open Go.RowKit
set_option maxHeartbeats 1000000 in
theorem c_l4Prime (n : Nat) (h1 : 2 ≤ n) (h2 : n ≤ 1000) (w : World) : Calls Tryz.prog 52 #[.int .i64 n] w fun e w' => e = .returned (.int .i64 (lpd n)) ∧ Below w.heap.size w w' := by
  obtain ⟨p1, p2, p3, p4⟩ := lpd_ex h1
  have HL := Lib.hid (fun (q : Nat) (a : 2 ≤ q) (b : n % q = 0) c => lpd_eq (show 1 ≤ n by omega) a b c)
  have HN := Lib.hid (fun (q : Nat) (a : 2 ≤ q) (b : q < lpd n) => p4 q a b)
  have HP := Lib.hid p3
  clear p3 p4
  go_enter Tryz.func52, Tryz.ntmps52
  go_wp2_with fail
  go_loopw [3] (fun i wr => ∃ q : Nat, 2 ≤ q ∧ q ≤ lpd n ∧ i = .int .i64 q ∧ Below w.heap.size w wr) (fun i _ => n - (intOf i).toNat)
  case atStart => exact ⟨2, Nat.le_refl _, p1, rfl, Below.refl _ _⟩
  case round =>
    obtain ⟨q, q1, q2, rfl, hB⟩ := hrel
    have hqz : ¬ (q : Int) = 0 := by omega
    have hz5 : (0 : Int) ≤ (n : Int) := by omega
    by_cases hq : q = lpd n
    · subst hq
      have hm : ((n : Int) % ((lpd n : Nat) : Int) != 0) = false := by
        rw [← Int.natCast_emod, HP.out]
        rfl
      go_wp2_with fail
      go_ret
      exact ⟨rfl, hB⟩
    · have hne := HN.out q q1 (by omega)
      have hm : (Int.tmod (n : Int) (q : Int) != 0) = true := by
        rw [Int.tmod_eq_emod_of_nonneg hz5, ← Int.natCast_emod]
        simp
        omega
      have hqw : q < 1000 := by omega
      go_wp2_with fail
      go_roundw
      case rel => exact ⟨q + 1, by omega, by omega, by go_num, hB⟩
      case measure => simp [intOf]; omega
set_option maxHeartbeats 1000000 in
theorem c_implExactLeast (x : Int) (w : World) : Calls Tryz.prog 20 #[.int .i64 x] w fun e w' => e = .returned (.tuple #[.int .i64 (leaI x), .bool (modB x)]) ∧ Below w.heap.size w w' := by
  by_cases hm : 1 ≤ x ∧ x ≤ 1000
  · obtain ⟨N, rfl⟩ := Int.eq_ofNat_of_zero_le (show 0 ≤ x by omega)
    have hb : modB (N : Int) = true := by simp [modB]; omega
    have HI := Lib.hid (show leaI (N : Int) = 1 + (leaS N : Int) by simp [leaI, hb])
    have hle := leaS_le N N (Nat.le_refl _) (by omega)
    rw [hb]
    go_enter Tryz.func20, Tryz.ntmps20
    go_wp2_with ((go_at_call 39; refine (c_inModuli _ _).mono ?_; rintro e w1 ⟨rfl, rfl⟩))
    go_loopw [0, 4, 5] (fun n k p wr => ∃ M K q : Nat, 1 ≤ M ∧ M ≤ 1000 ∧ n = .int .i64 M ∧ k = .int .i64 K ∧ p = .int .i64 q ∧ 2 ≤ q ∧ q ≤ 1001 ∧ Hid (∀ d, 2 ≤ d → d < q → M % d ≠ 0) ∧ Hid (K + leaS M = 1 + leaS N) ∧ K ≤ 1000 ∧ Below w.heap.size w wr) (fun _ _ p _ => 1002 - (intOf p).toNat)
    case atStart => exact ⟨N, 1, 2, by omega, by omega, rfl, rfl, rfl, by omega, by omega, fun d h1 h2 => by omega, rfl, by omega, Below.refl _ _⟩
    case round =>
      obtain ⟨M, K, q, m1, m2, rfl, rfl, rfl, q1, q2, hD, hS, hK, hB⟩ := hrel
      by_cases hM : M ≤ 1
      · have hS2 := hS.out
        rw [leaS_one hM] at hS2
        have HK := Lib.hid (show (K : Int) = leaI (N : Int) by rw [HI.out]; omega)
        have hMz : ¬ (1 : Int) < (M : Int) := by omega
        clear hS hS2 hD
        go_wp2_with fail
        go_ret2
        rw [HK.out]
        exact ⟨rfl, hB⟩
      · have hMz : (1 : Int) < (M : Int) := by omega
        have hqM : q ≤ M := by
          refine Nat.le_of_not_lt fun h => ?_
          exact hD.out M (by omega) h (Nat.mod_self M)
        have hq1000 : q ≤ 1000 := by omega
        go_wp2_with fail
        go_loopw [0, 4] (fun n k wr => ∃ M K : Nat, 1 ≤ M ∧ M ≤ 1000 ∧ n = .int .i64 M ∧ k = .int .i64 K ∧ Hid (∀ d, 2 ≤ d → d < q → M % d ≠ 0) ∧ Hid (K + leaS M = 1 + leaS N) ∧ K ≤ 1000 ∧ Below w.heap.size w wr) (fun n _ _ => (intOf n).toNat)
        case atStart => exact ⟨M, K, m1, m2, rfl, rfl, hD, hS, hK, hB⟩
        case round =>
          clear hM hMz hD hS hK hB hqM
          obtain ⟨M, K, m1, m2, rfl, rfl, hD, hS, hK, hB⟩ := hrel
          have hqz : ¬ (q : Int) = 0 := by omega
          have hz5 : (0 : Int) ≤ (M : Int) := by omega
          by_cases hq : M % q = 0
          · have hMq := Nat.le_of_dvd m1 (Nat.dvd_of_mod_eq_zero hq)
            have e := lpd_eq m1 q1 hq hD.out
            obtain ⟨d1, d2⟩ := div_lt_self' (show 2 ≤ M by omega)
            have hst := leaS_step (show 2 ≤ M by omega)
            rw [e] at d1 d2 hst
            have hS2 := hS.out
            rw [hst] at hS2
            have hS3 := Lib.hid (show (K + q - 1) + leaS (M / q) = 1 + leaS N by omega)
            have hD2 := Lib.hid (show ∀ d, 2 ≤ d → d < q → (M / q) % d ≠ 0 from fun d h1 h2 h3 => hD.out d h1 h2 (Nat.mod_eq_zero_of_dvd (Nat.dvd_trans (Nat.dvd_of_mod_eq_zero h3) (Nat.div_dvd_of_dvd (Nat.dvd_of_mod_eq_zero hq)))))
            have hKb : K + q ≤ 1001 := by omega
            have hm0 : Int.tmod (M : Int) (q : Int) = 0 := by
              rw [Int.tmod_eq_emod_of_nonneg hz5, ← Int.natCast_emod, hq]
              rfl
            have htd : Int.tdiv (M : Int) (q : Int) = ((M / q : Nat) : Int) := by
              rw [Int.tdiv_eq_ediv_of_nonneg (by omega), ← Int.natCast_ediv]
            have hwd : IntKind.i64.wrap ((M / q : Nat) : Int) = ((M / q : Nat) : Int) := IntWalk.i64_in _ (by omega)
            have hwa : IntKind.i64.wrap ((q : Int) - 1) = (q : Int) - 1 := IntWalk.i64_in _ (by omega)
            have hwb : IntKind.i64.wrap ((K : Int) + ((q : Int) - 1)) = ((K + q - 1 : Nat) : Int) := by
              rw [IntWalk.i64_in _ (by omega)]; omega
            clear hS hS2 hst e hD
            generalize M / q = D at *
            go_wp2_with fail
            go_roundw
            case rel => exact ⟨D, K + q - 1, d2, by omega, rfl, rfl, hD2, hS3, by omega, hB⟩
            case measure => simp [intOf]; omega
          · have hm0 : (Int.tmod (M : Int) (q : Int) == 0) = false := by
              rw [Int.tmod_eq_emod_of_nonneg hz5, ← Int.natCast_emod]
              exact beq_false_of_ne (by omega)
            have hD2 := Lib.hid (show ∀ d, 2 ≤ d → d < q + 1 → M % d ≠ 0 from fun d h1 h2 => by
              by_cases e : d = q
              · rw [e]; exact hq
              · exact hD.out d h1 (by omega))
            go_wp2_with fail
            go_roundw
            case rel => exact ⟨M, K, q + 1, m1, m2, rfl, rfl, by go_num, by omega, by omega, hD2, hS, hK, hB⟩
            case measure => simp [intOf]; omega
  · have hb : modB x = false := by simp [modB]; omega
    have HI := Lib.hid (show leaI x = 0 by simp [leaI, hb])
    rw [hb]
    go_enter Tryz.func20, Tryz.ntmps20
    go_wp2_with ((go_at_call 39; refine (c_inModuli _ _).mono ?_; rintro e w1 ⟨rfl, rfl⟩))
    go_ret2
    rw [HI.out]
    exact ⟨rfl, Below.refl _ _⟩
end Go.Proofs.YthhpdmkebnbbbaaGreatDoor
