/- Chapter 6: SolvePower and SolveSquares, the program and the model. -/
import Derived.Test.YtcbpbfencgnppaaY1
import Derived.Test.YtcbpbfencgnppaaMathS
namespace Go.Proofs.Ytcbpbfencgnppaa
open Go.RowKit
theorem powB_cases (a k m : Int) : (numB a && modB m) = false ∨ ((numB a && modB m) = true ∧ l6B k 0 1000000 = false) ∨ ((numB a && modB m) = true ∧ l6B k 0 1000000 = true) := by
  cases numB a && modB m <;> cases l6B k 0 1000000 <;> simp
theorem pow_start {a m : Int} (k : Nat) : powK (1 % m) (a % m) m (a ^ k % m) k := by
  unfold powK
  rw [Int.mul_emod, pow_emod, ← Int.mul_emod, Int.mul_emod, Int.emod_emod, ← Int.mul_emod, Int.one_mul]
set_option maxRecDepth 20000 in
set_option maxHeartbeats 2000000 in
theorem c_powerOf (a k m : Int) (m1 : 1 ≤ m) (m2 : m ≤ 1000) (k1 : 0 ≤ k) (k2 : k ≤ 1000000) (w : World) : Calls Try.prog 38 #[.int .i64 a, .int .i64 k, .int .i64 m] w fun e w' => e = .returned (.int .i64 (a ^ k.toNat % m)) ∧ w = w' := by
  obtain ⟨o0, o1⟩ := emod_bd 1 m m1
  obtain ⟨a0, a1⟩ := emod_bd a m m1
  have HP := Lib.hid (pow_start (a := a) (m := m) k.toNat)
  generalize hR : a ^ k.toNat % m = R at *
  clear hR
  go_enter Try.func38, Try.ntmps38
  go_wp2_with (first | (go_at_call 25; refine (c_restOf _ _ m1 m2 _).mono ?_; rintro e w1 ⟨rfl, rfl⟩))
  go_loop [1, 7, 8] (fun q x y => ∃ (K : Nat) (o s : Int), (K : Int) ≤ 1000000 ∧ q = .int .i64 K ∧ x = .int .i64 o ∧ y = .int .i64 s ∧ 0 ≤ o ∧ o < m ∧ 0 ≤ s ∧ s < m ∧ Hid (powK o s m R K)) (fun q _ _ => (intOf q).toNat)
  case atStart => exact ⟨k.toNat, _, _, by omega, by rw [Int.toNat_of_nonneg k1], rfl, rfl, o0, o1, a0, a1, HP⟩
  case round =>
    clear HP o0 o1 a0 a1
    obtain ⟨K, o, s, hK, rfl, rfl, rfl, o0, o1, s0, s1, hP⟩ := hrel
    by_cases hk : K = 0
    · subst hk
      have H := Lib.hid (pow_zero' hP.out o0 o1)
      clear hP
      go_wp2
      go_ret
      exact ⟨ri H.out, rfl⟩
    · obtain ⟨p0, p1⟩ := lin_wrap (x := s) m2 o0 o1 s0 s1
      obtain ⟨q0, q1⟩ := lin_wrap (x := s) m2 s0 s1 s0 s1
      obtain ⟨t0, t1⟩ := emod_bd (s * s) m m1
      obtain ⟨r0, r1⟩ := emod_bd (o * s) m m1
      obtain ⟨j, hj⟩ : ∃ j, K = 2 * j ∨ K = 2 * j + 1 := ⟨K / 2, by omega⟩
      rcases hj with rfl | rfl
      · have hP' := Lib.hid (pow_even hP.out)
        clear hP
        obtain ⟨q, hq⟩ : ∃ q : Int, q = ((2 * j : Nat) : Int) := ⟨_, rfl⟩
        have hb : (q % 2 == 1) = false := by simp; omega
        have HE := Lib.hid (show q / 2 = j by omega)
        have hq0 : 0 < q := by omega
        have hq1 : q ≤ 1000000 := by omega
        have HM := Lib.hid (show q = ((2 * j : Nat) : Int) from hq)
        rw [← hq]
        clear hq hK hk
        go_wp2_with (first | (go_at_call 25; refine (c_restOf _ _ m1 m2 _).mono ?_; rintro e w1 ⟨rfl, rfl⟩))
        go_round
        case rel => exact ⟨j, o, s * s % m, by have := HE.out; omega, by rw [HE.out], rfl, rfl, o0, o1, t0, t1, hP'⟩
        case measure => simp [intOf]; have := HE.out; have := HM.out; omega
      · have hP' := Lib.hid (pow_odd hP.out)
        clear hP
        obtain ⟨q, hq⟩ : ∃ q : Int, q = ((2 * j + 1 : Nat) : Int) := ⟨_, rfl⟩
        have hb : (q % 2 == 1) = true := by simp; omega
        have HE := Lib.hid (show q / 2 = j by omega)
        have hq0 : 0 < q := by omega
        have hq1 : q ≤ 1000000 := by omega
        have HM := Lib.hid (show q = ((2 * j + 1 : Nat) : Int) from hq)
        rw [← hq]
        clear hq hK hk
        go_wp2_with (first | (go_at_call 25; refine (c_restOf _ _ m1 m2 _).mono ?_; rintro e w1 ⟨rfl, rfl⟩))
        go_round
        case rel => exact ⟨j, o * s % m, s * s % m, by have := HE.out; omega, by rw [HE.out], rfl, rfl, r0, r1, t0, t1, hP'⟩
        case measure => simp [intOf]; have := HE.out; have := HM.out; omega
theorem c_implSolvePower (a k m : Int) (w : World) : Calls Try.prog 19 #[.int .i64 a, .int .i64 k, .int .i64 m] w fun e w' => e = .returned (.tuple #[.int .i64 (powR a k m), .bool (powB a k m)]) ∧ w = w' := by
  rcases powB_cases a k m with h | ⟨h, h3⟩ | ⟨h, h3⟩
  · have hB : powB a k m = false := by simp [powB, h]
    simp only [powR, hB, selI_f]
    go_enter Try.func19, Try.ntmps19
    go_wp2_with (first | (go_at_call 23; refine (c_inLine _ _ _).mono ?_; rintro e w1 ⟨rfl, rfl⟩))
    go_ret2
    exact ⟨rfl, rfl⟩
  · have hB : powB a k m = false := by simp [powB, h3]
    have hk : ¬ (0 ≤ k ∧ k ≤ 1000000) := by simpa [l6B] using h3
    simp only [powR, hB, selI_f]
    by_cases hk0 : k < 0
    all_goals
      go_enter Try.func19, Try.ntmps19
      go_wp2_with (first | (go_at_call 23; refine (c_inLine _ _ _).mono ?_; rintro e w1 ⟨rfl, rfl⟩))
      go_ret2
      exact ⟨rfl, rfl⟩
  · obtain ⟨h1, h2⟩ : numB a = true ∧ modB m = true := by simpa using h
    obtain ⟨m1, m2⟩ := modB_iff.1 h2
    obtain ⟨k1, k2⟩ : 0 ≤ k ∧ k ≤ 1000000 := by simpa [l6B] using h3
    have hB : powB a k m = true := by simp [powB, h, h3]
    simp only [powR, hB, selI_t]
    go_enter Try.func19, Try.ntmps19
    go_wp2_with (first | (go_at_call 23; refine (c_inLine _ _ _).mono ?_; rintro e w1 ⟨rfl, rfl⟩) | (go_at_call 38; refine (c_powerOf _ _ _ m1 m2 k1 k2 _).mono ?_; rintro e w1 ⟨rfl, rfl⟩))
    go_ret2
    exact ⟨rfl, rfl⟩
set_option maxRecDepth 20000 in
set_option maxHeartbeats 2000000 in
theorem c_specSolvePower (a k m : Int) (w : World) : Calls Try.prog 20 #[.int .i64 a, .int .i64 k, .int .i64 m] w fun e w' => e = .returned (.tuple #[.int .i64 (powR a k m), .bool (powB a k m)]) ∧ w = w' := by
  have n0 : numB 0 = true := by decide
  rcases powB_cases a k m with h | ⟨h, h3⟩ | ⟨h, h3⟩
  · have hB : powB a k m = false := by simp [powB, h]
    simp only [powR, hB, selI_f]
    have h' : nmsB m a 0 = false := nmsB_f h
    go_enter Try.func20, Try.ntmps20
    go_wp2_with (first | (go_at_call 27; refine (c_l6sNumbers _ _ _ _).mono ?_; rintro e w1 ⟨rfl, rfl⟩))
    go_ret2
    exact ⟨rfl, rfl⟩
  · have hB : powB a k m = false := by simp [powB, h3]
    simp only [powR, hB, selI_f]
    have h' : nmsB m a 0 = true := by obtain ⟨h1, h2⟩ : numB a = true ∧ modB m = true := by simpa using h
                                      exact nmsB_t h2 h1 n0
    go_enter Try.func20, Try.ntmps20
    go_wp2_with (first | (go_at_call 27; refine (c_l6sNumbers _ _ _ _).mono ?_; rintro e w1 ⟨rfl, rfl⟩) | (go_at_call 39; refine (c_l6In _ _ _ _).mono ?_; rintro e w1 ⟨rfl, rfl⟩))
    go_ret2
    exact ⟨rfl, rfl⟩
  · obtain ⟨h1, h2⟩ : numB a = true ∧ modB m = true := by simpa using h
    obtain ⟨m1, m2⟩ := modB_iff.1 h2
    obtain ⟨k1, k2⟩ : 0 ≤ k ∧ k ≤ 1000000 := by simpa [l6B] using h3
    have hB : powB a k m = true := by simp [powB, h, h3]
    have h' : nmsB m a 0 = true := nmsB_t h2 h1 n0
    simp only [powR, hB, selI_t]
    obtain ⟨o0, o1⟩ := emod_bd 1 m m1
    obtain ⟨a0, a1⟩ := emod_bd a m m1
    have HP := Lib.hid (pow_start (a := a) (m := m) k.toNat)
    generalize hR : a ^ k.toNat % m = R at *
    clear hR h1 h2 hB h
    go_enter Try.func20, Try.ntmps20
    go_wp2_with (first | (go_at_call 27; refine (c_l6sNumbers _ _ _ _).mono ?_; rintro e w1 ⟨rfl, rfl⟩) | (go_at_call 39; refine (c_l6In _ _ _ _).mono ?_; rintro e w1 ⟨rfl, rfl⟩) | (go_at_call 37; refine (c_l1Rest _ _ m1 m2 _).mono ?_; rintro e w1 ⟨rfl, rfl⟩))
    go_loop [1, 8, 9] (fun q x y => ∃ (K : Nat) (o s : Int), (K : Int) ≤ 1000000 ∧ q = .int .i64 K ∧ x = .int .i64 o ∧ y = .int .i64 s ∧ 0 ≤ o ∧ o < m ∧ 0 ≤ s ∧ s < m ∧ Hid (powK o s m R K)) (fun q _ _ => (intOf q).toNat)
    case atStart => exact ⟨k.toNat, _, _, by omega, by rw [Int.toNat_of_nonneg k1], rfl, rfl, o0, o1, a0, a1, HP⟩
    case round =>
      clear HP o0 o1 a0 a1 h'
      obtain ⟨K, o, s, hK, rfl, rfl, rfl, o0, o1, s0, s1, hP⟩ := hrel
      by_cases hk : K = 0
      · subst hk
        have H := Lib.hid (pow_zero' hP.out o0 o1)
        clear hP
        go_wp2
        go_ret2
        exact ⟨by rw [← H.out]; rfl, rfl⟩
      · obtain ⟨p0, p1⟩ := lin_wrap (x := s) m2 o0 o1 s0 s1
        obtain ⟨q0, q1⟩ := lin_wrap (x := s) m2 s0 s1 s0 s1
        obtain ⟨t0, t1⟩ := emod_bd (s * s) m m1
        obtain ⟨r0, r1⟩ := emod_bd (o * s) m m1
        obtain ⟨j, hj⟩ : ∃ j, K = 2 * j ∨ K = 2 * j + 1 := ⟨K / 2, by omega⟩
        rcases hj with rfl | rfl
        · have hP' := Lib.hid (pow_even hP.out)
          clear hP
          obtain ⟨q, hq⟩ : ∃ q : Int, q = ((2 * j : Nat) : Int) := ⟨_, rfl⟩
          have hb : (q % 2 == 1) = false := by simp; omega
          have HE := Lib.hid (show q / 2 = j by omega)
          have hq0 : 0 < q := by omega
          have hq1 : q ≤ 1000000 := by omega
          have HM := Lib.hid (show q = ((2 * j : Nat) : Int) from hq)
          rw [← hq]
          clear hq hK hk
          go_wp2
          go_round
          case rel => exact ⟨j, o, s * s % m, by have := HE.out; omega, by rw [HE.out], rfl, rfl, o0, o1, t0, t1, hP'⟩
          case measure => simp [intOf]; have := HE.out; have := HM.out; omega
        · have hP' := Lib.hid (pow_odd hP.out)
          clear hP
          obtain ⟨q, hq⟩ : ∃ q : Int, q = ((2 * j + 1 : Nat) : Int) := ⟨_, rfl⟩
          have hb : (q % 2 == 1) = true := by simp; omega
          have HE := Lib.hid (show q / 2 = j by omega)
          have hq0 : 0 < q := by omega
          have hq1 : q ≤ 1000000 := by omega
          have HM := Lib.hid (show q = ((2 * j + 1 : Nat) : Int) from hq)
          rw [← hq]
          clear hq hK hk
          go_wp2
          go_round
          case rel => exact ⟨j, o * s % m, s * s % m, by have := HE.out; omega, by rw [HE.out], rfl, rfl, r0, r1, t0, t1, hP'⟩
          case measure => simp [intOf]; have := HE.out; have := HM.out; omega
/-! squares -/
theorem infoK : (Try.prog.info? 3).map (fun i => (i.zero, i.size, i.bytes)) = some (some (.int .i64 0), 1, 8) := by kernel_rfl
def RetK (w : World) (zs : List Int) (ok : Bool) (e : Ending) (w' : World) : Prop := ∃ v, e = .returned (.tuple #[v, .bool ok]) ∧ OwnI w' w.heap.size 3 v zs ∧ Below w.heap.size w w'
theorem one_newK (w : World) (x : Value) (t : TypeId) : ∀ j u, [x][j]? = some u → (w.alloc (.cells #[x] t)).cell? ((⟨w.heap.size, 0, none⟩ : Addr).add j) = some u := by
  intro j u h
  match j, h with
  | 0, h => simpa [Addr.add] using h
theorem sqB_cases (a m : Int) : (numB a && modB m) = false ∨ ((numB a && modB m) = true ∧ numB a = true ∧ modB m = true) := by
  cases numB a <;> cases modB m <;> simp
theorem sqR_f {a m : Int} (h : (numB a && modB m) = false) : sqR a m = [] ∧ sqB a m = false := by simp [sqR, sqB, h]
theorem sqR_t {a m : Int} (h : (numB a && modB m) = true) : sqR a m = sqL a m m.toNat ∧ sqB a m = true := by simp [sqR, sqB, h]
theorem sqR_le (a m : Int) : (sqR a m).length ≤ 1000 := by
  rcases sqB_cases a m with h | ⟨h, _, h2⟩
  · rw [(sqR_f h).1]; simp
  · rw [(sqR_t h).1]
    have := sqL_le a m m.toNat
    have := (modB_iff.1 h2).2
    omega
set_option maxRecDepth 20000 in
set_option maxHeartbeats 2000000 in
theorem c_specSolveSquares (a m : Int) (w : World) : Calls Try.prog 16 #[.int .i64 a, .int .i64 m] w (RetK w (sqR a m) (sqB a m)) := by
  have hb1 : Below w.heap.size w (w.alloc (.cells #[] 3)) := ba (Below.refl _ _) _
  have hO1 : OwnI (w.alloc (.cells #[] 3)) w.heap.size 3 (.slice (some ⟨w.heap.size, 0, none⟩) 0 0) [] := World.ownsRow_lit w #[] 0 (Nat.le_refl _) (by unfold maxLen; omega) rfl
  rcases sqB_cases a m with h | ⟨h, h1, h2⟩
  · obtain ⟨e1, e2⟩ := sqR_f h
    have h' : nmsB m a 0 = false := nmsB_f h
    rw [e1, e2]
    clear h
    go_enter Try.func16, Try.ntmps16
    go_wp2_with (first | (go_at_call 27; refine (c_l6sNumbers _ _ _ _).mono ?_; rintro e w1 ⟨rfl, rfl⟩))
    go_ret2
    exact ⟨_, rfl, hO1, hb1⟩
  · obtain ⟨e1, e2⟩ := sqR_t h
    have h' : nmsB m a 0 = true := nmsB_t h2 h1 (by decide)
    obtain ⟨m1, m2⟩ := modB_iff.1 h2
    obtain ⟨a1, a2⟩ := numB_iff.1 h1
    rw [e1, e2]
    clear h h1 h2
    obtain ⟨M, rfl⟩ : ∃ M : Nat, m = (M : Int) := ⟨m.toNat, by omega⟩
    have HT := Lib.hid (show sqL a M M = sqL a M (M : Int).toNat from rfl)
    obtain ⟨i0, hi, hz0, hz1, hz2⟩ := info_parts infoK
    go_enter Try.func16, Try.ntmps16
    go_wp2_with (first | (go_at_call 27; refine (c_l6sNumbers _ _ _ _).mono ?_; rintro e w1 ⟨rfl, rfl⟩))
    generalize w.alloc (.cells #[] 3) = W1 at *
    have hO3 : W1.ownsRow w.heap.size 3 1 (.slice (some ⟨w.heap.size, 0, none⟩) 0 0) 0 [] := hO1
    clear hO1 h'
    go_loopw [6, 7] (fun v i wr => ∃ (k : Nat), k ≤ M ∧ i = .int .i64 k ∧ wr.ownsRow w.heap.size 3 1 v (sqL a M k).length ((sqL a M k).map (Value.int .i64)) ∧ Below w.heap.size w wr) (fun _ i _ => M - (intOf i).toNat)
    case atStart => exact ⟨0, Nat.zero_le _, rfl, hO3, hb1⟩
    case round =>
      clear hO3 hb1
      obtain ⟨k, hk, rfl, hO, hB⟩ := hrel
      by_cases hlt : k < M
      · have hKl := sqL_le a M k
        obtain ⟨p0, p1⟩ := lin_wrap (c := (k : Int)) (x := (k : Int)) m2 (by omega) (by omega) (by omega) (by omega)
        have hq := sq_rest (a := a) (x := (k : Int)) m1
        cases he : sqP a M k
        · have HK := Lib.hid (sqL_no he)
          rw [he] at hq
          go_wp2_with (first | (go_at_call 37; refine (c_l1Rest _ _ m1 m2 _).mono ?_; rintro e w1 ⟨rfl, rfl⟩))
          go_roundw
          case rel => exact ⟨k + 1, by omega, by go_num, by rw [HK.out]; exact hO, hB⟩
          case measure => simp [intOf]; omega
        · have HK := Lib.hid (sqL_yes he)
          rw [he] at hq
          generalize hLe : (sqL a M k).length = L at *
          have hbs : w.heap.size ≤ wr.heap.size := hB.size
          go_wp2_with (first | (go_at_call 37; refine (c_l1Rest _ _ m1 m2 _).mono ?_; rintro e w1 ⟨rfl, rfl⟩) | (at_builtin; refine wpList_append_own _ rfl _ _ 33 rfl w.heap.size 3 i0 (.int .i64 0) 1 8 Try.underlying33 hi hz0 hz1 hz2 rfl (by decide) _ L _ rfl (hO.alloc _) ⟨wr.heap.size, 0, none⟩ 1 1 [.int .i64 k] rfl rfl (one_newK wr _ _) (by simp [Value.oneCell']) (by unfold maxLen; omega) (by omega) (by simp; omega) ?_; intro v7 w7 hown7 hgrow7 _))
          have hb7 : Below w.heap.size w w7 := (hB.alloc hbs _).grown hgrow7 (by simp; omega) (fun g e => (hO.lt g e).1)
          go_roundw
          case rel => exact ⟨k + 1, by omega, by go_num, by rw [HK.out, List.map_append, List.length_append, hLe]; exact hown7, hb7⟩
          case measure => simp [intOf]; omega
      · have hk' : k = M := by omega
        subst hk'
        go_wp2_with fail
        go_ret2
        exact ⟨_, rfl, by rw [← HT.out]; exact hO, hB⟩
set_option maxRecDepth 20000 in
set_option maxHeartbeats 2000000 in
theorem c_implSolveSquares (a m : Int) (w : World) : Calls Try.prog 15 #[.int .i64 a, .int .i64 m] w (RetK w (sqR a m) (sqB a m)) := by
  have hO1 : OwnI w w.heap.size 3 (.slice none 0 0) [] := World.ownsRow_nil _ _ _ _
  rcases sqB_cases a m with h | ⟨h, h1, h2⟩
  · obtain ⟨e1, e2⟩ := sqR_f h
    rw [e1, e2]
    go_enter Try.func15, Try.ntmps15
    go_wp2_with (first | (go_at_call 23; refine (c_inLine _ _ _).mono ?_; rintro e w1 ⟨rfl, rfl⟩))
    go_ret2
    exact ⟨_, rfl, hO1, Below.refl _ _⟩
  · obtain ⟨e1, e2⟩ := sqR_t h
    obtain ⟨m1, m2⟩ := modB_iff.1 h2
    obtain ⟨a1, a2⟩ := numB_iff.1 h1
    rw [e1, e2]
    clear h1 h2
    obtain ⟨M, rfl⟩ : ∃ M : Nat, m = (M : Int) := ⟨m.toNat, by omega⟩
    have HT := Lib.hid (show sqL a M M = sqL a M (M : Int).toNat from rfl)
    obtain ⟨i0, hi, hz0, hz1, hz2⟩ := info_parts infoK
    go_enter Try.func15, Try.ntmps15
    go_wp2_with (first | (go_at_call 23; refine (c_inLine _ _ _).mono ?_; rintro e w1 ⟨rfl, rfl⟩))
    have hO3 : w.ownsRow w.heap.size 3 1 (.slice none 0 0) 0 [] := hO1
    clear hO1
    go_loopw [6, 13] (fun v i wr => ∃ (k : Nat), k ≤ M ∧ i = .int .i64 k ∧ wr.ownsRow w.heap.size 3 1 v (sqL a M k).length ((sqL a M k).map (Value.int .i64)) ∧ Below w.heap.size w wr) (fun _ i _ => M - (intOf i).toNat)
    case atStart => exact ⟨0, Nat.zero_le _, rfl, hO3, Below.refl _ _⟩
    case round =>
      clear hO3
      obtain ⟨k, hk, rfl, hO, hB⟩ := hrel
      by_cases hlt : k < M
      · have hKl := sqL_le a M k
        obtain ⟨p0, p1⟩ := lin_wrap (c := (k : Int)) (x := (k : Int)) m2 (by omega) (by omega) (by omega) (by omega)
        cases he : sqP a M k
        · have HK := Lib.hid (sqL_no he)
          have hq : ((k : Int) * k % M == a % M) = false := he
          clear he
          go_wp2_with (first | (go_at_call 25; refine (c_restOf _ _ m1 m2 _).mono ?_; rintro e w1 ⟨rfl, rfl⟩))
          go_roundw
          case rel => exact ⟨k + 1, by omega, by go_num, by rw [HK.out]; exact hO, hB⟩
          case measure => simp [intOf]; omega
        · have HK := Lib.hid (sqL_yes he)
          have hq : ((k : Int) * k % M == a % M) = true := he
          clear he
          generalize hLe : (sqL a M k).length = L at *
          have hbs : w.heap.size ≤ wr.heap.size := hB.size
          go_wp2_with (first | (go_at_call 25; refine (c_restOf _ _ m1 m2 _).mono ?_; rintro e w1 ⟨rfl, rfl⟩) | (at_builtin; refine wpList_append_own _ rfl _ _ 33 rfl w.heap.size 3 i0 (.int .i64 0) 1 8 Try.underlying33 hi hz0 hz1 hz2 rfl (by decide) _ L _ rfl (hO.alloc _) ⟨wr.heap.size, 0, none⟩ 1 1 [.int .i64 k] rfl rfl (one_newK wr _ _) (by simp [Value.oneCell']) (by unfold maxLen; omega) (by omega) (by simp; omega) ?_; intro v7 w7 hown7 hgrow7 _))
          have hb7 : Below w.heap.size w w7 := (hB.alloc hbs _).grown hgrow7 (by simp; omega) (fun g e => (hO.lt g e).1)
          go_roundw
          case rel => exact ⟨k + 1, by omega, by go_num, by rw [HK.out, List.map_append, List.length_append, hLe]; exact hown7, hb7⟩
          case measure => simp [intOf]; omega
      · have hk' : k = M := by omega
        subst hk'
        go_wp2_with fail
        go_ret2
        exact ⟨_, rfl, by rw [← HT.out]; exact hO, hB⟩
end Go.Proofs.Ytcbpbfencgnppaa
