/- Chapter 6: SolveLine and SolveBack, the program and the model. -/
import Derived.Test.YtonecelkkeakiaaGreatDoorMathY
import Derived.Test.YtonecelkkeakiaaGreatDoorMz2
namespace Go.Proofs.YtonecelkkeakiaaGreatDoor
open Go.RowKit
theorem c_inLine (a m : Int) (w : World) : Calls Tryz.prog 181 #[.int .i64 a, .int .i64 m] w fun e w' => e = .returned (.bool (numB a && modB m)) ∧ w = w' := by
  cases ha : numB a
  all_goals
    go_enter Tryz.func181, Tryz.ntmps181
    go_wp2_with (first | (go_at_call 167; refine (c_inNumbers _ _).mono ?_; rintro e w1 ⟨rfl, rfl⟩) | (go_at_call 39; refine (c_inModuli _ _).mono ?_; rintro e w1 ⟨rfl, rfl⟩))
    go_ret
    exact ⟨rb (by simp), rfl⟩
theorem c_l6sNumbers (m a b : Int) (w : World) : Calls Tryz.prog 209 #[.int .i64 m, .int .i64 a, .int .i64 b] w fun e w' => e = .returned (.bool (nmsB m a b)) ∧ w = w' := by
  have hm : l6B m 1 1000 = modB m := rfl
  cases h1 : modB m
  · rw [h1] at hm
    go_enter Tryz.func209, Tryz.ntmps209
    go_wp2_with (first | (go_at_call 207; refine (c_l1Number _ _).mono ?_; rintro e w1 ⟨rfl, rfl⟩) | (go_at_call 42; refine (c_l6In _ _ _ _).mono ?_; rintro e w1 ⟨rfl, rfl⟩))
    go_ret
    exact ⟨rb (by simp [nmsB, h1]), rfl⟩
  · rw [h1] at hm
    cases ha : numB a
    all_goals
      go_enter Tryz.func209, Tryz.ntmps209
      go_wp2_with (first | (go_at_call 207; refine (c_l1Number _ _).mono ?_; rintro e w1 ⟨rfl, rfl⟩) | (go_at_call 42; refine (c_l6In _ _ _ _).mono ?_; rintro e w1 ⟨rfl, rfl⟩))
      go_ret
      exact ⟨rb (by simp [nmsB, h1, ha]), rfl⟩
set_option maxRecDepth 20000 in
set_option maxHeartbeats 2000000 in
theorem c_l6sLine (a b m : Int) (m1 : 1 ≤ m) (m2 : m ≤ 1000) (b1 : -1000000 ≤ b) (b2 : b ≤ 1000000) (w : World) : Calls Tryz.prog 211 #[.int .i64 a, .int .i64 b, .int .i64 m] w fun e w' => e = .returned (.tuple #[.agg #[.int .i64 (selI (linB a b m) (linX a b m)), .int .i64 (selI (linB a b m) (linN a m))], .bool (linB a b m)]) ∧ Below w.heap.size w w' := by
  obtain ⟨c0, c1, g1, g2, n1, n2⟩ := lin_bd (a := a) m1
  have HN := Lib.hid (show m / gcdI (a % m) m = linN a m from rfl)
  have HS := Lib.hid (show fndB (linP a b m) (linN a m).toNat 0 = linB a b m ∧ fndX (linP a b m) (linN a m).toNat 0 = linX a b m from ⟨rfl, rfl⟩)
  go_enter Tryz.func211, Tryz.ntmps211
  go_wp2_with (first | (go_at_call 208; refine (c_l1Rest _ _ m1 m2 _).mono ?_; rintro e w1 ⟨rfl, rfl⟩) | (go_at_call 89; refine (c_l1Gcd _ _ c0 (by omega) (by omega) m2 _).mono ?_; rintro e w1 ⟨rfl, rfl⟩))
  generalize hN : m / gcdI (a % m) m = N at *
  have hN' : N = linN a m := hN.symm
  rw [← hN'] at n1 n2 HS
  have HN' := Lib.hid hN'
  clear hN hN' HN
  go_loopw [10] (fun x wr => ∃ (X : Nat), (X : Int) ≤ N ∧ x = .int .i64 X ∧ Hid (fndB (linP a b m) (N.toNat - X) X = linB a b m ∧ fndX (linP a b m) (N.toNat - X) X = linX a b m) ∧ Below (w.alloc (Obj.cells #[Value.int IntKind.i64 0, Value.int IntKind.i64 0] 41)).heap.size (w.alloc (Obj.cells #[Value.int IntKind.i64 0, Value.int IntKind.i64 0] 41)) wr) (fun x _ => (N - intOf x).toNat)
  case atStart => exact ⟨0, by omega, rfl, by simpa using HS, Below.refl _ _⟩
  case round =>
    clear HS
    obtain ⟨X, hX, rfl, hF, hW⟩ := hrel
    have k0 : wr.cell? ⟨w.heap.size, 0, none⟩ = some (.int .i64 0) := kc hW 0
    have k1 : wr.cell? ⟨w.heap.size, 1, none⟩ = some (.int .i64 0) := kc hW 1
    have f0 := kf hW 0
    have f1 := kf hW 1
    have hz : w.heap.size < wr.heap.size := by have := hW.size; simp at this; omega
    by_cases hlt : (X : Int) < N
    · obtain ⟨p0, p1⟩ := lin_wrap (x := (X : Int)) m2 c0 c1 (by omega) (by omega)
      obtain ⟨hy, hn⟩ := lin_go hF.out (by omega)
      cases he : linP a b m X
      · have hF' := Lib.hid (hn he)
        have he' : ((a % m * (X : Int) - b) % m == 0) = false := he
        clear hF he hy hn
        go_wp2_with (first | (go_at_call 208; refine (c_l1Rest _ _ m1 m2 _).mono ?_; rintro e w1 ⟨rfl, rfl⟩))
        go_roundw
        case rel => exact ⟨X + 1, by omega, rfl, by simpa [Nat.sub_sub] using hF', hW⟩
        case measure => simp [intOf]; omega
      · obtain ⟨hB, hX'⟩ := hy he
        have HB := Lib.hid hB
        have HX := Lib.hid hX'
        have he' : ((a % m * (X : Int) - b) % m == 0) = true := he
        clear hF he hy hn hB hX'
        go_wp2_with (first | (go_at_call 208; refine (c_l1Rest _ _ m1 m2 _).mono ?_; rintro e w1 ⟨rfl, rfl⟩))
        refine bodyPost_ret (v := .tuple #[.agg #[.int .i64 X, .int .i64 N], .bool true]) (by simp [results, Tryz.results211, go_sem, k0, k1]) rfl ⟨by rw [HB.out, HX.out, HN'.out]; rfl, ?_⟩
        have hWw := bt2 (ba (Below.refl _ w) _) hW
        repeat (first | exact Below.refl _ _ | assumption | refine Below.drew ?_ | refine bel_drewN ?_ _ | refine ba ?_ _ | refine bt2 ?_ (by assumption) | refine Below.setCell ?_ (by simp <;> omega) _)
    · have hB := hF.out
      rw [show N.toNat - X = 0 by omega] at hB
      have HB := Lib.hid (lin_end hB)
      clear hF hB
      go_wp2_with (go_at_call 210; refine (c_l1None _).mono ?_; rintro e w1 ⟨rfl, rfl⟩)
      refine bodyPost_ret (v := .tuple #[.agg #[.int .i64 0, .int .i64 0], .bool false]) (by simp [results, Tryz.results211, go_sem, cell_ret0 k0 k1, cell_ret1 k0 k1]) rfl ⟨by rw [HB.out]; rfl, ?_⟩
      have hWw := bt2 (ba (Below.refl _ w) _) hW
      repeat (first | exact Below.refl _ _ | assumption | refine Below.drew ?_ | refine bel_drewN ?_ _ | refine ba ?_ _ | refine bt2 ?_ (by assumption) | refine Below.setCell ?_ (by simp <;> omega) _)
theorem c_specSolveLine (a b m : Int) (w : World) : Calls Tryz.prog 153 #[.int .i64 a, .int .i64 b, .int .i64 m] w fun e w' => e = .returned (.tuple #[.agg #[.int .i64 (selI (linO a b m) (linX a b m)), .int .i64 (selI (linO a b m) (linN a m))], .bool (linO a b m)]) ∧ Below w.heap.size w w' := by
  rcases (show nmsB m a b = false ∨ nmsB m a b = true by cases nmsB m a b <;> simp) with h | h
  · have hO : linO a b m = false := by
      unfold linO
      revert h
      unfold nmsB
      cases modB m <;> cases numB a <;> cases numB b <;> simp
    simp only [hO, selI_f]
    go_enter Tryz.func153, Tryz.ntmps153
    go_wp2_with (first | (go_at_call 209; refine (c_l6sNumbers _ _ _ _).mono ?_; rintro e w1 ⟨rfl, rfl⟩) | (go_at_call 210; refine (c_l1None _).mono ?_; rintro e w1 ⟨rfl, rfl⟩))
    refine bodyPost_ret (v := .tuple #[.agg #[.int .i64 0, .int .i64 0], .bool false]) (by simp [results, Tryz.results153, go_sem]) rfl ⟨rfl, ?_⟩
    repeat (first | exact Below.refl _ _ | assumption | refine Below.drew ?_ | refine bel_drewN ?_ _ | refine ba ?_ _ | refine bt2 ?_ (by assumption) | refine Below.setCell ?_ (by simp <;> omega) _)
  · obtain ⟨h1, h2, h3⟩ := nmsB_of h
    obtain ⟨m1, m2⟩ := modB_iff.1 h1
    obtain ⟨b1, b2⟩ := numB_iff.1 h3
    rw [linO_3 h2 h1 h3]
    clear h1 h2 h3
    go_enter Tryz.func153, Tryz.ntmps153
    go_wp2_with (go_at_call 209; refine (c_l6sNumbers _ _ _ _).mono ?_; rintro e w1 ⟨rfl, rfl⟩)
    refine (c_l6sLine a b m m1 m2 b1 b2 _).mono ?_
    rintro e w1 ⟨rfl, hb⟩
    have k0 : w1.cell? ⟨w.heap.size, 0, none⟩ = some (.int .i64 0) := kc hb 0
    have k1 : w1.cell? ⟨w.heap.size, 1, none⟩ = some (.int .i64 0) := kc hb 1
    have f0 := kf hb 0
    have f1 := kf hb 1
    have hz := kz hb
    go_wp2_with fail
    refine bodyPost_ret (v := .tuple #[.agg #[.int .i64 (selI (linB a b m) (linX a b m)), .int .i64 (selI (linB a b m) (linN a m))], .bool (linB a b m)]) (by simp [results, Tryz.results153, go_sem, k0, k1]) rfl ⟨rfl, ?_⟩
    have hWw := bt2 (ba (Below.refl _ w) _) hb
    repeat (first | exact Below.refl _ _ | assumption | refine Below.drew ?_ | refine bel_drewN ?_ _ | refine ba ?_ _ | refine bt2 ?_ (by assumption) | refine Below.setCell ?_ (by simp <;> omega) _)
set_option maxRecDepth 20000 in
set_option maxHeartbeats 2000000 in
theorem c_implSolveLine (a b m : Int) (w : World) : Calls Tryz.prog 117 #[.int .i64 a, .int .i64 b, .int .i64 m] w fun e w' => e = .returned (.tuple #[.agg #[.int .i64 (selI (linO a b m) (linX a b m)), .int .i64 (selI (linO a b m) (linN a m))], .bool (linO a b m)]) ∧ Below w.heap.size w w' := by
  have hc : (numB a && modB m) = false ∨ ((numB a && modB m) = true ∧ numB b = false) ∨ ((numB a && modB m) = true ∧ numB b = true) := by cases numB a && modB m <;> cases numB b <;> simp
  rcases hc with h | ⟨h, h3⟩ | ⟨h, h3⟩
  · have hO : linO a b m = false := by
      unfold linO
      rw [h]; rfl
    simp only [hO, selI_f]
    go_enter Tryz.func117, Tryz.ntmps117
    go_wp2_with (first | (go_at_call 181; refine (c_inLine _ _ _).mono ?_; rintro e w1 ⟨rfl, rfl⟩) | (go_at_call 167; refine (c_inNumbers _ _).mono ?_; rintro e w1 ⟨rfl, rfl⟩))
    refine bodyPost_ret (v := .tuple #[.agg #[.int .i64 0, .int .i64 0], .bool false]) (by simp [results, Tryz.results117, go_sem]) rfl ⟨rfl, ?_⟩
    repeat (first | exact Below.refl _ _ | assumption | refine Below.drew ?_ | refine bel_drewN ?_ _ | refine ba ?_ _ | refine bt2 ?_ (by assumption) | refine Below.setCell ?_ (by simp <;> omega) _)
  · simp only [linO_2 h3, selI_f]
    go_enter Tryz.func117, Tryz.ntmps117
    go_wp2_with (first | (go_at_call 181; refine (c_inLine _ _ _).mono ?_; rintro e w1 ⟨rfl, rfl⟩) | (go_at_call 167; refine (c_inNumbers _ _).mono ?_; rintro e w1 ⟨rfl, rfl⟩))
    refine bodyPost_ret (v := .tuple #[.agg #[.int .i64 0, .int .i64 0], .bool false]) (by simp [results, Tryz.results117, go_sem]) rfl ⟨rfl, ?_⟩
    repeat (first | exact Below.refl _ _ | assumption | refine Below.drew ?_ | refine bel_drewN ?_ _ | refine ba ?_ _ | refine bt2 ?_ (by assumption) | refine Below.setCell ?_ (by simp <;> omega) _)
  · obtain ⟨h1, h2⟩ : numB a = true ∧ modB m = true := by simpa using h
    obtain ⟨m1, m2⟩ := modB_iff.1 h2
    obtain ⟨b1, b2⟩ := numB_iff.1 h3
    rw [linO_3 h1 h2 h3]
    clear h1 h2
    obtain ⟨c0, c1, g1, g2, n1, n2⟩ := lin_bd (a := a) m1
    have HS := Lib.hid (show fndB (linP a b m) (linN a m).toNat 0 = linB a b m ∧ fndX (linP a b m) (linN a m).toNat 0 = linX a b m from ⟨rfl, rfl⟩)
    go_enter Tryz.func117, Tryz.ntmps117
    go_wp2_with (first | (go_at_call 181; refine (c_inLine _ _ _).mono ?_; rintro e w1 ⟨rfl, rfl⟩) | (go_at_call 167; refine (c_inNumbers _ _).mono ?_; rintro e w1 ⟨rfl, rfl⟩) | (go_at_call 92; refine (c_restOf _ _ m1 m2 _).mono ?_; rintro e w1 ⟨rfl, rfl⟩) | (go_at_call 41; refine (c_commonDivisor _ _ c0 (by omega) (by omega) m2 _).mono ?_; rintro e w1 ⟨nq, rfl, rfl⟩))
    generalize hN : m / gcdI (a % m) m = N at *
    have hN' : N = linN a m := hN.symm
    rw [← hN'] at n1 n2 HS
    have HN' := Lib.hid hN'
    clear hN hN'
    go_loopw [30] (fun x wr => ∃ (X : Nat), (X : Int) ≤ N ∧ x = .int .i64 X ∧ Hid (fndB (linP a b m) (N.toNat - X) X = linB a b m ∧ fndX (linP a b m) (N.toNat - X) X = linX a b m) ∧ Below (w.alloc (Obj.cells #[Value.int IntKind.i64 0, Value.int IntKind.i64 0] 41)).heap.size (w.alloc (Obj.cells #[Value.int IntKind.i64 0, Value.int IntKind.i64 0] 41)) wr) (fun x _ => (N - intOf x).toNat)
    case atStart => exact ⟨0, by omega, rfl, by simpa using HS, by repeat (first | exact Below.refl _ _ | assumption | refine Below.drew ?_ | refine bel_drewN ?_ _ | refine ba ?_ _ | refine bt2 ?_ (by assumption) | refine Below.setCell ?_ (by simp <;> omega) _)⟩
    case round =>
      clear HS
      obtain ⟨X, hX, rfl, hF, hW⟩ := hrel
      have k0 : wr.cell? ⟨w.heap.size, 0, none⟩ = some (.int .i64 0) := kc hW 0
      have k1 : wr.cell? ⟨w.heap.size, 1, none⟩ = some (.int .i64 0) := kc hW 1
      have f0 := kf hW 0
      have f1 := kf hW 1
      have hz : w.heap.size < wr.heap.size := by have := hW.size; simp at this; omega
      by_cases hlt : (X : Int) < N
      · obtain ⟨p0, p1⟩ := lin_wrap (x := (X : Int)) m2 c0 c1 (by omega) (by omega)
        obtain ⟨hy, hn⟩ := lin_go hF.out (by omega)
        cases he : linP a b m X
        · have hF' := Lib.hid (hn he)
          have he' : ((a % m * (X : Int) - b) % m == 0) = false := he
          clear hF he hy hn
          go_wp2_with (first | (go_at_call 92; refine (c_restOf _ _ m1 m2 _).mono ?_; rintro e w1 ⟨rfl, rfl⟩))
          go_roundw
          case rel => exact ⟨X + 1, by omega, rfl, by simpa [Nat.sub_sub] using hF', hW⟩
          case measure => simp [intOf]; omega
        · obtain ⟨hB, hX'⟩ := hy he
          have HB := Lib.hid hB
          have HX := Lib.hid hX'
          have he' : ((a % m * (X : Int) - b) % m == 0) = true := he
          clear hF he hy hn hB hX'
          go_wp2_with (first | (go_at_call 92; refine (c_restOf _ _ m1 m2 _).mono ?_; rintro e w1 ⟨rfl, rfl⟩))
          refine bodyPost_ret (v := .tuple #[.agg #[.int .i64 X, .int .i64 N], .bool true]) (by simp [results, Tryz.results117, go_sem, k0, k1]) rfl ⟨by rw [HB.out, HX.out, HN'.out]; rfl, ?_⟩
          have hWw := bt2 (ba (Below.refl _ w) _) hW
          repeat (first | exact Below.refl _ _ | assumption | refine Below.drew ?_ | refine bel_drewN ?_ _ | refine ba ?_ _ | refine bt2 ?_ (by assumption) | refine Below.setCell ?_ (by simp <;> omega) _)
      · have hB := hF.out
        rw [show N.toNat - X = 0 by omega] at hB
        have HB := Lib.hid (lin_end hB)
        clear hF hB
        go_wp2_with fail
        refine bodyPost_ret (v := .tuple #[.agg #[.int .i64 0, .int .i64 0], .bool false]) (by simp [results, Tryz.results117, go_sem, k0, k1]) rfl ⟨by rw [HB.out]; rfl, ?_⟩
        have hWw := bt2 (ba (Below.refl _ w) _) hW
        repeat (first | exact Below.refl _ _ | assumption | refine Below.drew ?_ | refine bel_drewN ?_ _ | refine ba ?_ _ | refine bt2 ?_ (by assumption) | refine Below.setCell ?_ (by simp <;> omega) _)
end Go.Proofs.YtonecelkkeakiaaGreatDoor
