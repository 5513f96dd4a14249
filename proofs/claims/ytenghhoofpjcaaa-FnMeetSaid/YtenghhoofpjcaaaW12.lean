/- The walk of the promise law on common numbers: it returns true at every code. -/
import Derived.Test.YtenghhoofpjcaaaC4
import Derived.Test.YtenghhoofpjcaaaE3
import Derived.Test.YtenghhoofpjcaaaMathM
import Derived.Deep.RegionHeld3
namespace Go.Proofs.Ytenghhoofpjcaaa
open Go.RowKit
theorem c_DrawClassMeet (s : Option Addr) (len cap : Nat) (w : World) (h : Code0 w s len cap) : Calls Try.prog 37 #[.slice s len cap] w (DrawnCC w) := by
  go_enter Try.func37, Try.ntmps37
  go_wp2_with fail
  refine (c_l91Two s len cap _ (h.below (ba (ba (Below.refl _ _) _) _))).mono ?_
  rintro e w2 ⟨r, m, q, n, rfl, hb2⟩
  have hX := bt2 (ba (Below.refl _ (w.alloc (Obj.cells #[Value.int IntKind.i64 0, Value.int IntKind.i64 0] 24))) (Obj.cells #[Value.int IntKind.i64 0, Value.int IntKind.i64 0] 24)) hb2
  have c0 : w2.cell? ⟨w.heap.size, 0, none⟩ = some _ := kc hX 0
  have c1 : w2.cell? ⟨w.heap.size, 1, none⟩ = some _ := kc hX 1
  have f0 := kf hX 0
  have f1 := kf hX 1
  have d0 : w2.cell? ⟨w.heap.size + 1, 0, none⟩ = some (.int .i64 0) := by simpa using kc hb2 0
  have d1 : w2.cell? ⟨w.heap.size + 1, 1, none⟩ = some (.int .i64 0) := by simpa using kc hb2 1
  have g0 : w2.frozen? ⟨w.heap.size + 1, 0, none⟩ = false := by simpa using kf hb2 0
  have g1 : w2.frozen? ⟨w.heap.size + 1, 1, none⟩ = false := by simpa using kf hb2 1
  have hz : w.heap.size + 1 < w2.heap.size := by have := hb2.size; simp at this; omega
  have hz0 : w.heap.size < w2.heap.size := by omega
  have hbw := bt2 (ba (ba (Below.refl _ w) _) _) hb2
  go_wp2_with fail
  refine bodyPost_ret (v := .tuple #[.agg #[.int .i64 r, .int .i64 m], .agg #[.int .i64 q, .int .i64 n]]) (by simp [results, Try.results37, go_sem, c0, c1, d0, d1]) rfl ⟨r, m, q, n, rfl, ?_⟩
  repeat (first | exact Below.refl _ _ | assumption | refine Below.drew ?_ | refine bel_drewN ?_ _ | refine ba ?_ _ | refine bt2 ?_ (by assumption) | refine Below.setCell ?_ (by simp <;> omega) _)
set_option maxHeartbeats 4000000 in
theorem w_FnMeet (sl : Option Addr) (len cap : Nat) (w : World) (h : Code0 w sl len cap) : Calls Try.prog 11 #[.slice sl len cap] w fun e w' => e = .returned (.bool true) ∧ Below w.heap.size w w' := by
  have hlc := h.lc
  have hcm := h.cm
  unfold maxLen at hcm
  by_cases hlen : len ≤ 1048576
  · go_enter Try.func11, Try.ntmps11
    go_wp2_with fail
    refine (c_DrawClassMeet sl len cap _ h).mono ?_
    rintro e w1 ⟨r, m, s, n, rfl, hb1⟩
    have e5 := selI_t
    have e6 := selI_f
    cases hin : mtB r m s n
    · have hin := hin
      go_wp2_with fail
      refine (c_implClassMeet _ _ _ _ _).mono ?_
      rintro e w2 ⟨rfl, hb2⟩
      have X0_2 := bt2 (ba (Below.refl _ _) _) hb2
      have X1_2 := hb2
      have kX0_2_0 : w2.cell? ⟨w1.heap.size, 0, none⟩ = some _ := kc X0_2 0
      have kX0_2_1 : w2.cell? ⟨w1.heap.size, 1, none⟩ = some _ := kc X0_2 1
      have kX1_2_0 : w2.cell? ⟨w1.heap.size + 1, 0, none⟩ = some (.int .i64 s) := by simpa using kc X1_2 0
      have kX1_2_1 : w2.cell? ⟨w1.heap.size + 1, 1, none⟩ = some (.int .i64 n) := by simpa using kc X1_2 1
      have hzX0_2 := kz X0_2
      have hzX1_2 : w1.heap.size + 1 < w2.heap.size := by simpa using kz X1_2
      go_wp2_with fail
      refine (c_specClassMeet _ _ _ _ _).mono ?_
      rintro e w3 ⟨rfl, hb3⟩
      have X0_3 := bt2 (ba X0_2 _) hb3
      have X1_3 := bt2 (ba X1_2 _) hb3
      have X2_3 := hb3
      have kX0_3_0 : w3.cell? ⟨w1.heap.size, 0, none⟩ = some _ := kc X0_3 0
      have kX0_3_1 : w3.cell? ⟨w1.heap.size, 1, none⟩ = some _ := kc X0_3 1
      have kX1_3_0 : w3.cell? ⟨w1.heap.size + 1, 0, none⟩ = some (.int .i64 s) := by simpa using kc X1_3 0
      have kX1_3_1 : w3.cell? ⟨w1.heap.size + 1, 1, none⟩ = some (.int .i64 n) := by simpa using kc X1_3 1
      have kX2_3_0 : w3.cell? ⟨w2.heap.size, 0, none⟩ = some _ := kc X2_3 0
      have kX2_3_1 : w3.cell? ⟨w2.heap.size, 1, none⟩ = some _ := kc X2_3 1
      have hzX0_3 := kz X0_3
      have hzX1_3 : w1.heap.size + 1 < w3.heap.size := by simpa using kz X1_3
      have hzX2_3 := kz X2_3
      go_wp2_with fail
      go_ret
      exact ⟨rfl, by repeat (first | exact Below.refl _ _ | assumption | refine Below.drew ?_ | refine bel_drewN ?_ _ | refine ba ?_ _ | refine bt2 ?_ (by assumption) | refine Below.setCell ?_ (by simp <;> omega) _)⟩
    · obtain ⟨e1, e2, e3⟩ := met_swap hin
      obtain ⟨e4, e7⟩ := met_bel hin
      have three := met_three hin
      go_wp2_with fail
      refine (c_implClassMeet _ _ _ _ _).mono ?_
      rintro e w2 ⟨rfl, hb2⟩
      have X0_2 := bt2 (ba (Below.refl _ _) _) hb2
      have X1_2 := hb2
      have kX0_2_0 : w2.cell? ⟨w1.heap.size, 0, none⟩ = some _ := kc X0_2 0
      have kX0_2_1 : w2.cell? ⟨w1.heap.size, 1, none⟩ = some _ := kc X0_2 1
      have kX1_2_0 : w2.cell? ⟨w1.heap.size + 1, 0, none⟩ = some (.int .i64 s) := by simpa using kc X1_2 0
      have kX1_2_1 : w2.cell? ⟨w1.heap.size + 1, 1, none⟩ = some (.int .i64 n) := by simpa using kc X1_2 1
      have hzX0_2 := kz X0_2
      have hzX1_2 : w1.heap.size + 1 < w2.heap.size := by simpa using kz X1_2
      go_wp2_with fail
      refine (c_specClassMeet _ _ _ _ _).mono ?_
      rintro e w3 ⟨rfl, hb3⟩
      have X0_3 := bt2 (ba X0_2 _) hb3
      have X1_3 := bt2 (ba X1_2 _) hb3
      have X2_3 := hb3
      have kX0_3_0 : w3.cell? ⟨w1.heap.size, 0, none⟩ = some _ := kc X0_3 0
      have kX0_3_1 : w3.cell? ⟨w1.heap.size, 1, none⟩ = some _ := kc X0_3 1
      have kX1_3_0 : w3.cell? ⟨w1.heap.size + 1, 0, none⟩ = some (.int .i64 s) := by simpa using kc X1_3 0
      have kX1_3_1 : w3.cell? ⟨w1.heap.size + 1, 1, none⟩ = some (.int .i64 n) := by simpa using kc X1_3 1
      have kX2_3_0 : w3.cell? ⟨w2.heap.size, 0, none⟩ = some _ := kc X2_3 0
      have kX2_3_1 : w3.cell? ⟨w2.heap.size, 1, none⟩ = some _ := kc X2_3 1
      have hzX0_3 := kz X0_3
      have hzX1_3 : w1.heap.size + 1 < w3.heap.size := by simpa using kz X1_3
      have hzX2_3 := kz X2_3
      go_wp2_with fail
      refine (c_implClassMeet _ _ _ _ _).mono ?_
      rintro e w4 ⟨rfl, hb4⟩
      have X0_4 := bt2 (ba X0_3 _) hb4
      have X1_4 := bt2 (ba X1_3 _) hb4
      have X2_4 := bt2 (ba X2_3 _) hb4
      have X3_4 := hb4
      have kX0_4_0 : w4.cell? ⟨w1.heap.size, 0, none⟩ = some _ := kc X0_4 0
      have kX0_4_1 : w4.cell? ⟨w1.heap.size, 1, none⟩ = some _ := kc X0_4 1
      have kX1_4_0 : w4.cell? ⟨w1.heap.size + 1, 0, none⟩ = some (.int .i64 s) := by simpa using kc X1_4 0
      have kX1_4_1 : w4.cell? ⟨w1.heap.size + 1, 1, none⟩ = some (.int .i64 n) := by simpa using kc X1_4 1
      have kX2_4_0 : w4.cell? ⟨w2.heap.size, 0, none⟩ = some _ := kc X2_4 0
      have kX2_4_1 : w4.cell? ⟨w2.heap.size, 1, none⟩ = some _ := kc X2_4 1
      have kX3_4_0 : w4.cell? ⟨w3.heap.size, 0, none⟩ = some _ := kc X3_4 0
      have kX3_4_1 : w4.cell? ⟨w3.heap.size, 1, none⟩ = some _ := kc X3_4 1
      have hzX0_4 := kz X0_4
      have hzX1_4 : w1.heap.size + 1 < w4.heap.size := by simpa using kz X1_4
      have hzX2_4 := kz X2_4
      have hzX3_4 := kz X3_4
      go_wp2_with fail
      obtain ⟨W5, hW5⟩ : ∃ W5, w4.alloc (.cells #[.int .i64 (metX m s n r), .int .i64 (lcmI m n)] 24) = W5 := ⟨_, rfl⟩
      have cX00 : W5.cell? ⟨w1.heap.size, 0, none⟩ = some (.int .i64 (r)) := by rw [← hW5]; exact keep_alloc kX0_4_0
      have cX01 : W5.cell? ⟨w1.heap.size, 1, none⟩ = some (.int .i64 (m)) := by rw [← hW5]; exact keep_alloc kX0_4_1
      have cX10 : W5.cell? ⟨w1.heap.size + 1, 0, none⟩ = some (.int .i64 (s)) := by rw [← hW5]; exact keep_alloc kX1_4_0
      have cX11 : W5.cell? ⟨w1.heap.size + 1, 1, none⟩ = some (.int .i64 (n)) := by rw [← hW5]; exact keep_alloc kX1_4_1
      have cX20 : W5.cell? ⟨w2.heap.size, 0, none⟩ = some (.int .i64 (metX m s n r)) := by rw [← hW5]; exact keep_alloc kX2_4_0
      have cX21 : W5.cell? ⟨w2.heap.size, 1, none⟩ = some (.int .i64 (lcmI m n)) := by rw [← hW5]; exact keep_alloc kX2_4_1
      have cX40 : W5.cell? ⟨w4.heap.size, 0, none⟩ = some (.int .i64 (metX m s n r)) := by rw [← hW5]; exact cell_new w4 _ _ 0
      have cX41 : W5.cell? ⟨w4.heap.size, 1, none⟩ = some (.int .i64 (lcmI m n)) := by rw [← hW5]; exact cell_new w4 _ _ 1
      have hBW : Below w.heap.size w W5 := by rw [← hW5]; exact (by repeat (first | exact Below.refl _ _ | assumption | refine Below.drew ?_ | refine bel_drewN ?_ _ | refine ba ?_ _ | refine bt2 ?_ (by assumption) | refine Below.setCell ?_ (by simp <;> omega) _))
      rw [hW5]
      clear hW5
      rcases three with ⟨t1, t2, t3⟩ | ⟨t1, t2⟩ | ⟨t1, t2, t3⟩
      · go_region_held3 (fun w' => w'.cell? ⟨w1.heap.size, 0, none⟩ = some (.int .i64 (r)) ∧ w'.cell? ⟨w1.heap.size, 1, none⟩ = some (.int .i64 (m)) ∧ w'.cell? ⟨w1.heap.size + 1, 0, none⟩ = some (.int .i64 (s)) ∧ w'.cell? ⟨w1.heap.size + 1, 1, none⟩ = some (.int .i64 (n)) ∧ w'.cell? ⟨w2.heap.size, 0, none⟩ = some (.int .i64 (metX m s n r)) ∧ w'.cell? ⟨w2.heap.size, 1, none⟩ = some (.int .i64 (lcmI m n)) ∧ w'.cell? ⟨w4.heap.size, 0, none⟩ = some (.int .i64 (metX m s n r)) ∧ w'.cell? ⟨w4.heap.size, 1, none⟩ = some (.int .i64 (lcmI m n))) (go_keep) (first | (go_at_call 18; refine (c_implClassBelow _ _ _ _ _).mono ?_; rintro e w6 ⟨rfl, hb6⟩; have z0 := keepc hb6 (a := ⟨w1.heap.size, 0, none⟩) (v := .int .i64 (r)) (by go_keep); have z1 := keepc hb6 (a := ⟨w1.heap.size, 1, none⟩) (v := .int .i64 (m)) (by go_keep); have z2 := keepc hb6 (a := ⟨w1.heap.size + 1, 0, none⟩) (v := .int .i64 (s)) (by go_keep); have z3 := keepc hb6 (a := ⟨w1.heap.size + 1, 1, none⟩) (v := .int .i64 (n)) (by go_keep); have z4 := keepc hb6 (a := ⟨w2.heap.size, 0, none⟩) (v := .int .i64 (metX m s n r)) (by go_keep); have z5 := keepc hb6 (a := ⟨w2.heap.size, 1, none⟩) (v := .int .i64 (lcmI m n)) (by go_keep); have z6 := keepc hb6 (a := ⟨w4.heap.size, 0, none⟩) (v := .int .i64 (metX m s n r)) (by go_keep); have z7 := keepc hb6 (a := ⟨w4.heap.size, 1, none⟩) (v := .int .i64 (lcmI m n)) (by go_keep); have hK : Below w.heap.size w w6 := (by first | exact bt2 hK hb6 | exact bt2 hBW.drew hb6)))
        all_goals
          go_wp2_with fail
          go_ret
          exact ⟨rfl, hK⟩
      · go_region_held3 (fun w' => w'.cell? ⟨w1.heap.size, 0, none⟩ = some (.int .i64 (r)) ∧ w'.cell? ⟨w1.heap.size, 1, none⟩ = some (.int .i64 (m)) ∧ w'.cell? ⟨w1.heap.size + 1, 0, none⟩ = some (.int .i64 (s)) ∧ w'.cell? ⟨w1.heap.size + 1, 1, none⟩ = some (.int .i64 (n)) ∧ w'.cell? ⟨w2.heap.size, 0, none⟩ = some (.int .i64 (metX m s n r)) ∧ w'.cell? ⟨w2.heap.size, 1, none⟩ = some (.int .i64 (lcmI m n)) ∧ w'.cell? ⟨w4.heap.size, 0, none⟩ = some (.int .i64 (metX m s n r)) ∧ w'.cell? ⟨w4.heap.size, 1, none⟩ = some (.int .i64 (lcmI m n))) (go_keep) (first | (go_at_call 18; refine (c_implClassBelow _ _ _ _ _).mono ?_; rintro e w6 ⟨rfl, hb6⟩; have z0 := keepc hb6 (a := ⟨w1.heap.size, 0, none⟩) (v := .int .i64 (r)) (by go_keep); have z1 := keepc hb6 (a := ⟨w1.heap.size, 1, none⟩) (v := .int .i64 (m)) (by go_keep); have z2 := keepc hb6 (a := ⟨w1.heap.size + 1, 0, none⟩) (v := .int .i64 (s)) (by go_keep); have z3 := keepc hb6 (a := ⟨w1.heap.size + 1, 1, none⟩) (v := .int .i64 (n)) (by go_keep); have z4 := keepc hb6 (a := ⟨w2.heap.size, 0, none⟩) (v := .int .i64 (metX m s n r)) (by go_keep); have z5 := keepc hb6 (a := ⟨w2.heap.size, 1, none⟩) (v := .int .i64 (lcmI m n)) (by go_keep); have z6 := keepc hb6 (a := ⟨w4.heap.size, 0, none⟩) (v := .int .i64 (metX m s n r)) (by go_keep); have z7 := keepc hb6 (a := ⟨w4.heap.size, 1, none⟩) (v := .int .i64 (lcmI m n)) (by go_keep); have hK : Below w.heap.size w w6 := (by first | exact bt2 hK hb6 | exact bt2 hBW.drew hb6)))
        all_goals
          go_wp2_with fail
          go_ret
          exact ⟨rfl, hK⟩
      · go_region_held3 (fun w' => w'.cell? ⟨w1.heap.size, 0, none⟩ = some (.int .i64 (r)) ∧ w'.cell? ⟨w1.heap.size, 1, none⟩ = some (.int .i64 (m)) ∧ w'.cell? ⟨w1.heap.size + 1, 0, none⟩ = some (.int .i64 (s)) ∧ w'.cell? ⟨w1.heap.size + 1, 1, none⟩ = some (.int .i64 (n)) ∧ w'.cell? ⟨w2.heap.size, 0, none⟩ = some (.int .i64 (metX m s n r)) ∧ w'.cell? ⟨w2.heap.size, 1, none⟩ = some (.int .i64 (lcmI m n)) ∧ w'.cell? ⟨w4.heap.size, 0, none⟩ = some (.int .i64 (metX m s n r)) ∧ w'.cell? ⟨w4.heap.size, 1, none⟩ = some (.int .i64 (lcmI m n))) (go_keep) (first | (go_at_call 18; refine (c_implClassBelow _ _ _ _ _).mono ?_; rintro e w6 ⟨rfl, hb6⟩; have z0 := keepc hb6 (a := ⟨w1.heap.size, 0, none⟩) (v := .int .i64 (r)) (by go_keep); have z1 := keepc hb6 (a := ⟨w1.heap.size, 1, none⟩) (v := .int .i64 (m)) (by go_keep); have z2 := keepc hb6 (a := ⟨w1.heap.size + 1, 0, none⟩) (v := .int .i64 (s)) (by go_keep); have z3 := keepc hb6 (a := ⟨w1.heap.size + 1, 1, none⟩) (v := .int .i64 (n)) (by go_keep); have z4 := keepc hb6 (a := ⟨w2.heap.size, 0, none⟩) (v := .int .i64 (metX m s n r)) (by go_keep); have z5 := keepc hb6 (a := ⟨w2.heap.size, 1, none⟩) (v := .int .i64 (lcmI m n)) (by go_keep); have z6 := keepc hb6 (a := ⟨w4.heap.size, 0, none⟩) (v := .int .i64 (metX m s n r)) (by go_keep); have z7 := keepc hb6 (a := ⟨w4.heap.size, 1, none⟩) (v := .int .i64 (lcmI m n)) (by go_keep); have hK : Below w.heap.size w w6 := (by first | exact bt2 hK hb6 | exact bt2 hBW.drew hb6)))
        all_goals
          go_wp2_with fail
          go_ret
          exact ⟨rfl, hK⟩
  · go_enter Try.func11, Try.ntmps11
    go_wp2_with fail
    go_ret
    exact ⟨rfl, Below.refl _ _⟩
end Go.Proofs.Ytenghhoofpjcaaa
