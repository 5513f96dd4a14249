/- The walks of exact laws of chapter 1: each returns true at every input. -/
import Derived.Test.YtdiifblplmnolaaC4
namespace Go.Proofs.Ytdiifblplmnolaa
open Go.RowKit
theorem w_FnExactClassHas (r0 m0 x1 : Int) (w : World) : Calls Try.prog 5 #[.agg #[.int .i64 r0, .int .i64 m0], .int .i64 x1] w fun e w' => e = .returned (.bool true) ∧ Below w.heap.size w w' := by
  go_enter Try.func5, Try.ntmps5
  go_wp2_with fail
  refine (c_toClass _ _ _).mono ?_
  rintro e w1 ⟨rfl, hb1⟩
  have B0_1 := hb1
  have kB01_0 : w1.cell? ⟨w.heap.size, 0, none⟩ = some _ := kc B0_1 0
  have kB01_1 : w1.cell? ⟨w.heap.size, 1, none⟩ = some _ := kc B0_1 1
  have hz1 := kz B0_1
  go_wp2_with fail
  refine (c_specClassHas _ _ _ _).mono ?_
  rintro e w2 ⟨rfl, hb2⟩
  have B0_2 := bt2 B0_1 hb2
  have kB02_0 : w2.cell? ⟨w.heap.size, 0, none⟩ = some _ := kc B0_2 0
  have kB02_1 : w2.cell? ⟨w.heap.size, 1, none⟩ = some _ := kc B0_2 1
  have hz2 := kz B0_2
  go_wp2_with fail
  refine (c_toClass _ _ _).mono ?_
  rintro e w3 ⟨rfl, hb3⟩
  have B0_3 := bt2 B0_2 hb3
  have kB03_0 : w3.cell? ⟨w.heap.size, 0, none⟩ = some _ := kc B0_3 0
  have kB03_1 : w3.cell? ⟨w.heap.size, 1, none⟩ = some _ := kc B0_3 1
  have hz3 := kz B0_3
  go_wp2_with fail
  refine (c_implClassHas _ _ _ _).mono ?_
  rintro e w4 ⟨rfl, hb4⟩
  have B0_4 := bt2 B0_3 hb4
  have kB04_0 : w4.cell? ⟨w.heap.size, 0, none⟩ = some _ := kc B0_4 0
  have kB04_1 : w4.cell? ⟨w.heap.size, 1, none⟩ = some _ := kc B0_4 1
  have hz4 := kz B0_4
  go_wp2_with fail
  go_ret
  exact ⟨rfl, by repeat (first | exact Below.refl _ _ | assumption | refine Below.drew ?_ | refine bel_drewN ?_ _ | refine ba ?_ _ | refine bt2 ?_ (by assumption) | refine Below.setCell ?_ (by simp <;> omega) _)⟩
theorem two_kept {w w' : World} {r m s n : Int} {t : TypeId} (h : Below ((w.alloc (.cells #[.int .i64 r, .int .i64 m] t)).alloc (.cells #[.int .i64 s, .int .i64 n] t)).heap.size ((w.alloc (.cells #[.int .i64 r, .int .i64 m] t)).alloc (.cells #[.int .i64 s, .int .i64 n] t)) w') :
    Below ((w.alloc (.cells #[.int .i64 r, .int .i64 m] t)).alloc (.cells #[.int .i64 s, .int .i64 n] t)).heap.size ((w.alloc (.cells #[.int .i64 r, .int .i64 m] t)).alloc (.cells #[.int .i64 s, .int .i64 n] t)) w' ∧ w'.cell? ⟨w.heap.size, 0, none⟩ = some (.int .i64 r) ∧ w'.cell? ⟨w.heap.size, 1, none⟩ = some (.int .i64 m) ∧ w'.cell? ⟨w.heap.size + 1, 0, none⟩ = some (.int .i64 s) ∧ w'.cell? ⟨w.heap.size + 1, 1, none⟩ = some (.int .i64 n) := by
  refine ⟨h, ?_, ?_, ?_, ?_⟩
  all_goals
    rw [h.cell (by simp <;> omega)]
    simp
theorem w_FnExactClassBelow (r0 m0 r1 m1 : Int) (w : World) : Calls Try.prog 6 #[.agg #[.int .i64 r0, .int .i64 m0], .agg #[.int .i64 r1, .int .i64 m1]] w fun e w' => e = .returned (.bool true) ∧ Below w.heap.size w w' := by
  go_enter Try.func6, Try.ntmps6
  go_wp2_with fail
  go_region_held3 (fun w' => Below ((w.alloc (Obj.cells #[Value.int IntKind.i64 r0, Value.int IntKind.i64 m0] 23)).alloc (Obj.cells #[Value.int IntKind.i64 r1, Value.int IntKind.i64 m1] 23)).heap.size ((w.alloc (Obj.cells #[Value.int IntKind.i64 r0, Value.int IntKind.i64 m0] 23)).alloc (Obj.cells #[Value.int IntKind.i64 r1, Value.int IntKind.i64 m1] 23)) w' ∧ w'.cell? ⟨w.heap.size, 0, none⟩ = some (.int .i64 r0) ∧ w'.cell? ⟨w.heap.size, 1, none⟩ = some (.int .i64 m0) ∧ w'.cell? ⟨w.heap.size + 1, 0, none⟩ = some (.int .i64 r1) ∧ w'.cell? ⟨w.heap.size + 1, 1, none⟩ = some (.int .i64 m1)) (first | (go_keep; done) | ((try go_split_ands); exact two_kept (by repeat (first | exact Below.refl _ _ | assumption | refine Below.drew ?_ | refine bel_drewN ?_ _ | refine ba ?_ _ | refine bt2 ?_ (by assumption) | refine Below.setCell ?_ (by simp <;> omega) _)))) (first | (go_at_call 12; refine (c_toClass _ _ _).mono ?_; rintro e w1 ⟨rfl, hb⟩) | (go_at_call 19; refine (c_specClassBelow _ _ _ _ _).mono ?_; rintro e w1 ⟨rfl, hb⟩))
  go_split_ands
  go_wp2_with fail
  go_region_held3 (fun w' => Below ((w.alloc (Obj.cells #[Value.int IntKind.i64 r0, Value.int IntKind.i64 m0] 23)).alloc (Obj.cells #[Value.int IntKind.i64 r1, Value.int IntKind.i64 m1] 23)).heap.size ((w.alloc (Obj.cells #[Value.int IntKind.i64 r0, Value.int IntKind.i64 m0] 23)).alloc (Obj.cells #[Value.int IntKind.i64 r1, Value.int IntKind.i64 m1] 23)) w' ∧ w'.cell? ⟨w.heap.size, 0, none⟩ = some (.int .i64 r0) ∧ w'.cell? ⟨w.heap.size, 1, none⟩ = some (.int .i64 m0) ∧ w'.cell? ⟨w.heap.size + 1, 0, none⟩ = some (.int .i64 r1) ∧ w'.cell? ⟨w.heap.size + 1, 1, none⟩ = some (.int .i64 m1)) (first | (go_keep; done) | ((try go_split_ands); exact two_kept (by repeat (first | exact Below.refl _ _ | assumption | refine Below.drew ?_ | refine bel_drewN ?_ _ | refine ba ?_ _ | refine bt2 ?_ (by assumption) | refine Below.setCell ?_ (by simp <;> omega) _)))) (first | (go_at_call 12; refine (c_toClass _ _ _).mono ?_; rintro e w1 ⟨rfl, hb⟩) | (go_at_call 20; refine (c_implClassBelow _ _ _ _ _).mono ?_; rintro e w1 ⟨rfl, hb⟩))
  go_split_ands
  go_wp2_with fail
  go_ret
  exact ⟨rfl, by repeat (first | exact Below.refl _ _ | assumption | refine Below.drew ?_ | refine bel_drewN ?_ _ | refine ba ?_ _ | refine bt2 ?_ (by assumption) | refine Below.setCell ?_ (by simp <;> omega) _)⟩
theorem w_FnExactClassMoved (r0 m0 x1 : Int) (w : World) : Calls Try.prog 7 #[.agg #[.int .i64 r0, .int .i64 m0], .int .i64 x1] w fun e w' => e = .returned (.bool true) ∧ Below w.heap.size w w' := by
  go_enter Try.func7, Try.ntmps7
  go_wp2_with fail
  refine (c_toClass _ _ _).mono ?_
  rintro e w1 ⟨rfl, hb1⟩
  have B0_1 := hb1
  have kB01_0 : w1.cell? ⟨w.heap.size, 0, none⟩ = some _ := kc B0_1 0
  have kB01_1 : w1.cell? ⟨w.heap.size, 1, none⟩ = some _ := kc B0_1 1
  have hz1 := kz B0_1
  go_wp2_with fail
  refine (c_specClassMoved _ _ _ _).mono ?_
  rintro e w2 ⟨rfl, hb2⟩
  have B0_2 := bt2 B0_1 hb2
  have kB02_0 : w2.cell? ⟨w.heap.size, 0, none⟩ = some _ := kc B0_2 0
  have kB02_1 : w2.cell? ⟨w.heap.size, 1, none⟩ = some _ := kc B0_2 1
  have hz2 := kz B0_2
  go_wp2_with fail
  refine (c_toClass _ _ _).mono ?_
  rintro e w3 ⟨rfl, hb3⟩
  have B0_3 := bt2 (ba B0_2 _) hb3
  have L2_3 := hb3
  have kB03_0 : w3.cell? ⟨w.heap.size, 0, none⟩ = some _ := kc B0_3 0
  have kB03_1 : w3.cell? ⟨w.heap.size, 1, none⟩ = some _ := kc B0_3 1
  have kL23_0 : w3.cell? ⟨w2.heap.size, 0, none⟩ = some _ := kc L2_3 0
  have kL23_1 : w3.cell? ⟨w2.heap.size, 1, none⟩ = some _ := kc L2_3 1
  have hz3 := kz L2_3
  go_wp2_with fail
  refine (c_implClassMoved _ _ _ _).mono ?_
  rintro e w4 ⟨rfl, hb4⟩
  have B0_4 := bt2 B0_3 hb4
  have L2_4 := bt2 L2_3 hb4
  have kB04_0 : w4.cell? ⟨w.heap.size, 0, none⟩ = some _ := kc B0_4 0
  have kB04_1 : w4.cell? ⟨w.heap.size, 1, none⟩ = some _ := kc B0_4 1
  have kL24_0 : w4.cell? ⟨w2.heap.size, 0, none⟩ = some _ := kc L2_4 0
  have kL24_1 : w4.cell? ⟨w2.heap.size, 1, none⟩ = some _ := kc L2_4 1
  have hz4 := kz L2_4
  go_wp2_with (first | (go_at_call 16; refine (c_eqClass _ _ _).mono ?_; rintro e w1 ⟨rfl, rfl⟩))
  go_ret
  exact ⟨rfl, by repeat (first | exact Below.refl _ _ | assumption | refine Below.drew ?_ | refine bel_drewN ?_ _ | refine ba ?_ _ | refine bt2 ?_ (by assumption) | refine Below.setCell ?_ (by simp <;> omega) _)⟩
theorem w_FnExactClassScaled (r0 m0 x1 : Int) (w : World) : Calls Try.prog 8 #[.agg #[.int .i64 r0, .int .i64 m0], .int .i64 x1] w fun e w' => e = .returned (.bool true) ∧ Below w.heap.size w w' := by
  go_enter Try.func8, Try.ntmps8
  go_wp2_with fail
  refine (c_toClass _ _ _).mono ?_
  rintro e w1 ⟨rfl, hb1⟩
  have B0_1 := hb1
  have kB01_0 : w1.cell? ⟨w.heap.size, 0, none⟩ = some _ := kc B0_1 0
  have kB01_1 : w1.cell? ⟨w.heap.size, 1, none⟩ = some _ := kc B0_1 1
  have hz1 := kz B0_1
  go_wp2_with fail
  refine (c_specClassScaled _ _ _ _).mono ?_
  rintro e w2 ⟨rfl, hb2⟩
  have B0_2 := bt2 B0_1 hb2
  have kB02_0 : w2.cell? ⟨w.heap.size, 0, none⟩ = some _ := kc B0_2 0
  have kB02_1 : w2.cell? ⟨w.heap.size, 1, none⟩ = some _ := kc B0_2 1
  have hz2 := kz B0_2
  go_wp2_with fail
  refine (c_toClass _ _ _).mono ?_
  rintro e w3 ⟨rfl, hb3⟩
  have B0_3 := bt2 (ba B0_2 _) hb3
  have L2_3 := hb3
  have kB03_0 : w3.cell? ⟨w.heap.size, 0, none⟩ = some _ := kc B0_3 0
  have kB03_1 : w3.cell? ⟨w.heap.size, 1, none⟩ = some _ := kc B0_3 1
  have kL23_0 : w3.cell? ⟨w2.heap.size, 0, none⟩ = some _ := kc L2_3 0
  have kL23_1 : w3.cell? ⟨w2.heap.size, 1, none⟩ = some _ := kc L2_3 1
  have hz3 := kz L2_3
  go_wp2_with fail
  refine (c_implClassScaled _ _ _ _).mono ?_
  rintro e w4 ⟨rfl, hb4⟩
  have B0_4 := bt2 B0_3 hb4
  have L2_4 := bt2 L2_3 hb4
  have kB04_0 : w4.cell? ⟨w.heap.size, 0, none⟩ = some _ := kc B0_4 0
  have kB04_1 : w4.cell? ⟨w.heap.size, 1, none⟩ = some _ := kc B0_4 1
  have kL24_0 : w4.cell? ⟨w2.heap.size, 0, none⟩ = some _ := kc L2_4 0
  have kL24_1 : w4.cell? ⟨w2.heap.size, 1, none⟩ = some _ := kc L2_4 1
  have hz4 := kz L2_4
  go_wp2_with (first | (go_at_call 16; refine (c_eqClass _ _ _).mono ?_; rintro e w1 ⟨rfl, rfl⟩))
  go_ret
  exact ⟨rfl, by repeat (first | exact Below.refl _ _ | assumption | refine Below.drew ?_ | refine bel_drewN ?_ _ | refine ba ?_ _ | refine bt2 ?_ (by assumption) | refine Below.setCell ?_ (by simp <;> omega) _)⟩
theorem w_FnExactClassFirst (r0 m0 x1 : Int) (w : World) : Calls Try.prog 9 #[.agg #[.int .i64 r0, .int .i64 m0], .int .i64 x1] w fun e w' => e = .returned (.bool true) ∧ Below w.heap.size w w' := by
  go_enter Try.func9, Try.ntmps9
  go_wp2_with fail
  refine (c_toClass _ _ _).mono ?_
  rintro e w1 ⟨rfl, hb1⟩
  have B0_1 := hb1
  have kB01_0 : w1.cell? ⟨w.heap.size, 0, none⟩ = some _ := kc B0_1 0
  have kB01_1 : w1.cell? ⟨w.heap.size, 1, none⟩ = some _ := kc B0_1 1
  have hz1 := kz B0_1
  go_wp2_with fail
  refine (c_specClassFirst _ _ _ _).mono ?_
  rintro e w2 ⟨rfl, hb2⟩
  have B0_2 := bt2 B0_1 hb2
  have kB02_0 : w2.cell? ⟨w.heap.size, 0, none⟩ = some _ := kc B0_2 0
  have kB02_1 : w2.cell? ⟨w.heap.size, 1, none⟩ = some _ := kc B0_2 1
  have hz2 := kz B0_2
  go_wp2_with fail
  refine (c_toClass _ _ _).mono ?_
  rintro e w3 ⟨rfl, hb3⟩
  have B0_3 := bt2 B0_2 hb3
  have kB03_0 : w3.cell? ⟨w.heap.size, 0, none⟩ = some _ := kc B0_3 0
  have kB03_1 : w3.cell? ⟨w.heap.size, 1, none⟩ = some _ := kc B0_3 1
  have hz3 := kz B0_3
  go_wp2_with fail
  refine (c_implClassFirst _ _ _ _).mono ?_
  rintro e w4 ⟨rfl, hb4⟩
  have B0_4 := bt2 B0_3 hb4
  have kB04_0 : w4.cell? ⟨w.heap.size, 0, none⟩ = some _ := kc B0_4 0
  have kB04_1 : w4.cell? ⟨w.heap.size, 1, none⟩ = some _ := kc B0_4 1
  have hz4 := kz B0_4
  go_wp2_with fail
  go_ret
  exact ⟨rfl, by repeat (first | exact Below.refl _ _ | assumption | refine Below.drew ?_ | refine bel_drewN ?_ _ | refine ba ?_ _ | refine bt2 ?_ (by assumption) | refine Below.setCell ?_ (by simp <;> omega) _)⟩
theorem w_FnExactClassCount (r0 m0 x1 x2 : Int) (w : World) : Calls Try.prog 10 #[.agg #[.int .i64 r0, .int .i64 m0], .int .i64 x1, .int .i64 x2] w fun e w' => e = .returned (.bool true) ∧ Below w.heap.size w w' := by
  go_enter Try.func10, Try.ntmps10
  go_wp2_with fail
  refine (c_toClass _ _ _).mono ?_
  rintro e w1 ⟨rfl, hb1⟩
  have B0_1 := hb1
  have kB01_0 : w1.cell? ⟨w.heap.size, 0, none⟩ = some _ := kc B0_1 0
  have kB01_1 : w1.cell? ⟨w.heap.size, 1, none⟩ = some _ := kc B0_1 1
  have hz1 := kz B0_1
  go_wp2_with fail
  refine (c_specClassCount _ _ _ _ _).mono ?_
  rintro e w2 ⟨rfl, hb2⟩
  have B0_2 := bt2 B0_1 hb2
  have kB02_0 : w2.cell? ⟨w.heap.size, 0, none⟩ = some _ := kc B0_2 0
  have kB02_1 : w2.cell? ⟨w.heap.size, 1, none⟩ = some _ := kc B0_2 1
  have hz2 := kz B0_2
  go_wp2_with fail
  refine (c_toClass _ _ _).mono ?_
  rintro e w3 ⟨rfl, hb3⟩
  have B0_3 := bt2 B0_2 hb3
  have kB03_0 : w3.cell? ⟨w.heap.size, 0, none⟩ = some _ := kc B0_3 0
  have kB03_1 : w3.cell? ⟨w.heap.size, 1, none⟩ = some _ := kc B0_3 1
  have hz3 := kz B0_3
  go_wp2_with fail
  refine (c_implClassCount _ _ _ _ _).mono ?_
  rintro e w4 ⟨rfl, hb4⟩
  have B0_4 := bt2 B0_3 hb4
  have kB04_0 : w4.cell? ⟨w.heap.size, 0, none⟩ = some _ := kc B0_4 0
  have kB04_1 : w4.cell? ⟨w.heap.size, 1, none⟩ = some _ := kc B0_4 1
  have hz4 := kz B0_4
  go_wp2_with fail
  go_ret
  exact ⟨rfl, by repeat (first | exact Below.refl _ _ | assumption | refine Below.drew ?_ | refine bel_drewN ?_ _ | refine ba ?_ _ | refine bt2 ?_ (by assumption) | refine Below.setCell ?_ (by simp <;> omega) _)⟩
end Go.Proofs.Ytdiifblplmnolaa
