/- The walks of the promise laws of chapter 1: each returns true at every code. -/
import Derived.Test.YtenghhoofpjcaaaC4
import Derived.Test.YtenghhoofpjcaaaD5
namespace Go.Proofs.Ytenghhoofpjcaaa
open Go.RowKit
theorem c_specClassInB (r m : Int) (w : World) : Calls Try.prog 15 #[.agg #[.int .i64 r, .int .i64 m]] w fun e w' => e = .returned (.bool (inB r m)) ∧ Below w.heap.size w w' :=
  (c_specClassIn r m w).mono fun _ _ ⟨h1, h2⟩ => ⟨h1, h2 ▸ ba (Below.refl _ _) _⟩
theorem w_FnClass (s : Option Addr) (len cap : Nat) (w : World) (h : Code0 w s len cap) : Calls Try.prog 3 #[.slice s len cap] w fun e w' => e = .returned (.bool true) ∧ Below w.heap.size w w' := by
  have hlc := h.lc
  have hcm := h.cm
  unfold maxLen at hcm
  by_cases hlen : len ≤ 1048576
  · go_enter Try.func3, Try.ntmps3
    go_wp2_with fail
    refine (c_DrawClassIn s len cap _ h).mono ?_
    rintro e w1 ⟨r, m, m1, m2, r1, r2, rfl, hb1⟩
    cases hin : inB r m
    · have hin := hin
      go_wp2_with fail
      refine (c_implClassIn _ _ _).mono ?_
      rintro e w2 ⟨rfl, hb2⟩
      have X0_2 := hb2
      have kX0_2_0 : w2.cell? ⟨w1.heap.size, 0, none⟩ = some _ := kc X0_2 0
      have kX0_2_1 : w2.cell? ⟨w1.heap.size, 1, none⟩ = some _ := kc X0_2 1
      have hzX0_2 := kz X0_2
      go_wp2_with fail
      refine (c_specClassInB _ _ _).mono ?_
      rintro e w3 ⟨rfl, hb3⟩
      have X0_3 := bt2 X0_2 hb3
      have kX0_3_0 : w3.cell? ⟨w1.heap.size, 0, none⟩ = some _ := kc X0_3 0
      have kX0_3_1 : w3.cell? ⟨w1.heap.size, 1, none⟩ = some _ := kc X0_3 1
      have hzX0_3 := kz X0_3
      go_wp2_with fail
      go_ret
      exact ⟨rfl, by repeat (first | exact Below.refl _ _ | assumption | refine Below.drew ?_ | refine bel_drewN ?_ _ | refine ba ?_ _ | refine bt2 ?_ (by assumption) | refine Below.setCell ?_ (by simp <;> omega) _)⟩
    · have e1 := in_of hin
      have e2 := in_has hin
      have e3 := in_bel hin
      have e4 := emod_id hin
      have e5 := selI_t
      go_wp2_with fail
      refine (c_implClassIn _ _ _).mono ?_
      rintro e w2 ⟨rfl, hb2⟩
      have X0_2 := hb2
      have kX0_2_0 : w2.cell? ⟨w1.heap.size, 0, none⟩ = some _ := kc X0_2 0
      have kX0_2_1 : w2.cell? ⟨w1.heap.size, 1, none⟩ = some _ := kc X0_2 1
      have hzX0_2 := kz X0_2
      go_wp2_with fail
      refine (c_specClassInB _ _ _).mono ?_
      rintro e w3 ⟨rfl, hb3⟩
      have X0_3 := bt2 X0_2 hb3
      have kX0_3_0 : w3.cell? ⟨w1.heap.size, 0, none⟩ = some _ := kc X0_3 0
      have kX0_3_1 : w3.cell? ⟨w1.heap.size, 1, none⟩ = some _ := kc X0_3 1
      have hzX0_3 := kz X0_3
      go_wp2_with fail
      refine (c_implClassOf _ _ _).mono ?_
      rintro e w4 ⟨rfl, hb4⟩
      have X0_4 := bt2 X0_3 hb4
      have kX0_4_0 : w4.cell? ⟨w1.heap.size, 0, none⟩ = some _ := kc X0_4 0
      have kX0_4_1 : w4.cell? ⟨w1.heap.size, 1, none⟩ = some _ := kc X0_4 1
      have hzX0_4 := kz X0_4
      go_wp2_with fail
      refine (c_implClassHas _ _ _ _).mono ?_
      rintro e w5 ⟨rfl, hb5⟩
      have X0_5 := bt2 (ba X0_4 _) hb5
      have X1_5 := hb5
      have kX0_5_0 : w5.cell? ⟨w1.heap.size, 0, none⟩ = some _ := kc X0_5 0
      have kX0_5_1 : w5.cell? ⟨w1.heap.size, 1, none⟩ = some _ := kc X0_5 1
      have kX1_5_0 : w5.cell? ⟨w4.heap.size, 0, none⟩ = some _ := kc X1_5 0
      have kX1_5_1 : w5.cell? ⟨w4.heap.size, 1, none⟩ = some _ := kc X1_5 1
      have hzX0_5 := kz X0_5
      have hzX1_5 := kz X1_5
      go_wp2_with fail
      refine (c_implClassBelow _ _ _ _ _).mono ?_
      rintro e w6 ⟨rfl, hb6⟩
      have X0_6 := bt2 X0_5 hb6
      have X1_6 := bt2 X1_5 hb6
      have kX0_6_0 : w6.cell? ⟨w1.heap.size, 0, none⟩ = some _ := kc X0_6 0
      have kX0_6_1 : w6.cell? ⟨w1.heap.size, 1, none⟩ = some _ := kc X0_6 1
      have kX1_6_0 : w6.cell? ⟨w4.heap.size, 0, none⟩ = some _ := kc X1_6 0
      have kX1_6_1 : w6.cell? ⟨w4.heap.size, 1, none⟩ = some _ := kc X1_6 1
      have hzX0_6 := kz X0_6
      have hzX1_6 := kz X1_6
      go_wp2_with fail
      go_ret
      exact ⟨rfl, by repeat (first | exact Below.refl _ _ | assumption | refine Below.drew ?_ | refine bel_drewN ?_ _ | refine ba ?_ _ | refine bt2 ?_ (by assumption) | refine Below.setCell ?_ (by simp <;> omega) _)⟩
  · go_enter Try.func3, Try.ntmps3
    go_wp2_with fail
    go_ret
    exact ⟨rfl, Below.refl _ _⟩
theorem w_FnClassOf (s : Option Addr) (len cap : Nat) (w : World) (h : Code0 w s len cap) : Calls Try.prog 4 #[.slice s len cap] w fun e w' => e = .returned (.bool true) ∧ Below w.heap.size w w' := by
  have hlc := h.lc
  have hcm := h.cm
  unfold maxLen at hcm
  by_cases hlen : len ≤ 1048576
  · go_enter Try.func4, Try.ntmps4
    go_wp2_with fail
    refine (c_DrawClassOf s len cap _ h).mono ?_
    rintro e w1 ⟨x, m, x1, x2, m1, m2, rfl, hb1⟩
    have e5 := selI_t
    have e6 := selI_f
    cases hin : ofB x m
    · have hin := hin
      go_wp2_with fail
      refine (c_implClassOf _ _ _).mono ?_
      rintro e w2 ⟨rfl, hb2⟩
      go_wp2_with fail
      refine (c_specClassOf _ _ _).mono ?_
      rintro e w3 ⟨rfl, hb3⟩
      have X0_3 := hb3
      have kX0_3_0 : w3.cell? ⟨w2.heap.size, 0, none⟩ = some _ := kc X0_3 0
      have kX0_3_1 : w3.cell? ⟨w2.heap.size, 1, none⟩ = some _ := kc X0_3 1
      have hzX0_3 := kz X0_3
      go_wp2_with fail
      go_ret
      exact ⟨rfl, by repeat (first | exact Below.refl _ _ | assumption | refine Below.drew ?_ | refine bel_drewN ?_ _ | refine ba ?_ _ | refine bt2 ?_ (by assumption) | refine Below.setCell ?_ (by simp <;> omega) _)⟩
    · have e1 := of_has hin
      go_wp2_with fail
      refine (c_implClassOf _ _ _).mono ?_
      rintro e w2 ⟨rfl, hb2⟩
      go_wp2_with fail
      refine (c_specClassOf _ _ _).mono ?_
      rintro e w3 ⟨rfl, hb3⟩
      have X0_3 := hb3
      have kX0_3_0 : w3.cell? ⟨w2.heap.size, 0, none⟩ = some _ := kc X0_3 0
      have kX0_3_1 : w3.cell? ⟨w2.heap.size, 1, none⟩ = some _ := kc X0_3 1
      have hzX0_3 := kz X0_3
      go_wp2_with fail
      refine (c_implClassHas _ _ _ _).mono ?_
      rintro e w4 ⟨rfl, hb4⟩
      have X0_4 := bt2 (ba X0_3 _) hb4
      have X1_4 := hb4
      have kX0_4_0 : w4.cell? ⟨w2.heap.size, 0, none⟩ = some _ := kc X0_4 0
      have kX0_4_1 : w4.cell? ⟨w2.heap.size, 1, none⟩ = some _ := kc X0_4 1
      have kX1_4_0 : w4.cell? ⟨w3.heap.size, 0, none⟩ = some _ := kc X1_4 0
      have kX1_4_1 : w4.cell? ⟨w3.heap.size, 1, none⟩ = some _ := kc X1_4 1
      have hzX0_4 := kz X0_4
      have hzX1_4 := kz X1_4
      go_wp2_with fail
      go_ret
      exact ⟨rfl, by repeat (first | exact Below.refl _ _ | assumption | refine Below.drew ?_ | refine bel_drewN ?_ _ | refine ba ?_ _ | refine bt2 ?_ (by assumption) | refine Below.setCell ?_ (by simp <;> omega) _)⟩
  · go_enter Try.func4, Try.ntmps4
    go_wp2_with fail
    go_ret
    exact ⟨rfl, Below.refl _ _⟩
theorem w_FnMoved (s : Option Addr) (len cap : Nat) (w : World) (h : Code0 w s len cap) : Calls Try.prog 7 #[.slice s len cap] w fun e w' => e = .returned (.bool true) ∧ Below w.heap.size w w' := by
  have hlc := h.lc
  have hcm := h.cm
  unfold maxLen at hcm
  by_cases hlen : len ≤ 1048576
  · go_enter Try.func7, Try.ntmps7
    go_wp2_with fail
    refine (c_DrawClassMoved s len cap _ h).mono ?_
    rintro e w1 ⟨r, m, x, m1, m2, r1, r2, x1, x2, rfl, hb1⟩
    have e5 := selI_t
    have e6 := selI_f
    cases hin : movB r m x
    · have hin := hin
      go_wp2_with fail
      refine (c_implClassMoved _ _ _ _).mono ?_
      rintro e w2 ⟨rfl, hb2⟩
      have X0_2 := hb2
      have kX0_2_0 : w2.cell? ⟨w1.heap.size, 0, none⟩ = some _ := kc X0_2 0
      have kX0_2_1 : w2.cell? ⟨w1.heap.size, 1, none⟩ = some _ := kc X0_2 1
      have hzX0_2 := kz X0_2
      go_wp2_with fail
      refine (c_specClassMoved _ _ _ _).mono ?_
      rintro e w3 ⟨rfl, hb3⟩
      have X0_3 := bt2 (ba X0_2 _) hb3
      have X1_3 := hb3
      have kX0_3_0 : w3.cell? ⟨w1.heap.size, 0, none⟩ = some _ := kc X0_3 0
      have kX0_3_1 : w3.cell? ⟨w1.heap.size, 1, none⟩ = some _ := kc X0_3 1
      have kX1_3_0 : w3.cell? ⟨w2.heap.size, 0, none⟩ = some _ := kc X1_3 0
      have kX1_3_1 : w3.cell? ⟨w2.heap.size, 1, none⟩ = some _ := kc X1_3 1
      have hzX0_3 := kz X0_3
      have hzX1_3 := kz X1_3
      go_wp2_with fail
      go_ret
      exact ⟨rfl, by repeat (first | exact Below.refl _ _ | assumption | refine Below.drew ?_ | refine bel_drewN ?_ _ | refine ba ?_ _ | refine bt2 ?_ (by assumption) | refine Below.setCell ?_ (by simp <;> omega) _)⟩
    · obtain ⟨e1, e2, e3, e4⟩ := mov_back' hin
      go_wp2_with fail
      refine (c_implClassMoved _ _ _ _).mono ?_
      rintro e w2 ⟨rfl, hb2⟩
      have X0_2 := hb2
      have kX0_2_0 : w2.cell? ⟨w1.heap.size, 0, none⟩ = some _ := kc X0_2 0
      have kX0_2_1 : w2.cell? ⟨w1.heap.size, 1, none⟩ = some _ := kc X0_2 1
      have hzX0_2 := kz X0_2
      go_wp2_with fail
      refine (c_specClassMoved _ _ _ _).mono ?_
      rintro e w3 ⟨rfl, hb3⟩
      have X0_3 := bt2 (ba X0_2 _) hb3
      have X1_3 := hb3
      have kX0_3_0 : w3.cell? ⟨w1.heap.size, 0, none⟩ = some _ := kc X0_3 0
      have kX0_3_1 : w3.cell? ⟨w1.heap.size, 1, none⟩ = some _ := kc X0_3 1
      have kX1_3_0 : w3.cell? ⟨w2.heap.size, 0, none⟩ = some _ := kc X1_3 0
      have kX1_3_1 : w3.cell? ⟨w2.heap.size, 1, none⟩ = some _ := kc X1_3 1
      have hzX0_3 := kz X0_3
      have hzX1_3 := kz X1_3
      go_wp2_with fail
      refine (c_implClassMoved _ _ _ _).mono ?_
      rintro e w4 ⟨rfl, hb4⟩
      have X0_4 := bt2 (ba X0_3 _) hb4
      have X1_4 := bt2 (ba X1_3 _) hb4
      have X2_4 := hb4
      have kX0_4_0 : w4.cell? ⟨w1.heap.size, 0, none⟩ = some _ := kc X0_4 0
      have kX0_4_1 : w4.cell? ⟨w1.heap.size, 1, none⟩ = some _ := kc X0_4 1
      have kX1_4_0 : w4.cell? ⟨w2.heap.size, 0, none⟩ = some _ := kc X1_4 0
      have kX1_4_1 : w4.cell? ⟨w2.heap.size, 1, none⟩ = some _ := kc X1_4 1
      have kX2_4_0 : w4.cell? ⟨w3.heap.size, 0, none⟩ = some _ := kc X2_4 0
      have kX2_4_1 : w4.cell? ⟨w3.heap.size, 1, none⟩ = some _ := kc X2_4 1
      have hzX0_4 := kz X0_4
      have hzX1_4 := kz X1_4
      have hzX2_4 := kz X2_4
      go_wp2_with fail
      go_ret
      exact ⟨rfl, by repeat (first | exact Below.refl _ _ | assumption | refine Below.drew ?_ | refine bel_drewN ?_ _ | refine ba ?_ _ | refine bt2 ?_ (by assumption) | refine Below.setCell ?_ (by simp <;> omega) _)⟩
  · go_enter Try.func7, Try.ntmps7
    go_wp2_with fail
    go_ret
    exact ⟨rfl, Below.refl _ _⟩
theorem w_FnScaled (s : Option Addr) (len cap : Nat) (w : World) (h : Code0 w s len cap) : Calls Try.prog 8 #[.slice s len cap] w fun e w' => e = .returned (.bool true) ∧ Below w.heap.size w w' := by
  have hlc := h.lc
  have hcm := h.cm
  unfold maxLen at hcm
  by_cases hlen : len ≤ 1048576
  · go_enter Try.func8, Try.ntmps8
    go_wp2_with fail
    refine (c_DrawClassScaled s len cap _ h).mono ?_
    rintro e w1 ⟨r, m, x, m1, m2, r1, r2, x1, x2, rfl, hb1⟩
    have e5 := selI_t
    have e6 := selI_f
    cases hin : scaB r m x
    · have hin := hin
      go_wp2_with fail
      refine (c_implClassScaled _ _ _ _).mono ?_
      rintro e w2 ⟨rfl, hb2⟩
      have X0_2 := hb2
      have kX0_2_0 : w2.cell? ⟨w1.heap.size, 0, none⟩ = some _ := kc X0_2 0
      have kX0_2_1 : w2.cell? ⟨w1.heap.size, 1, none⟩ = some _ := kc X0_2 1
      have hzX0_2 := kz X0_2
      go_wp2_with fail
      refine (c_specClassScaled _ _ _ _).mono ?_
      rintro e w3 ⟨rfl, hb3⟩
      have X0_3 := bt2 (ba X0_2 _) hb3
      have X1_3 := hb3
      have kX0_3_0 : w3.cell? ⟨w1.heap.size, 0, none⟩ = some _ := kc X0_3 0
      have kX0_3_1 : w3.cell? ⟨w1.heap.size, 1, none⟩ = some _ := kc X0_3 1
      have kX1_3_0 : w3.cell? ⟨w2.heap.size, 0, none⟩ = some _ := kc X1_3 0
      have kX1_3_1 : w3.cell? ⟨w2.heap.size, 1, none⟩ = some _ := kc X1_3 1
      have hzX0_3 := kz X0_3
      have hzX1_3 := kz X1_3
      go_wp2_with fail
      go_ret
      exact ⟨rfl, by repeat (first | exact Below.refl _ _ | assumption | refine Below.drew ?_ | refine bel_drewN ?_ _ | refine ba ?_ _ | refine bt2 ?_ (by assumption) | refine Below.setCell ?_ (by simp <;> omega) _)⟩
    · obtain ⟨e1, e2⟩ := sca_has hin
      have e3 := mul_bd24 x1 x2 r1 (show r ≤ 24 by omega)
      go_wp2_with fail
      refine (c_implClassScaled _ _ _ _).mono ?_
      rintro e w2 ⟨rfl, hb2⟩
      have X0_2 := hb2
      have kX0_2_0 : w2.cell? ⟨w1.heap.size, 0, none⟩ = some _ := kc X0_2 0
      have kX0_2_1 : w2.cell? ⟨w1.heap.size, 1, none⟩ = some _ := kc X0_2 1
      have hzX0_2 := kz X0_2
      go_wp2_with fail
      refine (c_specClassScaled _ _ _ _).mono ?_
      rintro e w3 ⟨rfl, hb3⟩
      have X0_3 := bt2 (ba X0_2 _) hb3
      have X1_3 := hb3
      have kX0_3_0 : w3.cell? ⟨w1.heap.size, 0, none⟩ = some _ := kc X0_3 0
      have kX0_3_1 : w3.cell? ⟨w1.heap.size, 1, none⟩ = some _ := kc X0_3 1
      have kX1_3_0 : w3.cell? ⟨w2.heap.size, 0, none⟩ = some _ := kc X1_3 0
      have kX1_3_1 : w3.cell? ⟨w2.heap.size, 1, none⟩ = some _ := kc X1_3 1
      have hzX0_3 := kz X0_3
      have hzX1_3 := kz X1_3
      go_wp2_with fail
      refine (c_implClassHas _ _ _ _).mono ?_
      rintro e w4 ⟨rfl, hb4⟩
      have X0_4 := bt2 (ba X0_3 _) hb4
      have X1_4 := bt2 (ba X1_3 _) hb4
      have X2_4 := hb4
      have kX0_4_0 : w4.cell? ⟨w1.heap.size, 0, none⟩ = some _ := kc X0_4 0
      have kX0_4_1 : w4.cell? ⟨w1.heap.size, 1, none⟩ = some _ := kc X0_4 1
      have kX1_4_0 : w4.cell? ⟨w2.heap.size, 0, none⟩ = some _ := kc X1_4 0
      have kX1_4_1 : w4.cell? ⟨w2.heap.size, 1, none⟩ = some _ := kc X1_4 1
      have kX2_4_0 : w4.cell? ⟨w3.heap.size, 0, none⟩ = some _ := kc X2_4 0
      have kX2_4_1 : w4.cell? ⟨w3.heap.size, 1, none⟩ = some _ := kc X2_4 1
      have hzX0_4 := kz X0_4
      have hzX1_4 := kz X1_4
      have hzX2_4 := kz X2_4
      go_wp2_with fail
      refine (c_implClassBelow _ _ _ _ _).mono ?_
      rintro e w5 ⟨rfl, hb5⟩
      have X0_5 := bt2 X0_4 hb5
      have X1_5 := bt2 X1_4 hb5
      have X2_5 := bt2 X2_4 hb5
      have kX0_5_0 : w5.cell? ⟨w1.heap.size, 0, none⟩ = some _ := kc X0_5 0
      have kX0_5_1 : w5.cell? ⟨w1.heap.size, 1, none⟩ = some _ := kc X0_5 1
      have kX1_5_0 : w5.cell? ⟨w2.heap.size, 0, none⟩ = some _ := kc X1_5 0
      have kX1_5_1 : w5.cell? ⟨w2.heap.size, 1, none⟩ = some _ := kc X1_5 1
      have kX2_5_0 : w5.cell? ⟨w3.heap.size, 0, none⟩ = some _ := kc X2_5 0
      have kX2_5_1 : w5.cell? ⟨w3.heap.size, 1, none⟩ = some _ := kc X2_5 1
      have hzX0_5 := kz X0_5
      have hzX1_5 := kz X1_5
      have hzX2_5 := kz X2_5
      go_wp2_with fail
      go_ret
      exact ⟨rfl, by repeat (first | exact Below.refl _ _ | assumption | refine Below.drew ?_ | refine bel_drewN ?_ _ | refine ba ?_ _ | refine bt2 ?_ (by assumption) | refine Below.setCell ?_ (by simp <;> omega) _)⟩
  · go_enter Try.func8, Try.ntmps8
    go_wp2_with fail
    go_ret
    exact ⟨rfl, Below.refl _ _⟩
theorem w_FnFirst (s : Option Addr) (len cap : Nat) (w : World) (h : Code0 w s len cap) : Calls Try.prog 9 #[.slice s len cap] w fun e w' => e = .returned (.bool true) ∧ Below w.heap.size w w' := by
  have hlc := h.lc
  have hcm := h.cm
  unfold maxLen at hcm
  by_cases hlen : len ≤ 1048576
  · go_enter Try.func9, Try.ntmps9
    go_wp2_with fail
    refine (c_DrawClassFirst s len cap _ h).mono ?_
    rintro e w1 ⟨r, m, x, m1, m2, r1, r2, x1, x2, rfl, hb1⟩
    have e5 := selI_t
    have e6 := selI_f
    cases hin : firB r m x
    · have hin := hin
      go_wp2_with fail
      refine (c_implClassFirst _ _ _ _).mono ?_
      rintro e w2 ⟨rfl, hb2⟩
      have X0_2 := hb2
      have kX0_2_0 : w2.cell? ⟨w1.heap.size, 0, none⟩ = some _ := kc X0_2 0
      have kX0_2_1 : w2.cell? ⟨w1.heap.size, 1, none⟩ = some _ := kc X0_2 1
      have hzX0_2 := kz X0_2
      go_wp2_with fail
      refine (c_specClassFirst _ _ _ _).mono ?_
      rintro e w3 ⟨rfl, hb3⟩
      have X0_3 := bt2 X0_2 hb3
      have kX0_3_0 : w3.cell? ⟨w1.heap.size, 0, none⟩ = some _ := kc X0_3 0
      have kX0_3_1 : w3.cell? ⟨w1.heap.size, 1, none⟩ = some _ := kc X0_3 1
      have hzX0_3 := kz X0_3
      go_wp2_with fail
      go_ret
      exact ⟨rfl, by repeat (first | exact Below.refl _ _ | assumption | refine Below.drew ?_ | refine bel_drewN ?_ _ | refine ba ?_ _ | refine bt2 ?_ (by assumption) | refine Below.setCell ?_ (by simp <;> omega) _)⟩
    · have e1 := fir_has hin
      obtain ⟨e2, e3⟩ := @firI_bd r m x m1
      go_wp2_with fail
      refine (c_implClassFirst _ _ _ _).mono ?_
      rintro e w2 ⟨rfl, hb2⟩
      have X0_2 := hb2
      have kX0_2_0 : w2.cell? ⟨w1.heap.size, 0, none⟩ = some _ := kc X0_2 0
      have kX0_2_1 : w2.cell? ⟨w1.heap.size, 1, none⟩ = some _ := kc X0_2 1
      have hzX0_2 := kz X0_2
      go_wp2_with fail
      refine (c_specClassFirst _ _ _ _).mono ?_
      rintro e w3 ⟨rfl, hb3⟩
      have X0_3 := bt2 X0_2 hb3
      have kX0_3_0 : w3.cell? ⟨w1.heap.size, 0, none⟩ = some _ := kc X0_3 0
      have kX0_3_1 : w3.cell? ⟨w1.heap.size, 1, none⟩ = some _ := kc X0_3 1
      have hzX0_3 := kz X0_3
      go_wp2_with fail
      refine (c_implClassHas _ _ _ _).mono ?_
      rintro e w4 ⟨rfl, hb4⟩
      have X0_4 := bt2 X0_3 hb4
      have kX0_4_0 : w4.cell? ⟨w1.heap.size, 0, none⟩ = some _ := kc X0_4 0
      have kX0_4_1 : w4.cell? ⟨w1.heap.size, 1, none⟩ = some _ := kc X0_4 1
      have hzX0_4 := kz X0_4
      go_wp2_with fail
      go_ret
      exact ⟨rfl, by repeat (first | exact Below.refl _ _ | assumption | refine Below.drew ?_ | refine bel_drewN ?_ _ | refine ba ?_ _ | refine bt2 ?_ (by assumption) | refine Below.setCell ?_ (by simp <;> omega) _)⟩
  · go_enter Try.func9, Try.ntmps9
    go_wp2_with fail
    go_ret
    exact ⟨rfl, Below.refl _ _⟩
end Go.Proofs.Ytenghhoofpjcaaa
