/- The walk of the promise law on the numbers of a class: it returns true at every code. -/
import Derived.Test.YtenghhoofpjcaaaC4
import Derived.Test.YtenghhoofpjcaaaD5
namespace Go.Proofs.Ytenghhoofpjcaaa
open Go.RowKit
theorem has_next {r m x : Int} (h : hasB r m x = true) (hx : x ≤ 990000) : hasB r m (x + m) = true ∧ hasB r m (x + 1) = (m == 1) := by
  obtain ⟨h1, h2, h3⟩ := hasB_t h
  obtain ⟨m1, m2, r1, r2⟩ := inB_iff.1 h1
  obtain ⟨x1, x2⟩ := numB_iff.1 h2
  have h3' : x % m = r := by simpa using h3
  constructor
  · simp [hasB, h1, numB_t (m := x + m) ⟨by omega, by omega⟩, h3']
  · have hn := numB_t (m := x + 1) ⟨by omega, by omega⟩
    simp only [hasB, h1, hn, Bool.true_and]
    rw [Bool.eq_iff_iff]
    simp only [beq_iff_eq]
    constructor
    · intro he
      by_cases hm : m = 1
      · exact hm
      · exfalso
        have : (x + 1) % m = (x % m + 1) % m := by rw [Int.emod_add_emod]
        rw [this, h3'] at he
        by_cases hr : r + 1 < m
        · rw [Int.emod_eq_of_lt (by omega) hr] at he; omega
        · have : r + 1 = m := by omega
          rw [this, Int.emod_self] at he
          omega
    · intro hm
      subst hm
      have := emod_bd (x + 1) 1 (by omega)
      omega
theorem one_kept {w w' : World} {r m : Int} {t : TypeId} (h : Below (w.alloc (.cells #[.int .i64 r, .int .i64 m] t)).heap.size (w.alloc (.cells #[.int .i64 r, .int .i64 m] t)) w') :
    Below (w.alloc (.cells #[.int .i64 r, .int .i64 m] t)).heap.size (w.alloc (.cells #[.int .i64 r, .int .i64 m] t)) w' ∧ w'.cell? ⟨w.heap.size, 0, none⟩ = some (.int .i64 r) ∧ w'.cell? ⟨w.heap.size, 1, none⟩ = some (.int .i64 m) :=
  ⟨h, kc h 0, kc h 1⟩
theorem w_FnHas (s : Option Addr) (len cap : Nat) (w : World) (h : Code0 w s len cap) : Calls Try.prog 5 #[.slice s len cap] w fun e w' => e = .returned (.bool true) ∧ Below w.heap.size w w' := by
  have hlc := h.lc
  have hcm := h.cm
  unfold maxLen at hcm
  by_cases hlen : len ≤ 1048576
  · go_enter Try.func5, Try.ntmps5
    go_wp2_with fail
    refine (c_DrawClassHas s len cap _ h).mono ?_
    rintro e w1 ⟨r, m, x, m1, m2, r1, r2, x1, x2, rfl, hb1⟩
    cases hin : hasB r m x
    · have hin := hin
      go_wp2_with fail
      refine (c_implClassHas _ _ _ _).mono ?_
      rintro e w2 ⟨rfl, hb2⟩
      have X0_2 := hb2
      have kX0_2_0 : w2.cell? ⟨w1.heap.size, 0, none⟩ = some _ := kc X0_2 0
      have kX0_2_1 : w2.cell? ⟨w1.heap.size, 1, none⟩ = some _ := kc X0_2 1
      have hzX0_2 := kz X0_2
      go_wp2_with fail
      refine (c_specClassHas _ _ _ _).mono ?_
      rintro e w3 ⟨rfl, hb3⟩
      have X0_3 := bt2 X0_2 hb3
      have kX0_3_0 : w3.cell? ⟨w1.heap.size, 0, none⟩ = some _ := kc X0_3 0
      have kX0_3_1 : w3.cell? ⟨w1.heap.size, 1, none⟩ = some _ := kc X0_3 1
      have hzX0_3 := kz X0_3
      go_wp2_with fail
      go_ret
      exact ⟨rfl, by repeat (first | exact Below.refl _ _ | assumption | refine Below.drew ?_ | refine bel_drewN ?_ _ | refine ba ?_ _ | refine bt2 ?_ (by assumption) | refine Below.setCell ?_ (by simp <;> omega) _)⟩
    by_cases hx : 990000 < x
    · have g1 : decide (x < -990000) = false := by simp; omega
      go_wp2_with fail
      refine (c_implClassHas _ _ _ _).mono ?_
      rintro e w2 ⟨rfl, hb2⟩
      have X0_2 := hb2
      have kX0_2_0 : w2.cell? ⟨w1.heap.size, 0, none⟩ = some _ := kc X0_2 0
      have kX0_2_1 : w2.cell? ⟨w1.heap.size, 1, none⟩ = some _ := kc X0_2 1
      have hzX0_2 := kz X0_2
      go_wp2_with fail
      refine (c_specClassHas _ _ _ _).mono ?_
      rintro e w3 ⟨rfl, hb3⟩
      have X0_3 := bt2 X0_2 hb3
      have kX0_3_0 : w3.cell? ⟨w1.heap.size, 0, none⟩ = some _ := kc X0_3 0
      have kX0_3_1 : w3.cell? ⟨w1.heap.size, 1, none⟩ = some _ := kc X0_3 1
      have hzX0_3 := kz X0_3
      go_wp2_with fail
      go_quiet (fail)
      go_wp2
      go_ret
      exact ⟨rfl, by repeat (first | exact Below.refl _ _ | assumption | refine Below.drew ?_ | refine bel_drewN ?_ _ | refine ba ?_ _ | refine bt2 ?_ (by assumption) | refine Below.setCell ?_ (by simp <;> omega) _)⟩
    · have g1 : decide (x < -990000) = false := by simp; omega
      have g2 : decide (990000 < x) = false := by simpa using hx
      obtain ⟨e1, e2⟩ := has_next hin (by omega)
      have hw1 : IntKind.i64.wrap (x + m) = x + m := IntWalk.i64_in _ (by omega)
      have hw2 : IntKind.i64.wrap (x + 1) = x + 1 := IntWalk.i64_in _ (by omega)
      cases hm1 : (m == 1)
      all_goals
        rw [hm1] at e2
        go_wp2_with fail
        refine (c_implClassHas _ _ _ _).mono ?_
        rintro e w2 ⟨rfl, hb2⟩
        have X0_2 := hb2
        have kX0_2_0 : w2.cell? ⟨w1.heap.size, 0, none⟩ = some _ := kc X0_2 0
        have kX0_2_1 : w2.cell? ⟨w1.heap.size, 1, none⟩ = some _ := kc X0_2 1
        have hzX0_2 := kz X0_2
        go_wp2_with fail
        refine (c_specClassHas _ _ _ _).mono ?_
        rintro e w3 ⟨rfl, hb3⟩
        have X0_3 := bt2 X0_2 hb3
        have kX0_3_0 : w3.cell? ⟨w1.heap.size, 0, none⟩ = some _ := kc X0_3 0
        have kX0_3_1 : w3.cell? ⟨w1.heap.size, 1, none⟩ = some _ := kc X0_3 1
        have hzX0_3 := kz X0_3
        go_wp2_with fail
        go_region_held3 (fun w' => Below (w1.alloc (Obj.cells #[Value.int IntKind.i64 r, Value.int IntKind.i64 m] 24)).heap.size (w1.alloc (Obj.cells #[Value.int IntKind.i64 r, Value.int IntKind.i64 m] 24)) w' ∧ w'.cell? ⟨w1.heap.size, 0, none⟩ = some (.int .i64 r) ∧ w'.cell? ⟨w1.heap.size, 1, none⟩ = some (.int .i64 m)) (first | (go_keep; done) | ((try go_split_ands); exact one_kept (by repeat (first | exact Below.refl _ _ | assumption | refine Below.drew ?_ | refine bel_drewN ?_ _ | refine ba ?_ _ | refine bt2 ?_ (by assumption) | refine Below.setCell ?_ (by simp <;> omega) _)))) (first | (go_at_call 17; refine (c_implClassHas _ _ _ _).mono ?_; rintro e w1 ⟨rfl, hb⟩))
        go_split_ands
        go_wp2
        go_ret
        exact ⟨rfl, by repeat (first | exact Below.refl _ _ | assumption | refine Below.drew ?_ | refine bel_drewN ?_ _ | refine ba ?_ _ | refine bt2 ?_ (by assumption) | refine Below.setCell ?_ (by simp <;> omega) _)⟩
  · go_enter Try.func5, Try.ntmps5
    go_wp2_with fail
    go_ret
    exact ⟨rfl, Below.refl _ _⟩
end Go.Proofs.Ytenghhoofpjcaaa
