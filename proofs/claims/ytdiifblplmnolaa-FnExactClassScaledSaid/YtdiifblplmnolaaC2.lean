/- Contracts of ClassOf, in the program and in its model, and the walks of two exact laws: each call returns what is said, and changes nothing that was there. -/
import Derived.Test.YtdiifblplmnolaaC1
namespace Go.Proofs.Ytdiifblplmnolaa
open Go.RowKit
/-! ClassOf -/
theorem c_implClassOf (x m : Int) (w : World) : Calls Try.prog 15 #[.int .i64 x, .int .i64 m] w fun e w' => e = .returned (.tuple #[.agg #[.int .i64 (selI (ofB x m) (x % m)), .int .i64 (selI (ofB x m) m)], .bool (ofB x m)]) ∧ Below w.heap.size w w' := by
  by_cases h : ofB x m = true
  · obtain ⟨h1, h2⟩ := ofB_t h
    obtain ⟨m1, m2⟩ := modB_iff.1 h2
    simp only [h, selI_t]
    go_enter Try.func15, Try.ntmps15
    go_wp2_with (first | (go_at_call 34; refine (c_inNumbers _ _).mono ?_; rintro e w1 ⟨rfl, rfl⟩) | (go_at_call 35; refine (c_inModuli _ _).mono ?_; rintro e w1 ⟨rfl, rfl⟩) | (go_at_call 36; refine (c_classAt _ _ m1 m2 _).mono ?_; rintro e w1 ⟨rfl, rfl⟩))
    refine bodyPost_ret (v := .tuple #[.agg #[.int .i64 (x % m), .int .i64 m], .bool true]) (by simp [results, Try.results15, go_sem]) rfl ⟨rfl, ?_⟩
    repeat (first | exact Below.refl _ _ | assumption | refine Below.drew ?_ | refine bel_drewN ?_ _ | refine ba ?_ _ | refine bt2 ?_ (by assumption) | refine Below.setCell ?_ (by simp <;> omega) _)
  · have h' : ofB x m = false := by simpa using h
    simp only [h', selI_f]
    rcases ofB_f h with h1 | ⟨h1, h2⟩
    all_goals
      clear h h'
      go_enter Try.func15, Try.ntmps15
      go_wp2_with (first | (go_at_call 34; refine (c_inNumbers _ _).mono ?_; rintro e w1 ⟨rfl, rfl⟩) | (go_at_call 35; refine (c_inModuli _ _).mono ?_; rintro e w1 ⟨rfl, rfl⟩))
      refine bodyPost_ret (v := .tuple #[.agg #[.int .i64 0, .int .i64 0], .bool false]) (by simp [results, Try.results15, go_sem]) rfl ⟨rfl, ?_⟩
      repeat (first | exact Below.refl _ _ | assumption | refine Below.drew ?_ | refine bel_drewN ?_ _ | refine ba ?_ _ | refine bt2 ?_ (by assumption) | refine Below.setCell ?_ (by simp <;> omega) _)
theorem c_specClassOf (x m : Int) (w : World) : Calls Try.prog 14 #[.int .i64 x, .int .i64 m] w fun e w' => e = .returned (.tuple #[.agg #[.int .i64 (selI (ofB x m) (x % m)), .int .i64 (selI (ofB x m) m)], .bool (ofB x m)]) ∧ Below w.heap.size w w' := by
  by_cases h : ofB x m = true
  · obtain ⟨h1, h2⟩ := ofB_t h
    obtain ⟨m1, m2⟩ := modB_iff.1 h2
    have h3 : l6B m 1 1000 = true := h2
    simp only [h, selI_t]
    go_enter Try.func14, Try.ntmps14
    go_wp2_with (first | (go_at_call 31; refine (c_l1Number _ _).mono ?_; rintro e w1 ⟨rfl, rfl⟩) | (go_at_call 29; refine (c_l6In _ _ _ _).mono ?_; rintro e w1 ⟨rfl, rfl⟩) | (go_at_call 33; refine (c_l1Rest _ _ m1 m2 _).mono ?_; rintro e w1 ⟨rfl, rfl⟩))
    refine bodyPost_ret (v := .tuple #[.agg #[.int .i64 (x % m), .int .i64 m], .bool true]) (by simp [results, Try.results14, go_sem]) rfl ⟨rfl, ?_⟩
    repeat (first | exact Below.refl _ _ | assumption | refine Below.drew ?_ | refine bel_drewN ?_ _ | refine ba ?_ _ | refine bt2 ?_ (by assumption) | refine Below.setCell ?_ (by simp <;> omega) _)
  · have h' : ofB x m = false := by simpa using h
    simp only [h', selI_f]
    rcases ofB_f h with h1 | ⟨h1, h2⟩
    · clear h h'
      go_enter Try.func14, Try.ntmps14
      go_wp2_with (first | (go_at_call 31; refine (c_l1Number _ _).mono ?_; rintro e w1 ⟨rfl, rfl⟩) | (go_at_call 29; refine (c_l6In _ _ _ _).mono ?_; rintro e w1 ⟨rfl, rfl⟩) | (go_at_call 32; refine (c_l1None _).mono ?_; rintro e w1 ⟨rfl, rfl⟩))
      refine bodyPost_ret (v := .tuple #[.agg #[.int .i64 0, .int .i64 0], .bool false]) (by simp [results, Try.results14, go_sem]) rfl ⟨rfl, ?_⟩
      repeat (first | exact Below.refl _ _ | assumption | refine Below.drew ?_ | refine bel_drewN ?_ _ | refine ba ?_ _ | refine bt2 ?_ (by assumption) | refine Below.setCell ?_ (by simp <;> omega) _)
    · clear h h'
      have h3 : l6B m 1 1000 = false := h2
      go_enter Try.func14, Try.ntmps14
      go_wp2_with (first | (go_at_call 31; refine (c_l1Number _ _).mono ?_; rintro e w1 ⟨rfl, rfl⟩) | (go_at_call 29; refine (c_l6In _ _ _ _).mono ?_; rintro e w1 ⟨rfl, rfl⟩) | (go_at_call 32; refine (c_l1None _).mono ?_; rintro e w1 ⟨rfl, rfl⟩))
      refine bodyPost_ret (v := .tuple #[.agg #[.int .i64 0, .int .i64 0], .bool false]) (by simp [results, Try.results14, go_sem]) rfl ⟨rfl, ?_⟩
      repeat (first | exact Below.refl _ _ | assumption | refine Below.drew ?_ | refine bel_drewN ?_ _ | refine ba ?_ _ | refine bt2 ?_ (by assumption) | refine Below.setCell ?_ (by simp <;> omega) _)
theorem w_FnExactClassOf (x m : Int) (w : World) : Calls Try.prog 4 #[.int .i64 x, .int .i64 m] w fun e w' => e = .returned (.bool true) ∧ Below w.heap.size w w' := by
  go_enter Try.func4, Try.ntmps4
  go_wp2_with fail
  refine (c_specClassOf _ _ _).mono ?_
  rintro e w1 ⟨rfl, hb1⟩
  go_wp2_with fail
  refine (c_implClassOf _ _ _).mono ?_
  rintro e w2 ⟨rfl, hb2⟩
  have k0 : w2.cell? ⟨w1.heap.size, 0, none⟩ = some _ := kc hb2 0
  have k1 : w2.cell? ⟨w1.heap.size, 1, none⟩ = some _ := kc hb2 1
  have hz := kz hb2
  go_wp2_with (go_at_call 16; refine (c_eqClass _ _ _).mono ?_; rintro e w1 ⟨rfl, rfl⟩)
  go_ret
  exact ⟨rfl, by repeat (first | exact Below.refl _ _ | assumption | refine Below.drew ?_ | refine bel_drewN ?_ _ | refine ba ?_ _ | refine bt2 ?_ (by assumption) | refine Below.setCell ?_ (by simp <;> omega) _)⟩
theorem w_FnExactClassIn (r m : Int) (w : World) : Calls Try.prog 3 #[.agg #[.int .i64 r, .int .i64 m]] w fun e w' => e = .returned (.bool true) ∧ Below w.heap.size w w' := by
  go_enter Try.func3, Try.ntmps3
  go_wp2_with fail
  refine (c_toClass _ _ _).mono ?_
  rintro e w1 ⟨rfl, hb1⟩
  have k0 : w1.cell? ⟨w.heap.size, 0, none⟩ = some _ := kc hb1 0
  have k1 : w1.cell? ⟨w.heap.size, 1, none⟩ = some _ := kc hb1 1
  have hz := kz hb1
  go_wp2_with (first | (go_at_call 11; refine (c_specClassIn _ _ _).mono ?_; rintro e w1 ⟨rfl, rfl⟩) | (go_at_call 12; refine (c_toClass _ _ _).mono ?_; rintro e w1 ⟨rfl, hb⟩) | (go_at_call 13; refine (c_implClassIn _ _ _).mono ?_; rintro e w1 ⟨rfl, hb⟩))
  go_ret
  exact ⟨rfl, by repeat (first | exact Below.refl _ _ | assumption | refine Below.drew ?_ | refine bel_drewN ?_ _ | refine ba ?_ _ | refine bt2 ?_ (by assumption) | refine Below.setCell ?_ (by simp <;> omega) _)⟩
end Go.Proofs.Ytdiifblplmnolaa
