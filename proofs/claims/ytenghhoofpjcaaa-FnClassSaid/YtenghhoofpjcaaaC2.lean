/- Contracts of ClassOf, in the program and in its model, and the walks of two exact laws: each call returns what is said, and changes nothing that was there. -/
import Derived.Test.YtenghhoofpjcaaaC1
namespace Go.Proofs.Ytenghhoofpjcaaa
open Go.RowKit
/-! ClassOf -/
theorem c_implClassOf (x m : Int) (w : World) : Calls Try.prog 16 #[.int .i64 x, .int .i64 m] w fun e w' => e = .returned (.tuple #[.agg #[.int .i64 (selI (ofB x m) (x % m)), .int .i64 (selI (ofB x m) m)], .bool (ofB x m)]) ∧ Below w.heap.size w w' := by
  by_cases h : ofB x m = true
  · obtain ⟨h1, h2⟩ := ofB_t h
    obtain ⟨m1, m2⟩ := modB_iff.1 h2
    simp only [h, selI_t]
    go_enter Try.func16, Try.ntmps16
    go_wp2_with (first | (go_at_call 47; refine (c_inNumbers _ _).mono ?_; rintro e w1 ⟨rfl, rfl⟩) | (go_at_call 48; refine (c_inModuli _ _).mono ?_; rintro e w1 ⟨rfl, rfl⟩) | (go_at_call 49; refine (c_classAt _ _ m1 m2 _).mono ?_; rintro e w1 ⟨rfl, rfl⟩))
    refine bodyPost_ret (v := .tuple #[.agg #[.int .i64 (x % m), .int .i64 m], .bool true]) (by simp [results, Try.results16, go_sem]) rfl ⟨rfl, ?_⟩
    repeat (first | exact Below.refl _ _ | assumption | refine Below.drew ?_ | refine bel_drewN ?_ _ | refine ba ?_ _ | refine bt2 ?_ (by assumption) | refine Below.setCell ?_ (by simp <;> omega) _)
  · have h' : ofB x m = false := by simpa using h
    simp only [h', selI_f]
    rcases ofB_f h with h1 | ⟨h1, h2⟩
    all_goals
      clear h h'
      go_enter Try.func16, Try.ntmps16
      go_wp2_with (first | (go_at_call 47; refine (c_inNumbers _ _).mono ?_; rintro e w1 ⟨rfl, rfl⟩) | (go_at_call 48; refine (c_inModuli _ _).mono ?_; rintro e w1 ⟨rfl, rfl⟩))
      refine bodyPost_ret (v := .tuple #[.agg #[.int .i64 0, .int .i64 0], .bool false]) (by simp [results, Try.results16, go_sem]) rfl ⟨rfl, ?_⟩
      repeat (first | exact Below.refl _ _ | assumption | refine Below.drew ?_ | refine bel_drewN ?_ _ | refine ba ?_ _ | refine bt2 ?_ (by assumption) | refine Below.setCell ?_ (by simp <;> omega) _)
theorem c_specClassOf (x m : Int) (w : World) : Calls Try.prog 20 #[.int .i64 x, .int .i64 m] w fun e w' => e = .returned (.tuple #[.agg #[.int .i64 (selI (ofB x m) (x % m)), .int .i64 (selI (ofB x m) m)], .bool (ofB x m)]) ∧ Below w.heap.size w w' := by
  by_cases h : ofB x m = true
  · obtain ⟨h1, h2⟩ := ofB_t h
    obtain ⟨m1, m2⟩ := modB_iff.1 h2
    have h3 : l6B m 1 1000 = true := h2
    simp only [h, selI_t]
    go_enter Try.func20, Try.ntmps20
    go_wp2_with (first | (go_at_call 55; refine (c_l1Number _ _).mono ?_; rintro e w1 ⟨rfl, rfl⟩) | (go_at_call 46; refine (c_l6In _ _ _ _).mono ?_; rintro e w1 ⟨rfl, rfl⟩) | (go_at_call 57; refine (c_l1Rest _ _ m1 m2 _).mono ?_; rintro e w1 ⟨rfl, rfl⟩))
    refine bodyPost_ret (v := .tuple #[.agg #[.int .i64 (x % m), .int .i64 m], .bool true]) (by simp [results, Try.results20, go_sem]) rfl ⟨rfl, ?_⟩
    repeat (first | exact Below.refl _ _ | assumption | refine Below.drew ?_ | refine bel_drewN ?_ _ | refine ba ?_ _ | refine bt2 ?_ (by assumption) | refine Below.setCell ?_ (by simp <;> omega) _)
  · have h' : ofB x m = false := by simpa using h
    simp only [h', selI_f]
    rcases ofB_f h with h1 | ⟨h1, h2⟩
    · clear h h'
      go_enter Try.func20, Try.ntmps20
      go_wp2_with (first | (go_at_call 55; refine (c_l1Number _ _).mono ?_; rintro e w1 ⟨rfl, rfl⟩) | (go_at_call 46; refine (c_l6In _ _ _ _).mono ?_; rintro e w1 ⟨rfl, rfl⟩) | (go_at_call 56; refine (c_l1None _).mono ?_; rintro e w1 ⟨rfl, rfl⟩))
      refine bodyPost_ret (v := .tuple #[.agg #[.int .i64 0, .int .i64 0], .bool false]) (by simp [results, Try.results20, go_sem]) rfl ⟨rfl, ?_⟩
      repeat (first | exact Below.refl _ _ | assumption | refine Below.drew ?_ | refine bel_drewN ?_ _ | refine ba ?_ _ | refine bt2 ?_ (by assumption) | refine Below.setCell ?_ (by simp <;> omega) _)
    · clear h h'
      have h3 : l6B m 1 1000 = false := h2
      go_enter Try.func20, Try.ntmps20
      go_wp2_with (first | (go_at_call 55; refine (c_l1Number _ _).mono ?_; rintro e w1 ⟨rfl, rfl⟩) | (go_at_call 46; refine (c_l6In _ _ _ _).mono ?_; rintro e w1 ⟨rfl, rfl⟩) | (go_at_call 56; refine (c_l1None _).mono ?_; rintro e w1 ⟨rfl, rfl⟩))
      refine bodyPost_ret (v := .tuple #[.agg #[.int .i64 0, .int .i64 0], .bool false]) (by simp [results, Try.results20, go_sem]) rfl ⟨rfl, ?_⟩
      repeat (first | exact Below.refl _ _ | assumption | refine Below.drew ?_ | refine bel_drewN ?_ _ | refine ba ?_ _ | refine bt2 ?_ (by assumption) | refine Below.setCell ?_ (by simp <;> omega) _)
end Go.Proofs.Ytenghhoofpjcaaa
