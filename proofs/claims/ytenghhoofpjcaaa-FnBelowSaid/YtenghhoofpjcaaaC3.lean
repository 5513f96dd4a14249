/- Contracts of ClassHas, ClassBelow and ClassMoved, in the program and in their models. -/
import Derived.Test.YtenghhoofpjcaaaC2
namespace Go.Proofs.Ytenghhoofpjcaaa
open Go.RowKit
/-! ClassHas -/
theorem c_implClassHas (r m x : Int) (w : World) : Calls Try.prog 17 #[.agg #[.int .i64 r, .int .i64 m], .int .i64 x] w fun e w' => e = .returned (.bool (hasB r m x)) ∧ Below w.heap.size w w' := by
  rcases movB_cases r m x with h1 | ⟨h1, h2⟩ | ⟨h1, h2⟩
  · go_enter Try.func17, Try.ntmps17
    go_wp2_with (first | (go_at_call 45; refine (c_valid _ _ _).mono ?_; rintro e w1 ⟨rfl, rfl⟩) | (go_at_call 47; refine (c_inNumbers _ _).mono ?_; rintro e w1 ⟨rfl, rfl⟩))
    go_ret
    exact ⟨rb (hasB_0 h1), by repeat (first | exact Below.refl _ _ | assumption | refine Below.drew ?_ | refine bel_drewN ?_ _ | refine ba ?_ _ | refine bt2 ?_ (by assumption) | refine Below.setCell ?_ (by simp <;> omega) _)⟩
  · go_enter Try.func17, Try.ntmps17
    go_wp2_with (first | (go_at_call 45; refine (c_valid _ _ _).mono ?_; rintro e w1 ⟨rfl, rfl⟩) | (go_at_call 47; refine (c_inNumbers _ _).mono ?_; rintro e w1 ⟨rfl, rfl⟩))
    go_ret
    exact ⟨rb (hasB_1 h2), by repeat (first | exact Below.refl _ _ | assumption | refine Below.drew ?_ | refine bel_drewN ?_ _ | refine ba ?_ _ | refine bt2 ?_ (by assumption) | refine Below.setCell ?_ (by simp <;> omega) _)⟩
  · obtain ⟨m1, m2, r1, r2⟩ := inB_iff.1 h1
    go_enter Try.func17, Try.ntmps17
    go_wp2_with (first | (go_at_call 45; refine (c_valid _ _ _).mono ?_; rintro e w1 ⟨rfl, rfl⟩) | (go_at_call 47; refine (c_inNumbers _ _).mono ?_; rintro e w1 ⟨rfl, rfl⟩) | (go_at_call 50; refine (c_has _ _ _ m1 m2 _).mono ?_; rintro e w1 ⟨rfl, rfl⟩))
    go_ret
    exact ⟨rb (hasB_i h1 h2), by repeat (first | exact Below.refl _ _ | assumption | refine Below.drew ?_ | refine bel_drewN ?_ _ | refine ba ?_ _ | refine bt2 ?_ (by assumption) | refine Below.setCell ?_ (by simp <;> omega) _)⟩
theorem c_specClassHas (r m x : Int) (w : World) : Calls Try.prog 22 #[.agg #[.int .i64 r, .int .i64 m], .int .i64 x] w fun e w' => e = .returned (.bool (hasB r m x)) ∧ Below w.heap.size w w' := by
  rcases movB_cases r m x with h1 | ⟨h1, h2⟩ | ⟨h1, h2⟩
  · go_enter Try.func22, Try.ntmps22
    go_wp2_with (first | (go_at_call 15; refine (c_specClassIn _ _ _).mono ?_; rintro e w1 ⟨rfl, rfl⟩) | (go_at_call 55; refine (c_l1Number _ _).mono ?_; rintro e w1 ⟨rfl, rfl⟩))
    go_ret
    exact ⟨rb (hasB_0 h1), by repeat (first | exact Below.refl _ _ | assumption | refine Below.drew ?_ | refine bel_drewN ?_ _ | refine ba ?_ _ | refine bt2 ?_ (by assumption) | refine Below.setCell ?_ (by simp <;> omega) _)⟩
  · go_enter Try.func22, Try.ntmps22
    go_wp2_with (first | (go_at_call 15; refine (c_specClassIn _ _ _).mono ?_; rintro e w1 ⟨rfl, rfl⟩) | (go_at_call 55; refine (c_l1Number _ _).mono ?_; rintro e w1 ⟨rfl, rfl⟩))
    go_ret
    exact ⟨rb (hasB_1 h2), by repeat (first | exact Below.refl _ _ | assumption | refine Below.drew ?_ | refine bel_drewN ?_ _ | refine ba ?_ _ | refine bt2 ?_ (by assumption) | refine Below.setCell ?_ (by simp <;> omega) _)⟩
  · obtain ⟨m1, m2, r1, r2⟩ := inB_iff.1 h1
    go_enter Try.func22, Try.ntmps22
    go_wp2_with (first | (go_at_call 15; refine (c_specClassIn _ _ _).mono ?_; rintro e w1 ⟨rfl, rfl⟩) | (go_at_call 55; refine (c_l1Number _ _).mono ?_; rintro e w1 ⟨rfl, rfl⟩) | (go_at_call 59; refine (c_l1Has _ _ _ m1 m2 _).mono ?_; rintro e w1 ⟨rfl, hb⟩))
    go_ret
    exact ⟨rb (hasB_i h1 h2), by repeat (first | exact Below.refl _ _ | assumption | refine Below.drew ?_ | refine bel_drewN ?_ _ | refine ba ?_ _ | refine bt2 ?_ (by assumption) | refine Below.setCell ?_ (by simp <;> omega) _)⟩
/-! ClassBelow -/
theorem c_implClassBelow (r m s n : Int) (w : World) : Calls Try.prog 18 #[.agg #[.int .i64 r, .int .i64 m], .agg #[.int .i64 s, .int .i64 n]] w fun e w' => e = .returned (.bool (belB r m s n)) ∧ Below w.heap.size w w' := by
  rcases belB_cases r m s n with h1 | ⟨h1, h2⟩ | ⟨h1, h2⟩
  · go_enter Try.func18, Try.ntmps18
    go_wp2_with (go_at_call 45; refine (c_valid _ _ _).mono ?_; rintro e w1 ⟨rfl, rfl⟩)
    go_ret
    exact ⟨rb (belB_0 h1), by repeat (first | exact Below.refl _ _ | assumption | refine Below.drew ?_ | refine bel_drewN ?_ _ | refine ba ?_ _ | refine bt2 ?_ (by assumption) | refine Below.setCell ?_ (by simp <;> omega) _)⟩
  · go_enter Try.func18, Try.ntmps18
    go_wp2_with (go_at_call 45; refine (c_valid _ _ _).mono ?_; rintro e w1 ⟨rfl, rfl⟩)
    go_ret
    exact ⟨rb (belB_1 h2), by repeat (first | exact Below.refl _ _ | assumption | refine Below.drew ?_ | refine bel_drewN ?_ _ | refine ba ?_ _ | refine bt2 ?_ (by assumption) | refine Below.setCell ?_ (by simp <;> omega) _)⟩
  · obtain ⟨m1, m2, r1, r2⟩ := inB_iff.1 h1
    obtain ⟨n1, n2, s1, s2⟩ := inB_iff.1 h2
    go_enter Try.func18, Try.ntmps18
    go_wp2_with (first | (go_at_call 45; refine (c_valid _ _ _).mono ?_; rintro e w1 ⟨rfl, rfl⟩) | (go_at_call 51; refine (c_below _ _ _ _ m1 m2 n1 n2 _).mono ?_; rintro e w1 ⟨rfl, hb⟩))
    go_ret
    exact ⟨rb (belB_i h1 h2), by repeat (first | exact Below.refl _ _ | assumption | refine Below.drew ?_ | refine bel_drewN ?_ _ | refine ba ?_ _ | refine bt2 ?_ (by assumption) | refine Below.setCell ?_ (by simp <;> omega) _)⟩
theorem c_specClassBelow (r m s n : Int) (w : World) : Calls Try.prog 24 #[.agg #[.int .i64 r, .int .i64 m], .agg #[.int .i64 s, .int .i64 n]] w fun e w' => e = .returned (.bool (belB r m s n)) ∧ Below w.heap.size w w' := by
  rcases belB_cases r m s n with h1 | ⟨h1, h2⟩ | ⟨h1, h2⟩
  · go_enter Try.func24, Try.ntmps24
    go_wp2_with (go_at_call 15; refine (c_specClassIn _ _ _).mono ?_; rintro e w1 ⟨rfl, rfl⟩)
    go_ret
    exact ⟨rb (belB_0 h1), by repeat (first | exact Below.refl _ _ | assumption | refine Below.drew ?_ | refine bel_drewN ?_ _ | refine ba ?_ _ | refine bt2 ?_ (by assumption) | refine Below.setCell ?_ (by simp <;> omega) _)⟩
  · go_enter Try.func24, Try.ntmps24
    go_wp2_with (go_at_call 15; refine (c_specClassIn _ _ _).mono ?_; rintro e w1 ⟨rfl, rfl⟩)
    go_ret
    exact ⟨rb (belB_1 h2), by repeat (first | exact Below.refl _ _ | assumption | refine Below.drew ?_ | refine bel_drewN ?_ _ | refine ba ?_ _ | refine bt2 ?_ (by assumption) | refine Below.setCell ?_ (by simp <;> omega) _)⟩
  · obtain ⟨m1, m2, r1, r2⟩ := inB_iff.1 h1
    obtain ⟨n1, n2, s1, s2⟩ := inB_iff.1 h2
    have hi := belB_i h1 h2
    have HI := Lib.hid hi
    clear hi
    cases hx : (m % n == 0)
    all_goals
      go_enter Try.func24, Try.ntmps24
      go_wp2_with (first | (go_at_call 15; refine (c_specClassIn _ _ _).mono ?_; rintro e w1 ⟨rfl, rfl⟩) | (go_at_call 59; refine (c_l1Has _ _ _ n1 n2 _).mono ?_; rintro e w1 ⟨rfl, hb⟩))
      go_ret
      exact ⟨rb (by rw [← HI.out, hx]; simp), by repeat (first | exact Below.refl _ _ | assumption | refine Below.drew ?_ | refine bel_drewN ?_ _ | refine ba ?_ _ | refine bt2 ?_ (by assumption) | refine Below.setCell ?_ (by simp <;> omega) _)⟩
/-! ClassMoved -/
theorem c_implClassMoved (r m x : Int) (w : World) : Calls Try.prog 25 #[.agg #[.int .i64 r, .int .i64 m], .int .i64 x] w fun e w' => e = .returned (.tuple #[.agg #[.int .i64 (selI (movB r m x) ((r + x) % m)), .int .i64 (selI (movB r m x) m)], .bool (movB r m x)]) ∧ Below w.heap.size w w' := by
  rcases movB_cases r m x with h1 | ⟨h1, h2⟩ | ⟨h1, h2⟩
  · simp only [movB_f0 h1, selI_f]
    go_enter Try.func25, Try.ntmps25
    go_wp2_with (first | (go_at_call 45; refine (c_valid _ _ _).mono ?_; rintro e w1 ⟨rfl, rfl⟩) | (go_at_call 47; refine (c_inNumbers _ _).mono ?_; rintro e w1 ⟨rfl, rfl⟩))
    refine bodyPost_ret (v := .tuple #[.agg #[.int .i64 0, .int .i64 0], .bool false]) (by simp [results, Try.results25, go_sem]) rfl ⟨rfl, ?_⟩
    repeat (first | exact Below.refl _ _ | assumption | refine Below.drew ?_ | refine bel_drewN ?_ _ | refine ba ?_ _ | refine bt2 ?_ (by assumption) | refine Below.setCell ?_ (by simp <;> omega) _)
  · simp only [movB_f1 h2, selI_f]
    go_enter Try.func25, Try.ntmps25
    go_wp2_with (first | (go_at_call 45; refine (c_valid _ _ _).mono ?_; rintro e w1 ⟨rfl, rfl⟩) | (go_at_call 47; refine (c_inNumbers _ _).mono ?_; rintro e w1 ⟨rfl, rfl⟩))
    refine bodyPost_ret (v := .tuple #[.agg #[.int .i64 0, .int .i64 0], .bool false]) (by simp [results, Try.results25, go_sem]) rfl ⟨rfl, ?_⟩
    repeat (first | exact Below.refl _ _ | assumption | refine Below.drew ?_ | refine bel_drewN ?_ _ | refine ba ?_ _ | refine bt2 ?_ (by assumption) | refine Below.setCell ?_ (by simp <;> omega) _)
  · simp only [movB_tt h1 h2, selI_t]
    obtain ⟨m1, m2, r1, r2⟩ := inB_iff.1 h1
    obtain ⟨x1, x2⟩ := numB_iff.1 h2
    go_enter Try.func25, Try.ntmps25
    go_wp2_with (first | (go_at_call 45; refine (c_valid _ _ _).mono ?_; rintro e w1 ⟨rfl, rfl⟩) | (go_at_call 47; refine (c_inNumbers _ _).mono ?_; rintro e w1 ⟨rfl, rfl⟩) | (go_at_call 49; refine (c_classAt _ _ m1 m2 _).mono ?_; rintro e w1 ⟨rfl, rfl⟩))
    refine bodyPost_ret (v := .tuple #[.agg #[.int .i64 ((r + x) % m), .int .i64 m], .bool true]) (by simp [results, Try.results25, go_sem]) rfl ⟨rfl, ?_⟩
    repeat (first | exact Below.refl _ _ | assumption | refine Below.drew ?_ | refine bel_drewN ?_ _ | refine ba ?_ _ | refine bt2 ?_ (by assumption) | refine Below.setCell ?_ (by simp <;> omega) _)
theorem c_specClassMoved (r m x : Int) (w : World) : Calls Try.prog 27 #[.agg #[.int .i64 r, .int .i64 m], .int .i64 x] w fun e w' => e = .returned (.tuple #[.agg #[.int .i64 (selI (movB r m x) ((r + x) % m)), .int .i64 (selI (movB r m x) m)], .bool (movB r m x)]) ∧ Below w.heap.size w w' := by
  rcases movB_cases r m x with h1 | ⟨h1, h2⟩ | ⟨h1, h2⟩
  · simp only [movB_f0 h1, selI_f]
    go_enter Try.func27, Try.ntmps27
    go_wp2_with (first | (go_at_call 15; refine (c_specClassIn _ _ _).mono ?_; rintro e w1 ⟨rfl, rfl⟩) | (go_at_call 55; refine (c_l1Number _ _).mono ?_; rintro e w1 ⟨rfl, rfl⟩) | (go_at_call 56; refine (c_l1None _).mono ?_; rintro e w1 ⟨rfl, rfl⟩))
    refine bodyPost_ret (v := .tuple #[.agg #[.int .i64 0, .int .i64 0], .bool false]) (by simp [results, Try.results27, go_sem]) rfl ⟨rfl, ?_⟩
    repeat (first | exact Below.refl _ _ | assumption | refine Below.drew ?_ | refine bel_drewN ?_ _ | refine ba ?_ _ | refine bt2 ?_ (by assumption) | refine Below.setCell ?_ (by simp <;> omega) _)
  · simp only [movB_f1 h2, selI_f]
    go_enter Try.func27, Try.ntmps27
    go_wp2_with (first | (go_at_call 15; refine (c_specClassIn _ _ _).mono ?_; rintro e w1 ⟨rfl, rfl⟩) | (go_at_call 55; refine (c_l1Number _ _).mono ?_; rintro e w1 ⟨rfl, rfl⟩) | (go_at_call 56; refine (c_l1None _).mono ?_; rintro e w1 ⟨rfl, rfl⟩))
    refine bodyPost_ret (v := .tuple #[.agg #[.int .i64 0, .int .i64 0], .bool false]) (by simp [results, Try.results27, go_sem]) rfl ⟨rfl, ?_⟩
    repeat (first | exact Below.refl _ _ | assumption | refine Below.drew ?_ | refine bel_drewN ?_ _ | refine ba ?_ _ | refine bt2 ?_ (by assumption) | refine Below.setCell ?_ (by simp <;> omega) _)
  · simp only [movB_tt h1 h2, selI_t]
    obtain ⟨m1, m2, r1, r2⟩ := inB_iff.1 h1
    obtain ⟨x1, x2⟩ := numB_iff.1 h2
    have hw : IntKind.i64.wrap (r + x) = r + x := IntWalk.i64_in _ (by omega)
    go_enter Try.func27, Try.ntmps27
    go_wp2_with (first | (go_at_call 15; refine (c_specClassIn _ _ _).mono ?_; rintro e w1 ⟨rfl, rfl⟩) | (go_at_call 55; refine (c_l1Number _ _).mono ?_; rintro e w1 ⟨rfl, rfl⟩))
    go_region_held3 (fun w' => w'.cell? ⟨w.heap.size, 0, none⟩ = some (.int .i64 r) ∧ w'.cell? ⟨w.heap.size, 1, none⟩ = some (.int .i64 m)) (go_keep) (first | (go_at_call 57; refine (c_l1Rest _ _ m1 m2 _).mono ?_; rintro e w1 ⟨rfl, rfl⟩))
    go_wp2
    refine bodyPost_ret (v := .tuple #[.agg #[.int .i64 ((r + x) % m), .int .i64 m], .bool true]) (by simp [results, Try.results27, go_sem]) rfl ⟨rfl, ?_⟩
    repeat (first | exact Below.refl _ _ | assumption | refine Below.drew ?_ | refine bel_drewN ?_ _ | refine ba ?_ _ | refine bt2 ?_ (by assumption) | refine Below.setCell ?_ (by simp <;> omega) _)
end Go.Proofs.Ytenghhoofpjcaaa
