/- Contracts of ClassScaled, ClassFirst and ClassCount, in the program and in their models. -/
import Derived.Test.YtenghhoofpjcaaaC3
namespace Go.Proofs.Ytenghhoofpjcaaa
open Go.RowKit
/-! ClassScaled -/
theorem c_implClassScaled (r m k : Int) (w : World) : Calls Try.prog 29 #[.agg #[.int .i64 r, .int .i64 m], .int .i64 k] w fun e w' => e = .returned (.tuple #[.agg #[.int .i64 (selI (scaB r m k) (r * k)), .int .i64 (selI (scaB r m k) (m * k))], .bool (scaB r m k)]) ∧ Below w.heap.size w w' := by
  cases h1 : inB r m
  · simp only [scaB_f0 h1, selI_f]
    go_enter Try.func29, Try.ntmps29
    go_wp2_with (go_at_call 45; refine (c_valid _ _ _).mono ?_; rintro e w1 ⟨rfl, rfl⟩)
    refine bodyPost_ret (v := .tuple #[.agg #[.int .i64 0, .int .i64 0], .bool false]) (by simp [results, Try.results29, go_sem]) rfl ⟨rfl, ?_⟩
    repeat (first | exact Below.refl _ _ | assumption | refine Below.drew ?_ | refine bel_drewN ?_ _ | refine ba ?_ _ | refine bt2 ?_ (by assumption) | refine Below.setCell ?_ (by simp <;> omega) _)
  · obtain ⟨m1, m2, r1, r2⟩ := inB_iff.1 h1
    by_cases hk : k < 1
    · simp only [scaB_f1 hk, selI_f]
      go_enter Try.func29, Try.ntmps29
      go_wp2_with (go_at_call 45; refine (c_valid _ _ _).mono ?_; rintro e w1 ⟨rfl, rfl⟩)
      refine bodyPost_ret (v := .tuple #[.agg #[.int .i64 0, .int .i64 0], .bool false]) (by simp [results, Try.results29, go_sem]) rfl ⟨rfl, ?_⟩
      repeat (first | exact Below.refl _ _ | assumption | refine Below.drew ?_ | refine bel_drewN ?_ _ | refine ba ?_ _ | refine bt2 ?_ (by assumption) | refine Below.setCell ?_ (by simp <;> omega) _)
    · by_cases hq : m * k ≤ 1000
      · have hq' := (quo_le m1).1 hq
        have hp := prod_bd r1 r2 (show 1 ≤ k by omega)
        have hp2 := prod_ge m1 (show 1 ≤ k by omega)
        simp only [scaB_tt h1 (show 1 ≤ k by omega) hq, selI_t]
        go_enter Try.func29, Try.ntmps29
        go_wp2_with (go_at_call 45; refine (c_valid _ _ _).mono ?_; rintro e w1 ⟨rfl, rfl⟩)
        refine bodyPost_ret (v := .tuple #[.agg #[.int .i64 (r * k), .int .i64 (m * k)], .bool true]) (by simp [results, Try.results29, go_sem]) rfl ⟨rfl, ?_⟩
        repeat (first | exact Below.refl _ _ | assumption | refine Below.drew ?_ | refine bel_drewN ?_ _ | refine ba ?_ _ | refine bt2 ?_ (by assumption) | refine Below.setCell ?_ (by simp <;> omega) _)
      · have hq' : 1000 / m < k := by have := mt (quo_le m1).2 hq; omega
        simp only [scaB_f2 (show 1000 < m * k by omega), selI_f]
        go_enter Try.func29, Try.ntmps29
        go_wp2_with (go_at_call 45; refine (c_valid _ _ _).mono ?_; rintro e w1 ⟨rfl, rfl⟩)
        refine bodyPost_ret (v := .tuple #[.agg #[.int .i64 0, .int .i64 0], .bool false]) (by simp [results, Try.results29, go_sem]) rfl ⟨rfl, ?_⟩
        repeat (first | exact Below.refl _ _ | assumption | refine Below.drew ?_ | refine bel_drewN ?_ _ | refine ba ?_ _ | refine bt2 ?_ (by assumption) | refine Below.setCell ?_ (by simp <;> omega) _)
theorem c_specClassScaled (r m k : Int) (w : World) : Calls Try.prog 30 #[.agg #[.int .i64 r, .int .i64 m], .int .i64 k] w fun e w' => e = .returned (.tuple #[.agg #[.int .i64 (selI (scaB r m k) (r * k)), .int .i64 (selI (scaB r m k) (m * k))], .bool (scaB r m k)]) ∧ Below w.heap.size w w' := by
  cases h1 : inB r m
  · simp only [scaB_f0 h1, selI_f]
    go_enter Try.func30, Try.ntmps30
    go_wp2_with (first | (go_at_call 15; refine (c_specClassIn _ _ _).mono ?_; rintro e w1 ⟨rfl, rfl⟩) | (go_at_call 56; refine (c_l1None _).mono ?_; rintro e w1 ⟨rfl, rfl⟩))
    refine bodyPost_ret (v := .tuple #[.agg #[.int .i64 0, .int .i64 0], .bool false]) (by simp [results, Try.results30, go_sem]) rfl ⟨rfl, ?_⟩
    repeat (first | exact Below.refl _ _ | assumption | refine Below.drew ?_ | refine bel_drewN ?_ _ | refine ba ?_ _ | refine bt2 ?_ (by assumption) | refine Below.setCell ?_ (by simp <;> omega) _)
  · obtain ⟨m1, m2, r1, r2⟩ := inB_iff.1 h1
    by_cases hk : 1 ≤ k ∧ k ≤ 1000000
    · have hl := l6B_t hk
      obtain ⟨k1, k2⟩ := hk
      have hp0 := prod_bd2 m1 m2 k1 k2
      by_cases hq : m * k ≤ 1000
      · have hp := prod_bd r1 r2 k1
        have hp2 := prod_ge m1 k1
        simp only [scaB_tt h1 k1 hq, selI_t]
        go_enter Try.func30, Try.ntmps30
        go_wp2_with (first | (go_at_call 15; refine (c_specClassIn _ _ _).mono ?_; rintro e w1 ⟨rfl, rfl⟩) | (go_at_call 46; refine (c_l6In _ _ _ _).mono ?_; rintro e w1 ⟨rfl, rfl⟩) | (go_at_call 56; refine (c_l1None _).mono ?_; rintro e w1 ⟨rfl, rfl⟩))
        refine bodyPost_ret (v := .tuple #[.agg #[.int .i64 (r * k), .int .i64 (m * k)], .bool true]) (by simp [results, Try.results30, go_sem]) rfl ⟨rfl, ?_⟩
        repeat (first | exact Below.refl _ _ | assumption | refine Below.drew ?_ | refine bel_drewN ?_ _ | refine ba ?_ _ | refine bt2 ?_ (by assumption) | refine Below.setCell ?_ (by simp <;> omega) _)
      · simp only [scaB_f2 (show 1000 < m * k by omega), selI_f]
        go_enter Try.func30, Try.ntmps30
        go_wp2_with (first | (go_at_call 15; refine (c_specClassIn _ _ _).mono ?_; rintro e w1 ⟨rfl, rfl⟩) | (go_at_call 46; refine (c_l6In _ _ _ _).mono ?_; rintro e w1 ⟨rfl, rfl⟩) | (go_at_call 56; refine (c_l1None _).mono ?_; rintro e w1 ⟨rfl, rfl⟩))
        refine bodyPost_ret (v := .tuple #[.agg #[.int .i64 0, .int .i64 0], .bool false]) (by simp [results, Try.results30, go_sem]) rfl ⟨rfl, ?_⟩
        repeat (first | exact Below.refl _ _ | assumption | refine Below.drew ?_ | refine bel_drewN ?_ _ | refine ba ?_ _ | refine bt2 ?_ (by assumption) | refine Below.setCell ?_ (by simp <;> omega) _)
    · have hl := l6B_f hk
      have hf : scaB r m k = false := by
        by_cases hk0 : k < 1
        · exact scaB_f1 hk0
        · have := prod_ge m1 (show 1 ≤ k by omega); exact scaB_f2 (by omega)
      simp only [hf, selI_f]
      clear hf
      go_enter Try.func30, Try.ntmps30
      go_wp2_with (first | (go_at_call 15; refine (c_specClassIn _ _ _).mono ?_; rintro e w1 ⟨rfl, rfl⟩) | (go_at_call 46; refine (c_l6In _ _ _ _).mono ?_; rintro e w1 ⟨rfl, rfl⟩) | (go_at_call 56; refine (c_l1None _).mono ?_; rintro e w1 ⟨rfl, rfl⟩))
      refine bodyPost_ret (v := .tuple #[.agg #[.int .i64 0, .int .i64 0], .bool false]) (by simp [results, Try.results30, go_sem]) rfl ⟨rfl, ?_⟩
      repeat (first | exact Below.refl _ _ | assumption | refine Below.drew ?_ | refine bel_drewN ?_ _ | refine ba ?_ _ | refine bt2 ?_ (by assumption) | refine Below.setCell ?_ (by simp <;> omega) _)
/-! ClassFirst -/
theorem c_implClassFirst (r m x : Int) (w : World) : Calls Try.prog 32 #[.agg #[.int .i64 r, .int .i64 m], .int .i64 x] w fun e w' => e = .returned (.tuple #[.int .i64 (selI (firB r m x) (firI r m x)), .bool (firB r m x)]) ∧ Below w.heap.size w w' := by
  rcases movB_cases r m x with h1 | ⟨h1, h2⟩ | ⟨h1, h2⟩
  · simp only [firB_f0 h1, selI_f]
    go_enter Try.func32, Try.ntmps32
    go_wp2_with (first | (go_at_call 45; refine (c_valid _ _ _).mono ?_; rintro e w1 ⟨rfl, rfl⟩) | (go_at_call 47; refine (c_inNumbers _ _).mono ?_; rintro e w1 ⟨rfl, rfl⟩))
    go_ret2
    exact ⟨rfl, by repeat (first | exact Below.refl _ _ | assumption | refine Below.drew ?_ | refine bel_drewN ?_ _ | refine ba ?_ _ | refine bt2 ?_ (by assumption) | refine Below.setCell ?_ (by simp <;> omega) _)⟩
  · simp only [firB_f1 h2, selI_f]
    go_enter Try.func32, Try.ntmps32
    go_wp2_with (first | (go_at_call 45; refine (c_valid _ _ _).mono ?_; rintro e w1 ⟨rfl, rfl⟩) | (go_at_call 47; refine (c_inNumbers _ _).mono ?_; rintro e w1 ⟨rfl, rfl⟩))
    go_ret2
    exact ⟨rfl, by repeat (first | exact Below.refl _ _ | assumption | refine Below.drew ?_ | refine bel_drewN ?_ _ | refine ba ?_ _ | refine bt2 ?_ (by assumption) | refine Below.setCell ?_ (by simp <;> omega) _)⟩
  · obtain ⟨m1, m2, r1, r2⟩ := inB_iff.1 h1
    obtain ⟨x1, x2⟩ := numB_iff.1 h2
    cases h3 : numB (firI r m x)
    · simp only [firB_f2 h3, selI_f]
      go_enter Try.func32, Try.ntmps32
      go_wp2_with (first | (go_at_call 45; refine (c_valid _ _ _).mono ?_; rintro e w1 ⟨rfl, rfl⟩) | (go_at_call 47; refine (c_inNumbers _ _).mono ?_; rintro e w1 ⟨rfl, rfl⟩) | (go_at_call 62; refine (c_first _ _ _ m1 m2 r1 r2 x1 x2 _).mono ?_; rintro e w1 ⟨rfl, rfl⟩))
      go_ret2
      exact ⟨rfl, by repeat (first | exact Below.refl _ _ | assumption | refine Below.drew ?_ | refine bel_drewN ?_ _ | refine ba ?_ _ | refine bt2 ?_ (by assumption) | refine Below.setCell ?_ (by simp <;> omega) _)⟩
    · simp only [firB_tt h1 h2 h3, selI_t]
      go_enter Try.func32, Try.ntmps32
      go_wp2_with (first | (go_at_call 45; refine (c_valid _ _ _).mono ?_; rintro e w1 ⟨rfl, rfl⟩) | (go_at_call 47; refine (c_inNumbers _ _).mono ?_; rintro e w1 ⟨rfl, rfl⟩) | (go_at_call 62; refine (c_first _ _ _ m1 m2 r1 r2 x1 x2 _).mono ?_; rintro e w1 ⟨rfl, rfl⟩))
      go_ret2
      exact ⟨rfl, by repeat (first | exact Below.refl _ _ | assumption | refine Below.drew ?_ | refine bel_drewN ?_ _ | refine ba ?_ _ | refine bt2 ?_ (by assumption) | refine Below.setCell ?_ (by simp <;> omega) _)⟩
theorem c_specClassFirst (r m x : Int) (w : World) : Calls Try.prog 33 #[.agg #[.int .i64 r, .int .i64 m], .int .i64 x] w fun e w' => e = .returned (.tuple #[.int .i64 (selI (firB r m x) (firI r m x)), .bool (firB r m x)]) ∧ Below w.heap.size w w' := by
  rcases movB_cases r m x with h1 | ⟨h1, h2⟩ | ⟨h1, h2⟩
  · simp only [firB_f0 h1, selI_f]
    go_enter Try.func33, Try.ntmps33
    go_wp2_with (first | (go_at_call 15; refine (c_specClassIn _ _ _).mono ?_; rintro e w1 ⟨rfl, rfl⟩) | (go_at_call 55; refine (c_l1Number _ _).mono ?_; rintro e w1 ⟨rfl, rfl⟩))
    go_ret2
    exact ⟨rfl, by repeat (first | exact Below.refl _ _ | assumption | refine Below.drew ?_ | refine bel_drewN ?_ _ | refine ba ?_ _ | refine bt2 ?_ (by assumption) | refine Below.setCell ?_ (by simp <;> omega) _)⟩
  · simp only [firB_f1 h2, selI_f]
    go_enter Try.func33, Try.ntmps33
    go_wp2_with (first | (go_at_call 15; refine (c_specClassIn _ _ _).mono ?_; rintro e w1 ⟨rfl, rfl⟩) | (go_at_call 55; refine (c_l1Number _ _).mono ?_; rintro e w1 ⟨rfl, rfl⟩))
    go_ret2
    exact ⟨rfl, by repeat (first | exact Below.refl _ _ | assumption | refine Below.drew ?_ | refine bel_drewN ?_ _ | refine ba ?_ _ | refine bt2 ?_ (by assumption) | refine Below.setCell ?_ (by simp <;> omega) _)⟩
  · obtain ⟨m1, m2, r1, r2⟩ := inB_iff.1 h1
    obtain ⟨x1, x2⟩ := numB_iff.1 h2
    have hb := emod_bd (r - x) m m1
    cases h3 : numB (firI r m x)
    · simp only [firB_f2 h3, selI_f]
      unfold firI at h3
      go_enter Try.func33, Try.ntmps33
      go_wp2_with (first | (go_at_call 15; refine (c_specClassIn _ _ _).mono ?_; rintro e w1 ⟨rfl, rfl⟩) | (go_at_call 55; refine (c_l1Number _ _).mono ?_; rintro e w1 ⟨rfl, rfl⟩) | (go_at_call 57; refine (c_l1Rest _ _ m1 m2 _).mono ?_; rintro e w1 ⟨rfl, rfl⟩))
      go_ret2
      exact ⟨rfl, by repeat (first | exact Below.refl _ _ | assumption | refine Below.drew ?_ | refine bel_drewN ?_ _ | refine ba ?_ _ | refine bt2 ?_ (by assumption) | refine Below.setCell ?_ (by simp <;> omega) _)⟩
    · simp only [firB_tt h1 h2 h3, selI_t]
      unfold firI at h3
      go_enter Try.func33, Try.ntmps33
      go_wp2_with (first | (go_at_call 15; refine (c_specClassIn _ _ _).mono ?_; rintro e w1 ⟨rfl, rfl⟩) | (go_at_call 55; refine (c_l1Number _ _).mono ?_; rintro e w1 ⟨rfl, rfl⟩) | (go_at_call 57; refine (c_l1Rest _ _ m1 m2 _).mono ?_; rintro e w1 ⟨rfl, rfl⟩))
      go_ret2
      exact ⟨rfl, by repeat (first | exact Below.refl _ _ | assumption | refine Below.drew ?_ | refine bel_drewN ?_ _ | refine ba ?_ _ | refine bt2 ?_ (by assumption) | refine Below.setCell ?_ (by simp <;> omega) _)⟩
/-! ClassCount -/
theorem cnt_cases (r m a b : Int) : inB r m = false ∨ (inB r m = true ∧ numB a = false) ∨ (inB r m = true ∧ numB a = true ∧ numB b = false) ∨ (inB r m = true ∧ numB a = true ∧ numB b = true) := by
  cases inB r m <;> cases numB a <;> cases numB b <;> simp
theorem c_implClassCount (r m a b : Int) (w : World) : Calls Try.prog 35 #[.agg #[.int .i64 r, .int .i64 m], .int .i64 a, .int .i64 b] w fun e w' => e = .returned (.tuple #[.int .i64 (selI (cntB r m a b) (cntI r m a b)), .bool (cntB r m a b)]) ∧ Below w.heap.size w w' := by
  rcases cnt_cases r m a b with h1 | ⟨h1, h2⟩ | ⟨h1, h2, h3⟩ | ⟨h1, h2, h3⟩
  · simp only [cntB_f0 h1, selI_f]
    go_enter Try.func35, Try.ntmps35
    go_wp2_with (first | (go_at_call 45; refine (c_valid _ _ _).mono ?_; rintro e w1 ⟨rfl, rfl⟩) | (go_at_call 47; refine (c_inNumbers _ _).mono ?_; rintro e w1 ⟨rfl, rfl⟩))
    go_ret2
    exact ⟨rfl, by repeat (first | exact Below.refl _ _ | assumption | refine Below.drew ?_ | refine bel_drewN ?_ _ | refine ba ?_ _ | refine bt2 ?_ (by assumption) | refine Below.setCell ?_ (by simp <;> omega) _)⟩
  · simp only [cntB_f1 h2, selI_f]
    go_enter Try.func35, Try.ntmps35
    go_wp2_with (first | (go_at_call 45; refine (c_valid _ _ _).mono ?_; rintro e w1 ⟨rfl, rfl⟩) | (go_at_call 47; refine (c_inNumbers _ _).mono ?_; rintro e w1 ⟨rfl, rfl⟩))
    go_ret2
    exact ⟨rfl, by repeat (first | exact Below.refl _ _ | assumption | refine Below.drew ?_ | refine bel_drewN ?_ _ | refine ba ?_ _ | refine bt2 ?_ (by assumption) | refine Below.setCell ?_ (by simp <;> omega) _)⟩
  · simp only [cntB_f2 h3, selI_f]
    go_enter Try.func35, Try.ntmps35
    go_wp2_with (first | (go_at_call 45; refine (c_valid _ _ _).mono ?_; rintro e w1 ⟨rfl, rfl⟩) | (go_at_call 47; refine (c_inNumbers _ _).mono ?_; rintro e w1 ⟨rfl, rfl⟩))
    go_ret2
    exact ⟨rfl, by repeat (first | exact Below.refl _ _ | assumption | refine Below.drew ?_ | refine bel_drewN ?_ _ | refine ba ?_ _ | refine bt2 ?_ (by assumption) | refine Below.setCell ?_ (by simp <;> omega) _)⟩
  · obtain ⟨m1, m2, r1, r2⟩ := inB_iff.1 h1
    obtain ⟨a1, a2⟩ := numB_iff.1 h2
    obtain ⟨b1, b2⟩ := numB_iff.1 h3
    have hb := @firI_bd r m a m1
    by_cases h : b ≤ firI r m a
    · simp only [cntB_tt h1 h2 h3, selI_t, cntI_0 h]
      go_enter Try.func35, Try.ntmps35
      go_wp2_with (first | (go_at_call 45; refine (c_valid _ _ _).mono ?_; rintro e w1 ⟨rfl, rfl⟩) | (go_at_call 47; refine (c_inNumbers _ _).mono ?_; rintro e w1 ⟨rfl, rfl⟩) | (go_at_call 62; refine (c_first _ _ _ m1 m2 r1 r2 a1 a2 _).mono ?_; rintro e w1 ⟨rfl, rfl⟩))
      go_ret2
      exact ⟨rfl, by repeat (first | exact Below.refl _ _ | assumption | refine Below.drew ?_ | refine bel_drewN ?_ _ | refine ba ?_ _ | refine bt2 ?_ (by assumption) | refine Below.setCell ?_ (by simp <;> omega) _)⟩
    · have h' : firI r m a < b := by omega
      have hq := @quo_bd (b - 1 - firI r m a) m (by omega) m1
      simp only [cntB_tt h1 h2 h3, selI_t, cntI_1 h']
      go_enter Try.func35, Try.ntmps35
      go_wp2_with (first | (go_at_call 45; refine (c_valid _ _ _).mono ?_; rintro e w1 ⟨rfl, rfl⟩) | (go_at_call 47; refine (c_inNumbers _ _).mono ?_; rintro e w1 ⟨rfl, rfl⟩) | (go_at_call 62; refine (c_first _ _ _ m1 m2 r1 r2 a1 a2 _).mono ?_; rintro e w1 ⟨rfl, rfl⟩))
      go_ret2
      exact ⟨rfl, by repeat (first | exact Below.refl _ _ | assumption | refine Below.drew ?_ | refine bel_drewN ?_ _ | refine ba ?_ _ | refine bt2 ?_ (by assumption) | refine Below.setCell ?_ (by simp <;> omega) _)⟩
theorem c_specClassCount (r m a b : Int) (w : World) : Calls Try.prog 36 #[.agg #[.int .i64 r, .int .i64 m], .int .i64 a, .int .i64 b] w fun e w' => e = .returned (.tuple #[.int .i64 (selI (cntB r m a b) (cntI r m a b)), .bool (cntB r m a b)]) ∧ Below w.heap.size w w' := by
  rcases cnt_cases r m a b with h1 | ⟨h1, h2⟩ | ⟨h1, h2, h3⟩ | ⟨h1, h2, h3⟩
  · simp only [cntB_f0 h1, selI_f]
    go_enter Try.func36, Try.ntmps36
    go_wp2_with (first | (go_at_call 15; refine (c_specClassIn _ _ _).mono ?_; rintro e w1 ⟨rfl, rfl⟩) | (go_at_call 55; refine (c_l1Number _ _).mono ?_; rintro e w1 ⟨rfl, rfl⟩))
    go_ret2
    exact ⟨rfl, by repeat (first | exact Below.refl _ _ | assumption | refine Below.drew ?_ | refine bel_drewN ?_ _ | refine ba ?_ _ | refine bt2 ?_ (by assumption) | refine Below.setCell ?_ (by simp <;> omega) _)⟩
  · simp only [cntB_f1 h2, selI_f]
    go_enter Try.func36, Try.ntmps36
    go_wp2_with (first | (go_at_call 15; refine (c_specClassIn _ _ _).mono ?_; rintro e w1 ⟨rfl, rfl⟩) | (go_at_call 55; refine (c_l1Number _ _).mono ?_; rintro e w1 ⟨rfl, rfl⟩))
    go_ret2
    exact ⟨rfl, by repeat (first | exact Below.refl _ _ | assumption | refine Below.drew ?_ | refine bel_drewN ?_ _ | refine ba ?_ _ | refine bt2 ?_ (by assumption) | refine Below.setCell ?_ (by simp <;> omega) _)⟩
  · simp only [cntB_f2 h3, selI_f]
    go_enter Try.func36, Try.ntmps36
    go_wp2_with (first | (go_at_call 15; refine (c_specClassIn _ _ _).mono ?_; rintro e w1 ⟨rfl, rfl⟩) | (go_at_call 55; refine (c_l1Number _ _).mono ?_; rintro e w1 ⟨rfl, rfl⟩))
    go_ret2
    exact ⟨rfl, by repeat (first | exact Below.refl _ _ | assumption | refine Below.drew ?_ | refine bel_drewN ?_ _ | refine ba ?_ _ | refine bt2 ?_ (by assumption) | refine Below.setCell ?_ (by simp <;> omega) _)⟩
  · obtain ⟨m1, m2, r1, r2⟩ := inB_iff.1 h1
    obtain ⟨a1, a2⟩ := numB_iff.1 h2
    obtain ⟨b1, b2⟩ := numB_iff.1 h3
    have hb := emod_bd (r - a) m m1
    by_cases h : b ≤ firI r m a
    · simp only [cntB_tt h1 h2 h3, selI_t, cntI_0 h]
      unfold firI at h
      go_enter Try.func36, Try.ntmps36
      go_wp2_with (first | (go_at_call 15; refine (c_specClassIn _ _ _).mono ?_; rintro e w1 ⟨rfl, rfl⟩) | (go_at_call 55; refine (c_l1Number _ _).mono ?_; rintro e w1 ⟨rfl, rfl⟩) | (go_at_call 57; refine (c_l1Rest _ _ m1 m2 _).mono ?_; rintro e w1 ⟨rfl, rfl⟩))
      go_ret2
      exact ⟨rfl, by repeat (first | exact Below.refl _ _ | assumption | refine Below.drew ?_ | refine bel_drewN ?_ _ | refine ba ?_ _ | refine bt2 ?_ (by assumption) | refine Below.setCell ?_ (by simp <;> omega) _)⟩
    · have h' : firI r m a < b := by omega
      simp only [cntB_tt h1 h2 h3, selI_t, cntI_1 h']
      unfold firI at h' ⊢
      have hq := @quo_bd (b - 1 - (a + (r - a) % m)) m (by omega) m1
      go_enter Try.func36, Try.ntmps36
      go_wp2_with (first | (go_at_call 15; refine (c_specClassIn _ _ _).mono ?_; rintro e w1 ⟨rfl, rfl⟩) | (go_at_call 55; refine (c_l1Number _ _).mono ?_; rintro e w1 ⟨rfl, rfl⟩) | (go_at_call 57; refine (c_l1Rest _ _ m1 m2 _).mono ?_; rintro e w1 ⟨rfl, rfl⟩))
      go_ret2
      exact ⟨rfl, by repeat (first | exact Below.refl _ _ | assumption | refine Below.drew ?_ | refine bel_drewN ?_ _ | refine ba ?_ _ | refine bt2 ?_ (by assumption) | refine Below.setCell ?_ (by simp <;> omega) _)⟩
end Go.Proofs.Ytenghhoofpjcaaa
