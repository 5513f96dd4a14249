/- The model's ClassMeet at every two classes. -/
import Derived.Test.YtenghhoofpjcaaaE2
import Derived.Test.YtenghhoofpjcaaaC2
namespace Go.Proofs.Ytenghhoofpjcaaa
open Go.RowKit
def mtB (r m s n : Int) : Bool := inB r m && inB s n && metB m s n r
theorem mtB_0 {r m s n : Int} (h : inB r m = false) : mtB r m s n = false := by simp [mtB, h]
theorem mtB_1 {r m s n : Int} (h : inB s n = false) : mtB r m s n = false := by simp [mtB, h]
theorem mtB_2 {r m s n : Int} (h : inB r m = true) (k : inB s n = true) : mtB r m s n = metB m s n r := by simp [mtB, h, k]
theorem c_specClassMeet (r m s n : Int) (w : World) : Calls Try.prog 39 #[.agg #[.int .i64 r, .int .i64 m], .agg #[.int .i64 s, .int .i64 n]] w fun e w' => e = .returned (.tuple #[.agg #[.int .i64 (selI (mtB r m s n) (metX m s n r)), .int .i64 (selI (mtB r m s n) (lcmI m n))], .bool (mtB r m s n)]) ∧ Below w.heap.size w w' := by
  rcases belB_cases r m s n with h1 | ⟨h1, h2⟩ | ⟨h1, h2⟩
  · simp only [mtB_0 h1, selI_f]
    go_enter Try.func39, Try.ntmps39
    go_wp2_with (first | (go_at_call 15; refine (c_specClassIn _ _ _).mono ?_; rintro e w1 ⟨rfl, rfl⟩) | (go_at_call 56; refine (c_l1None _).mono ?_; rintro e w1 ⟨rfl, rfl⟩))
    refine bodyPost_ret (v := .tuple #[.agg #[.int .i64 0, .int .i64 0], .bool false]) (by simp [results, Try.results39, go_sem]) rfl ⟨rfl, ?_⟩
    repeat (first | exact Below.refl _ _ | assumption | refine Below.drew ?_ | refine bel_drewN ?_ _ | refine ba ?_ _ | refine bt2 ?_ (by assumption) | refine Below.setCell ?_ (by simp <;> omega) _)
  · simp only [mtB_1 h2, selI_f]
    go_enter Try.func39, Try.ntmps39
    go_wp2_with (first | (go_at_call 15; refine (c_specClassIn _ _ _).mono ?_; rintro e w1 ⟨rfl, rfl⟩) | (go_at_call 56; refine (c_l1None _).mono ?_; rintro e w1 ⟨rfl, rfl⟩))
    refine bodyPost_ret (v := .tuple #[.agg #[.int .i64 0, .int .i64 0], .bool false]) (by simp [results, Try.results39, go_sem]) rfl ⟨rfl, ?_⟩
    repeat (first | exact Below.refl _ _ | assumption | refine Below.drew ?_ | refine bel_drewN ?_ _ | refine ba ?_ _ | refine bt2 ?_ (by assumption) | refine Below.setCell ?_ (by simp <;> omega) _)
  · simp only [mtB_2 h1 h2]
    go_enter Try.func39, Try.ntmps39
    go_wp2_with (first | (go_at_call 15; refine (c_specClassIn _ _ _).mono ?_; rintro e w1 ⟨rfl, rfl⟩))
    refine (c_l1Meet r m s n h1 h2 _).mono ?_
    rintro e w5 ⟨rfl, hb5⟩
    have hb6 := (ba (ba (Below.refl _ _) _) _).trans (hb5.mono (by simp <;> omega))
    obtain ⟨A, B, C, D⟩ := two_below hb6
    have c0 := C 0
    have c1 := C 1
    have d0 := D 0
    have d1 := D 1
    clear A B C D
    go_wp2
    refine bodyPost_ret (v := .tuple #[.agg #[.int .i64 (selI (metB m s n r) (metX m s n r)), .int .i64 (selI (metB m s n r) (lcmI m n))], .bool (metB m s n r)]) (by simp [results, Try.results39, go_sem, c0, c1]) rfl ⟨rfl, ?_⟩
    have hb7 := bt2 (ba (ba (ba (Below.refl _ w) _) _) _) hb6
    repeat (first | exact Below.refl _ _ | assumption | refine Below.drew ?_ | refine bel_drewN ?_ _ | refine ba ?_ _ | refine bt2 ?_ (by assumption) | refine Below.setCell ?_ (by simp <;> omega) _)
end Go.Proofs.Ytenghhoofpjcaaa
