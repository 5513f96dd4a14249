/- Contracts of ClassMeet, in the program and in the model, at every two classes. -/
import Derived.Test.YtelgmmnjndinhaaR2
import Derived.Test.YtelgmmnjndinhaaM1
namespace Go.Proofs.Ytelgmmnjndinhaa
open Go.RowKit
theorem c_implClassMeet (r m s n : Int) (w : World) : Calls Try.prog 66 #[.agg #[.int .i64 r, .int .i64 m], .agg #[.int .i64 s, .int .i64 n]] w fun e w' => e = .returned (.tuple #[.agg #[.int .i64 (selI (mtB r m s n) (metX m s n r)), .int .i64 (selI (mtB r m s n) (lcmI m n))], .bool (mtB r m s n)]) ∧ Below w.heap.size w w' := by
  rcases belB_cases r m s n with h1 | ⟨h1, h2⟩ | ⟨h1, h2⟩
  · simp only [mtB_0 h1, selI_f]
    go_enter Try.func66, Try.ntmps66
    go_wp2_with (go_at_call 70; refine (c_valid _ _ _).mono ?_; rintro e w1 ⟨rfl, rfl⟩)
    refine bodyPost_ret (v := .tuple #[.agg #[.int .i64 0, .int .i64 0], .bool false]) (by simp [results, Try.results66, go_sem]) rfl ⟨rfl, ?_⟩
    repeat (first | exact Below.refl _ _ | assumption | refine Below.drew ?_ | refine bel_drewN ?_ _ | refine ba ?_ _ | refine bt2 ?_ (by assumption) | refine Below.setCell ?_ (by simp <;> omega) _)
  · simp only [mtB_1 h2, selI_f]
    go_enter Try.func66, Try.ntmps66
    go_wp2_with (go_at_call 70; refine (c_valid _ _ _).mono ?_; rintro e w1 ⟨rfl, rfl⟩)
    refine bodyPost_ret (v := .tuple #[.agg #[.int .i64 0, .int .i64 0], .bool false]) (by simp [results, Try.results66, go_sem]) rfl ⟨rfl, ?_⟩
    repeat (first | exact Below.refl _ _ | assumption | refine Below.drew ?_ | refine bel_drewN ?_ _ | refine ba ?_ _ | refine bt2 ?_ (by assumption) | refine Below.setCell ?_ (by simp <;> omega) _)
  · simp only [mtB_2 h1 h2]
    exact c_implMeet2 r m s n h1 h2 w
end Go.Proofs.Ytelgmmnjndinhaa
