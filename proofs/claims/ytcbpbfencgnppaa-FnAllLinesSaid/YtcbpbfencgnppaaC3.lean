/- Contracts of ClassHas, ClassBelow and ClassMoved, in the program and in their models. -/
import Derived.Test.YtcbpbfencgnppaaC2
namespace Go.Proofs.Ytcbpbfencgnppaa
open Go.RowKit
/-! ClassHas -/
/-! ClassBelow -/
theorem c_implClassBelow (r m s n : Int) (w : World) : Calls Try.prog 13 #[.agg #[.int .i64 r, .int .i64 m], .agg #[.int .i64 s, .int .i64 n]] w fun e w' => e = .returned (.bool (belB r m s n)) ∧ Below w.heap.size w w' := by
  rcases belB_cases r m s n with h1 | ⟨h1, h2⟩ | ⟨h1, h2⟩
  · go_enter Try.func13, Try.ntmps13
    go_wp2_with (go_at_call 34; refine (c_valid _ _ _).mono ?_; rintro e w1 ⟨rfl, rfl⟩)
    go_ret
    exact ⟨rb (belB_0 h1), by repeat (first | exact Below.refl _ _ | assumption | refine Below.drew ?_ | refine bel_drewN ?_ _ | refine ba ?_ _ | refine bt2 ?_ (by assumption) | refine Below.setCell ?_ (by simp <;> omega) _)⟩
  · go_enter Try.func13, Try.ntmps13
    go_wp2_with (go_at_call 34; refine (c_valid _ _ _).mono ?_; rintro e w1 ⟨rfl, rfl⟩)
    go_ret
    exact ⟨rb (belB_1 h2), by repeat (first | exact Below.refl _ _ | assumption | refine Below.drew ?_ | refine bel_drewN ?_ _ | refine ba ?_ _ | refine bt2 ?_ (by assumption) | refine Below.setCell ?_ (by simp <;> omega) _)⟩
  · obtain ⟨m1, m2, r1, r2⟩ := inB_iff.1 h1
    obtain ⟨n1, n2, s1, s2⟩ := inB_iff.1 h2
    go_enter Try.func13, Try.ntmps13
    go_wp2_with (first | (go_at_call 34; refine (c_valid _ _ _).mono ?_; rintro e w1 ⟨rfl, rfl⟩) | (go_at_call 35; refine (c_below _ _ _ _ m1 m2 n1 n2 _).mono ?_; rintro e w1 ⟨rfl, hb⟩))
    go_ret
    exact ⟨rb (belB_i h1 h2), by repeat (first | exact Below.refl _ _ | assumption | refine Below.drew ?_ | refine bel_drewN ?_ _ | refine ba ?_ _ | refine bt2 ?_ (by assumption) | refine Below.setCell ?_ (by simp <;> omega) _)⟩
/-! ClassMoved -/
end Go.Proofs.Ytcbpbfencgnppaa
