/- Contracts of ClassHas, ClassBelow and ClassMoved, in the program and in their models. -/
import Derived.Test.YtgdpebnnmklbjaaC2
namespace Go.Proofs.Ytgdpebnnmklbjaa
open Go.RowKit
/-! ClassHas -/
theorem c_implClassHas (r m x : Int) (w : World) : Calls Try.prog 29 #[.agg #[.int .i64 r, .int .i64 m], .int .i64 x] w fun e w' => e = .returned (.bool (hasB r m x)) ∧ Below w.heap.size w w' := by
  rcases movB_cases r m x with h1 | ⟨h1, h2⟩ | ⟨h1, h2⟩
  · go_enter Try.func29, Try.ntmps29
    go_wp2_with (first | (go_at_call 54; refine (c_valid _ _ _).mono ?_; rintro e w1 ⟨rfl, rfl⟩) | (go_at_call 60; refine (c_inNumbers _ _).mono ?_; rintro e w1 ⟨rfl, rfl⟩))
    go_ret
    exact ⟨rb (hasB_0 h1), by repeat (first | exact Below.refl _ _ | assumption | refine Below.drew ?_ | refine bel_drewN ?_ _ | refine ba ?_ _ | refine bt2 ?_ (by assumption) | refine Below.setCell ?_ (by simp <;> omega) _)⟩
  · go_enter Try.func29, Try.ntmps29
    go_wp2_with (first | (go_at_call 54; refine (c_valid _ _ _).mono ?_; rintro e w1 ⟨rfl, rfl⟩) | (go_at_call 60; refine (c_inNumbers _ _).mono ?_; rintro e w1 ⟨rfl, rfl⟩))
    go_ret
    exact ⟨rb (hasB_1 h2), by repeat (first | exact Below.refl _ _ | assumption | refine Below.drew ?_ | refine bel_drewN ?_ _ | refine ba ?_ _ | refine bt2 ?_ (by assumption) | refine Below.setCell ?_ (by simp <;> omega) _)⟩
  · obtain ⟨m1, m2, r1, r2⟩ := inB_iff.1 h1
    go_enter Try.func29, Try.ntmps29
    go_wp2_with (first | (go_at_call 54; refine (c_valid _ _ _).mono ?_; rintro e w1 ⟨rfl, rfl⟩) | (go_at_call 60; refine (c_inNumbers _ _).mono ?_; rintro e w1 ⟨rfl, rfl⟩) | (go_at_call 61; refine (c_has _ _ _ m1 m2 _).mono ?_; rintro e w1 ⟨rfl, rfl⟩))
    go_ret
    exact ⟨rb (hasB_i h1 h2), by repeat (first | exact Below.refl _ _ | assumption | refine Below.drew ?_ | refine bel_drewN ?_ _ | refine ba ?_ _ | refine bt2 ?_ (by assumption) | refine Below.setCell ?_ (by simp <;> omega) _)⟩
/-! ClassBelow -/
/-! ClassMoved -/
end Go.Proofs.Ytgdpebnnmklbjaa
