/- FnExactSolveOrder: the run where there is no line (own text). -/
import Derived.Test.YtjofmchipkfnmaaKt
namespace Go.Proofs.Ytjofmchipkfnmaa
open Go Go.Conc Go.ConcN Go.RowKit Go.Conc.Lib Go.ConcR.Gen Go.ConcN.Gen
open Go.ConcR (KK wgBlock WgAt stA smA rd wr mk Payload DC0)

theorem below_at {W w w₁ : World} (h : Below W.heap.size W w) (r : AtRel w w₁) : Below W.heap.size W w₁ := by
  obtain ⟨d, rfl⟩ := r
  exact ⟨h.os, h.tape, h.output, h.size, h.block⟩
theorem below_since {W w w₁ : World} (h : Below W.heap.size W w) (r : Since AtRel w w₁) : Below W.heap.size W w₁ := r.elim (fun e => e ▸ h) (below_at h)

section
variable {Sh : Loc → Prop} {B : Nat}
set_option maxRecDepth 100000 in
set_option maxHeartbeats 8000000 in
theorem earlyWalk (a m : Int) (W : World) (hb : (numB a && modB m) = false) :
    Goes Try.prog true AtRel (DE (EvL Sh B)) (AtEnd Try.prog Sh B (PostL W)) 400500 (entryL a m) W := by
  have hF : Below W.heap.size W W := .refl _ _
  have hv : ordV a m = 0 := by simp [ordV, hb]
  have hw : ordB a m = false := by simp [ordB, hb]
  simp only [entryL, bodyL, Try.f3, Option.getD_some]
  refine goes_join (m := 400450) (n := 50) atRel_refl ?_
  u_c stepG_seq below_at hF
  u_reg below_at hF
  u_op below_at hF
  u_c stepG_region_end below_at hF
  u_c stepG_seq below_at hF
  u_reg below_at hF
  u_op below_at hF
  u_op below_at hF
  refine Goes.stop (fun w₉ r₉ => ?_)
  replace hF := below_at hF r₉
  clear r₉
  refine Goes.call (m := 447) (nf := 400000) (Post := fun v w' => v = .tuple #[.int .i64 (ordV a m), .bool (ordB a m)] ∧ Since AtRel w₉ w') terms_b rfl (by rfl) (by k_ne) rfl ?_ (fun v w₁ hp => ?_)
  · walk_nrm
    exact k_specOrder terms_b a m _
  obtain ⟨rfl, hs⟩ := hp
  replace hF := below_since hF hs
  clear hs
  rw [hv, hw]
  walk_nrm
  repeat (first | u_c stepG_seq below_at hF | u_c stepG_region_end below_at hF | u_reg below_at hF | u_op below_at hF)
  u_call Try.func6 (by rfl) Try.f6 below_at hF
  refine goes_join (m := 300) (n := 136) atRel_refl ?_
  repeat (first | u_c stepG_seq below_at hF | u_c stepG_region_end below_at hF | u_reg below_at hF | u_op below_at hF)
  refine Goes.stop (fun w₉ r₉ => ?_)
  replace hF := below_at hF r₉
  clear r₉
  refine Goes.call (m := 97) (nf := 200) (Post := fun v w' => v = .bool (numB a && modB m) ∧ Since AtRel w₉ w') terms_b rfl (by rfl) (by k_ne) rfl ?_ (fun v w₁ hp => ?_)
  · walk_nrm
    exact k_inLine terms_b a m _
  obtain ⟨rfl, hs⟩ := hp
  replace hF := below_since hF hs
  clear hs
  rw [hb]
  walk_nrm
  u_op below_at hF
  u_c stepG_region_end below_at hF
  u_cond true below_at hF
  repeat (first | u_c stepG_seq below_at hF | u_c stepG_region_end below_at hF | u_reg below_at hF | u_op below_at hF | u_c stepG_ret' below_at hF)
  u_in below_at hF
  refine goes_leave2 rfl rfl Try.func6 rfl ⟨by u_nil, ?_⟩
  walk_nrm
  repeat (first | u_c stepG_seq below_at hF | u_c stepG_region_end below_at hF | u_reg below_at hF | u_op below_at hF)
  u_cond false below_at hF
  repeat (first | u_c stepG_seq below_at hF | u_c stepG_skip below_at hF | u_c stepG_region_end below_at hF | u_reg below_at hF | u_op below_at hF | u_c stepG_ret' below_at hF)
  refine Goes.stop (fun w₂ r₂ => ⟨rfl, .bool true, #[], ?_, by simp, rfl, below_at hF r₂⟩)
  simp [G, stepG, unwind, doReturn, results, Frame.at, base, Try.func3, Try.f3, seen, GStep.after]
end

theorem run_all (a m : Int) (W : World) : Ends W (solo (entryL a m) W) #[] := by
  cases hb : (numB a && modB m) with
  | true => exact run_true a m W hb
  | false =>
    rw [solo_eq_crowd]
    exact beside_ends (P := Try.prog) (Shun := fun _ => False) (B := 0) (Post := PostL W) (sl := none) (fun _ _ _ h => h) rfl (leavers_one _ _) past_nil (earlyWalk a m W hb)
end Go.Proofs.Ytjofmchipkfnmaa
