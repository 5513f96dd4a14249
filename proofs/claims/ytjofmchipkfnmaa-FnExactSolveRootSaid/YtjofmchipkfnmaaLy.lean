/- FnExactSolveRoot: its run, on whatever tape (own text). -/
import Derived.Test.YtjofmchipkfnmaaLx
namespace Go.Proofs.Ytjofmchipkfnmaa
open Go Go.Conc Go.ConcN Go.RowKit Go.Conc.Lib Go.ConcR.Gen Go.ConcN.Gen
open Go.ConcR (KK wgBlock WgAt stA smA rd wr mk Payload DC0)

noncomputable def bodyRL : Code := Try.f4.body.getD .skip
/-- The law's frame while SolveRoot runs. -/
noncomputable def actRL (m : Int) : Act :=
  ⟨#[.int .i64 m, undef, .bool false, .int .i64 (rootR m).1, .bool (rootR m).2, undef, undef, .tuple #[.int .i64 (rootR m).1, .bool (rootR m).2], .int .i64 m, .tuple #[.int .i64 (rootR m).1, .bool (rootR m).2], .int .i64 (rootR m).1, .bool (rootR m).2, undef, .int .i64 m, undef, undef, undef, undef, undef, undef, undef, undef, undef, undef, undef], []⟩
noncomputable def opsRL : Array Oper := opsOf (cL (cR (cR bodyRL)))
noncomputable def kRL : List Item := [.code (cR (cR (cR bodyRL)))]
noncomputable def entryRL (m : Int) : Goroutine := G ((base 4).at ⟨#[.int .i64 m, undef, undef, undef, undef, undef, undef, undef, undef, undef, undef, undef, undef, undef, undef, undef, undef, undef, undef, undef, undef, undef, undef, undef, undef], []⟩ [.code bodyRL]) []
theorem enterRL_eq (m : Int) : G (Frame.enter Try.prog 4 #[.int .i64 m] .normal) [] = entryRL m := by
  simp [entryRL, Frame.enter, Frame.at, Try.func4, base, bodyRL, Try.f4, Array.replicate_succ]

section
variable {Sh : Loc → Prop} {B N sz : Nat} {W : World} {L : List (Nat × Obj)}
set_option maxRecDepth 100000 in
set_option maxHeartbeats 8000000 in
theorem preRL (m : Int) (w : World) (hF : Fa N W sz L w) :
    Goes Try.prog true AtRel (DE (EvL Sh B)) (fun g' w' => g' = entR m ((base 4).at (actRL m) (.inRegion opsRL (1 :: [2, 3, 4, 5, 6]) :: kRL) :: []) ∧ Fa N W sz L w') 600000060 (entryRL m) w := by
  simp only [entryRL, bodyRL, entR, actRL, opsRL, kRL, bodyR, cR, cL, opsOf, Try.f4, Option.getD_some]
  refine goes_join (m := 600000040) (n := 20) atRel_refl ?_
  u_c stepG_seq Fa.atRel hF
  u_reg Fa.atRel hF
  u_op Fa.atRel hF
  u_c stepG_region_end Fa.atRel hF
  u_c stepG_seq Fa.atRel hF
  u_reg Fa.atRel hF
  u_op Fa.atRel hF
  refine Goes.stop (fun w₉ r₉ => ?_)
  replace hF := hF.atRel r₉
  clear r₉
  refine Goes.call (m := 37) (nf := 600000000) (Post := fun v w' => v = .tuple #[.int .i64 (rootR m).1, .bool (rootR m).2] ∧ Since AtRel w₉ w') terms_b rfl (by rfl) (by k_ne) rfl ?_ (fun v w₁ hp => ?_)
  · walk_nrm
    exact k_specRoot terms_b m _
  obtain ⟨rfl, hs⟩ := hp
  replace hF := hF.since hs
  clear hs
  walk_nrm
  repeat (first | u_c stepG_seq Fa.atRel hF | u_c stepG_region_end Fa.atRel hF | u_reg Fa.atRel hF | u_op Fa.atRel hF)
  u_call Try.func8 (by rfl) Try.f8 Fa.atRel hF
  refine Goes.stop (fun w₂ r₂ => ?_)
  exact ⟨rfl, hF.atRel r₂⟩

set_option maxRecDepth 100000 in
set_option maxHeartbeats 8000000 in
theorem endRL (m : Int) (hs : W.heap.size ≤ sz) (w : World) (hF : Fa W.heap.size W sz L w) :
    Goes Try.prog true AtRel (DE (EvL Sh B)) (AtEnd Try.prog Sh B (PostL W)) 80 (retG (base 4) (actRL m) opsRL 1 [2, 3, 4, 5, 6] kRL [] (.tuple #[.int .i64 (rootR m).1, .bool (rootR m).2])) w := by
  simp only [retG, actRL, opsRL, kRL, bodyRL, cR, cL, opsOf, Try.f4, Option.getD_some]
  generalize (rootR m).1 = r
  generalize (rootR m).2 = bb
  walk_nrm
  repeat (first | u_c stepG_seq Fa.atRel hF | u_c stepG_region_end Fa.atRel hF | u_reg Fa.atRel hF | u_op Fa.atRel hF)
  cases bb
  all_goals
    repeat (first | u_op Fa.atRel hF | u_c stepG_region_end Fa.atRel hF)
    u_cond false Fa.atRel hF
    repeat (first | u_c stepG_seq Fa.atRel hF | u_c stepG_skip Fa.atRel hF | u_c stepG_region_end Fa.atRel hF | u_reg Fa.atRel hF | u_op Fa.atRel hF | u_c stepG_ret' Fa.atRel hF)
    refine Goes.stop (fun w₂ r₂ => ⟨rfl, .bool true, #[], ?_, by simp, rfl, (hF.atRel r₂).below hs⟩)
    simp [G, stepG, unwind, doReturn, results, Frame.at, base, Try.func4, Try.f4, seen, GStep.after]
end

theorem runRL (m : Int) (W : World) : Ends W (solo (entryRL m) W) #[] := by
  have h0 := Stn.first (W.heap.size + 30000) W (entryRL m)
  have h1 : Reach _ _ (Stn (W.heap.size + 30000) W.heap.size W [] W.heap.size (entR m ((base 4).at (actRL m) (.inRegion opsRL (1 :: [2, 3, 4, 5, 6]) :: kRL) :: []))) :=
    h0.walk fun Sh sz h1 h2 _ _ _ w hF => ⟨_, goes_mono (fun g' w' hx => ⟨hx.1, sz, Nat.le_refl _, h2, hx.2⟩) (preRL m w hF)⟩
  refine (h1.trans fun mc t h => rootAny (by omega) h).trans (Q' := Ends W) (fun mc t h => .refl ?_) |>.ends
  exact h.ends fun Sh sz h1 h2 _ _ w hF => ⟨80, endRL m h1 w hF⟩
end Go.Proofs.Ytjofmchipkfnmaa
