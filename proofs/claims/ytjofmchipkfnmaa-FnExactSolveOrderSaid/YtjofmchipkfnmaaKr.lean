/- FnExactSolveOrder: from its entry to the head of ordersOf's loop (own text). -/
import Derived.Test.YtjofmchipkfnmaaKra
namespace Go.Proofs.Ytjofmchipkfnmaa
open Go Go.Conc Go.ConcN Go.RowKit Go.Conc.Lib Go.ConcR.Gen Go.ConcN.Gen
open Go.ConcR (KK wgBlock WgAt stA smA rd wr mk Payload DC0)


noncomputable def bodyL : Code := Try.f3.body.getD .skip
noncomputable def bodyV : Code := Try.f6.body.getD .skip
/-- The law's frame while SolveOrder runs. -/
noncomputable def actL (a m : Int) (v : Value) : Act :=
  ⟨#[.int .i64 a, .int .i64 m, undef, undef, .bool false, .int .i64 (ordV a m), .bool (ordB a m), undef, undef, .tuple #[.int .i64 (ordV a m), .bool (ordB a m)], .int .i64 a, .int .i64 m, .tuple #[.int .i64 (ordV a m), .bool (ordB a m)], .int .i64 (ordV a m), .bool (ordB a m), undef,
    .int .i64 a, .int .i64 m, v, undef, undef, undef, undef, undef, undef, undef, undef, undef, undef], []⟩
noncomputable def opsL : Array Oper := opsOf (cL (cR (cR bodyL)))
noncomputable def cFL (a m : Int) : Frame := (base 3).at (actL a m undef) [.inRegion opsL [2, 3, 4, 5, 6, 7], .code (cR (cR (cR bodyL)))]
/-- SolveOrder's frame while ordersOf runs. -/
noncomputable def actV (a m : Int) (S : Nat) (v16 v17 v18 : Value) : Act :=
  ⟨#[.int .i64 a, .int .i64 m, undef, undef, .int .i64 0, .bool false, undef, undef, .int .i64 a, .int .i64 m, .bool true, .bool false, undef, .int .i64 a, .slice (some ⟨S, 0, none⟩) 1 1, .int .i64 m, v16, v17, v18, undef, undef, undef, undef, undef], []⟩
noncomputable def opsV : Array Oper := opsOf (cL (cR (cR bodyV)))
noncomputable def cFV (a m : Int) (S : Nat) : Frame := (base 6).at (actV a m S undef undef undef) [.inRegion opsV [3, 4, 5, 6, 7, 8, 9, 10, 11], .code (cR (cR (cR bodyV)))]

section
variable {Sh : Loc → Prop} {B : Nat}
def HeadAt (a m : Int) (W : World) (g : Goroutine) (w' : World) : Prop :=
  ∃ w1, Fa W.heap.size W (W.heap.size + 1) [(W.heap.size, .cells #[.int .i64 a] 3)] w1 ∧ g = headO [cFV a m W.heap.size, cFL a m] ⟨W.heap.size, 0, none⟩ 1 1 (W.heap.size + 1) m 0 loopO loopO restO undef undef undef undef undef undef undef undef undef undef undef undef undef ∧
    Fa (W.heap.size + 1) w1 (W.heap.size + 4) [(W.heap.size + 3, .cells #[.int .u64 0, .int .u32 0] 50), (W.heap.size + 2, .cells (madeCells #[.chan none] 1) 29), (W.heap.size + 1, .cells #[.int .i64 m] 3)] w'

set_option maxRecDepth 100000 in
set_option maxHeartbeats 8000000 in
theorem preWalk (a m : Int) (W : World) (hb : (numB a && modB m) = true) :
    Goes Try.prog true AtRel (DE (EvL Sh B)) (HeadAt a m W) 400500 (G ((base 3).at ⟨#[.int .i64 a, .int .i64 m, undef, undef, undef, undef, undef, undef, undef, undef, undef, undef, undef, undef, undef, undef, undef, undef, undef, undef, undef, undef, undef, undef, undef, undef, undef, undef, undef], []⟩ [.code bodyL]) []) W := by
  have hF : Fa W.heap.size W W.heap.size [] W := ⟨rfl, fun _ _ => rfl, by simp, rfl, rfl, rfl⟩
  simp only [bodyL, Try.f3, Option.getD_some]
  refine goes_join (m := 400450) (n := 50) atRel_refl ?_
  u_c stepG_seq Fa.atRel hF
  u_reg Fa.atRel hF
  u_op Fa.atRel hF
  u_c stepG_region_end Fa.atRel hF
  u_c stepG_seq Fa.atRel hF
  u_reg Fa.atRel hF
  u_op Fa.atRel hF
  u_op Fa.atRel hF
  refine Goes.stop (fun w₉ r₉ => ?_)
  replace hF := hF.atRel r₉
  clear r₉
  refine Goes.call (m := 447) (nf := 400000) (Post := fun v w' => v = .tuple #[.int .i64 (ordV a m), .bool (ordB a m)] ∧ Since AtRel w₉ w') terms_b rfl (by rfl) (by k_ne) rfl ?_ (fun v w₁ hp => ?_)
  · walk_nrm
    exact k_specOrder terms_b a m _
  obtain ⟨rfl, hs⟩ := hp
  replace hF := hF.since hs
  clear hs
  walk_nrm
  repeat (first | u_c stepG_seq Fa.atRel hF | u_c stepG_region_end Fa.atRel hF | u_reg Fa.atRel hF | u_op Fa.atRel hF)
  u_call Try.func6 (by rfl) Try.f6 Fa.atRel hF
  refine goes_join (m := 300) (n := 136) atRel_refl ?_
  repeat (first | u_c stepG_seq Fa.atRel hF | u_c stepG_region_end Fa.atRel hF | u_reg Fa.atRel hF | u_op Fa.atRel hF)
  refine Goes.stop (fun w₉ r₉ => ?_)
  replace hF := hF.atRel r₉
  clear r₉
  refine Goes.call (m := 97) (nf := 200) (Post := fun v w' => v = .bool (numB a && modB m) ∧ Since AtRel w₉ w') terms_b rfl (by rfl) (by k_ne) rfl ?_ (fun v w₁ hp => ?_)
  · walk_nrm
    exact k_inLine terms_b a m _
  obtain ⟨rfl, hs⟩ := hp
  replace hF := hF.since hs
  clear hs
  rw [hb]
  walk_nrm
  u_op Fa.atRel hF
  u_c stepG_region_end Fa.atRel hF
  u_cond false Fa.atRel hF
  u_c stepG_skip Fa.atRel hF
  u_c stepG_seq Fa.atRel hF
  u_reg Fa.atRel hF
  u_op Fa.atRel hF
  -- []int{a}
  refine Goes.step rfl (fun w₉ r₉ => ?_)
  replace hF := hF.atRel r₉
  clear r₉
  have hs := hF.size
  refine goes_oper_k rfl rfl (by k_ne) (fun K hK => ?_)
  go_simp
  refine hK _ _ ⟨fun e he => by have hm := mem_listed he; simp [go_sem, *] at hm, ?_⟩
  clear hK K
  replace hF := hF.alloc (Nat.le_refl _) (.cells #[.int .i64 a] 3)
  clear hs
  u_op Fa.atRel hF
  refine Goes.step rfl (fun w₈ r₈ => ?_)
  replace hF := hF.atRel r₈
  clear r₈
  refine goes_call rfl rfl (by k_ne) rfl Try.func12 (by rfl) rfl ⟨by u_nil, ?_⟩
  have hT := toHead (Sh := Sh) (B := B) (cs := [cFV a m W.heap.size, cFL a m]) ⟨W.heap.size, 0, none⟩ 1 1 m (by omega) (by omega) w₈
  walk_nrmf Try.f12
  refine goes_more (m := 40) 47 (goes_mono (fun g w' h => ?_) hT)
  obtain ⟨rfl, h⟩ := h
  rw [hF.size] at h
  exact ⟨w₈, hF, by rw [hF.size], h⟩
end
end Go.Proofs.Ytjofmchipkfnmaa
