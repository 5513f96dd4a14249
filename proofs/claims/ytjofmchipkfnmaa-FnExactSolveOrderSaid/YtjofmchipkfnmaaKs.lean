/- FnExactSolveOrder: the phase, and on to its end (own text). -/
import Derived.Test.YtjofmchipkfnmaaKr
import Derived.Test.YtjofmchipkfnmaaKta
namespace Go.Proofs.Ytjofmchipkfnmaa
open Go Go.Conc Go.ConcN Go.RowKit Go.Conc.Lib Go.ConcR.Gen Go.ConcN.Gen
open Go.ConcR (KK wgBlock WgAt stA smA rd wr mk Payload DC0)

section
variable {Sh : Loc → Prop} {B : Nat}
/-- What stands to the end. -/
structure Kn2 (S : Nat) (W : World) (c : Nat) (o : Obj) (w : World) : Prop where
  size : S + 8 ≤ w.heap.size
  old : ∀ b, b < S → w.heap[b]? = W.heap[b]?
  arr : w.heap[S + 2]? = some (.cells #[.chan (some c)] 29)
  ch : w.heap[c]? = some o
  tape : w.tape = W.tape
  os : w.os = W.os
  output : w.output = W.output
theorem Kn2.rely {S c : Nat} {W w w₁ : World} {o : Obj} (h : Kn2 S W c o w) (r : AtRel w w₁) : Kn2 S W c o w₁ := by
  obtain ⟨d, rfl⟩ := r
  exact ⟨h.size, h.old, h.arr, h.ch, h.tape, h.os, h.output⟩

/-- SolveOrder's frame at its receive. -/
noncomputable def atV (a m : Int) (S : Nat) (c : Nat) : Goroutine :=
  G ((base 6).at (actV a m S (.slice (some ⟨S + 2, 0, none⟩) 1 1) (.pointer (some ⟨S + 2, 0, none⟩)) (.chan (some c))) [.inRegion opsV [6, 7, 8, 9, 10, 11], .code (cR (cR (cR bodyV)))]) [cFL a m]

set_option maxRecDepth 100000 in
set_option maxHeartbeats 8000000 in
theorem postWalk (a m : Int) (S : Nat) (W : World) (o : Obj) (hSh : ¬ Sh (.cell ⟨S + 2, 0, none⟩)) (hB : S + 2 < B) (xs : Nat → Int) (w : World) (hF : Kn2 S W (S + 5) o w) :
    Goes Try.prog true AtRel (DE (EvL Sh B)) (fun g w' => g = atV a m S (S + 5) ∧ Kn2 S W (S + 5) o w') 60 (backO 1 (S + 1) m xs [cFV a m S, cFL a m] ⟨S, 0, none⟩ 1) w := by
  simp only [backO, waitA, waitOps, waitK, opsOf, restO, bodyO, cR, cL, cFV, actV, opsV, bodyV, atV, Try.f12, Try.f6, Option.getD_some]
  walk_nrm
  u_c stepG_region_end Kn2.rely hF
  u_c stepG_seq Kn2.rely hF
  u_reg Kn2.rely hF
  u_op Kn2.rely hF
  u_op Kn2.rely hF
  u_c stepG_region_end Kn2.rely hF
  u_c stepG_ret' Kn2.rely hF
  u_leave1 Try.func12 Kn2.rely hF
  u_op Kn2.rely hF
  refine Goes.step rfl (fun w₉ r₉ => ?_)
  replace hF := hF.rely r₉
  clear r₉
  have hc : w₉.cell? ⟨S + 2, 0, none⟩ = some (.chan (some (S + 5))) := by simp [World.cell?, hF.arr]
  refine goes_oper_k rfl rfl (by k_ne) (fun K hK => ?_)
  go_simp
  refine hK _ _ ⟨fun e he => ?_, ?_⟩
  · have hm := mem_listed he
    simp [go_sem, *] at hm
    subst hm
    exact evL_cell _ _ hSh hB
  clear hK K
  refine Goes.stop (fun w₉ r₉ => ?_)
  exact ⟨rfl, hF.rely r₉⟩
end

/-- SolveOrder's frame after its receive. -/
noncomputable def gotV (a m : Int) (S c : Nat) (v : Value) : Goroutine :=
  G ((base 6).at ((actV a m S (.slice (some ⟨S + 2, 0, none⟩) 1 1) (.pointer (some ⟨S + 2, 0, none⟩)) (.chan (some c))).put (some 19) v) [.inRegion opsV [7, 8, 9, 10, 11], .code (cR (cR (cR bodyV)))]) [cFL a m]

theorem atV_comm (a m : Int) (S c : Nat) (w : World) : stepG Try.prog true (atV a m S c) w = .comm (atV a m S c) #[rcase c (.int .i64 0)] true (.recv true) w #[] := by
  simp only [atV, actV, opsV, bodyV, opsOf, cR, cL, Try.f6, Option.getD_some]
  rw [stepG_comm (cases := #[rcase c (.int .i64 0)]) (blocking := true) (shape := .recv true) (w' := w) rfl (by rfl) (by k_ne) (by simp [go_sem, rcase]), listed_none (by simp [go_sem])]
theorem served_atV (a m : Int) (S c : Nat) (v : Value) : Go.Conc.served (atV a m S c) v = gotV a m S c v := by
  have e : ((base 6).at (actV a m S (.slice (some ⟨S + 2, 0, none⟩) 1 1) (.pointer (some ⟨S + 2, 0, none⟩)) (.chan (some c))) [.inRegion opsV [6, 7, 8, 9, 10, 11], .code (cR (cR (cR bodyV)))]).finish v =
      (base 6).at ((actV a m S (.slice (some ⟨S + 2, 0, none⟩) 1 1) (.pointer (some ⟨S + 2, 0, none⟩)) (.chan (some c))).put (some 19) v) [.inRegion opsV [7, 8, 9, 10, 11], .code (cR (cR (cR bodyV)))] := by
    rw [Frame.finish_at]; rfl
  unfold atV gotV Go.Conc.served
  simp only [G]
  rw [e]

section
variable {Sh : Loc → Prop} {B : Nat}
set_option maxRecDepth 100000 in
set_option maxHeartbeats 8000000 in
/-- From the receive to the law's end. -/
theorem endWalk (a m : Int) (S : Nat) (W : World) (c : Nat) (hS : S = W.heap.size) (w : World) (hF : Below W.heap.size W w) :
    Goes Try.prog true AtRel (DE (EvL Sh B)) (AtEnd Try.prog Sh B (PostL W)) 80 (gotV a m S c (.tuple #[.int .i64 (ordV a m), .bool (ordB a m)])) w := by
  simp only [gotV, actV, opsV, bodyV, cFL, actL, opsL, bodyL, opsOf, cR, cL, Try.f6, Try.f3, Option.getD_some]
  have hr : ∀ w w₁ : World, Below W.heap.size W w → AtRel w w₁ → Below W.heap.size W w₁ := fun w w₁ h ⟨d, e⟩ => by subst e; exact ⟨h.os, h.tape, h.output, h.size, h.block⟩
  have hr2 : ∀ {w w₁ : World}, Below W.heap.size W w → AtRel w w₁ → Below W.heap.size W w₁ := fun h r => hr _ _ h r
  clear hr
  walk_nrm
  repeat (first | u_c stepG_seq hr2 hF | u_c stepG_region_end hr2 hF | u_reg hr2 hF | u_op hr2 hF | u_c stepG_ret' hr2 hF)
  u_in hr2 hF
  refine goes_leave2 rfl rfl Try.func6 rfl ⟨by u_nil, ?_⟩
  walk_nrm
  repeat (first | u_c stepG_seq hr2 hF | u_c stepG_region_end hr2 hF | u_reg hr2 hF | u_op hr2 hF | u_c stepG_ret' hr2 hF)
  generalize ordB a m = bb
  cases bb
  all_goals
    repeat (first | u_op hr2 hF | u_c stepG_region_end hr2 hF)
    u_cond false hr2 hF
    repeat (first | u_c stepG_seq hr2 hF | u_c stepG_skip hr2 hF | u_c stepG_region_end hr2 hF | u_reg hr2 hF | u_op hr2 hF | u_c stepG_ret' hr2 hF)
    refine Goes.stop (fun w₂ r₂ => ⟨rfl, .bool true, #[], ?_, by simp, rfl, hr2 hF r₂⟩)
    simp [G, stepG, unwind, doReturn, results, Frame.at, base, Try.func3, Try.f3, seen, GStep.after]
end
end Go.Proofs.Ytjofmchipkfnmaa
