/- SolveOrder's call on the machine (own text). -/
import Derived.Test.YtfgipjgjehjijaaLx
namespace Go.Proofs.Ytfgipjgjehjijaa
open Go Go.Conc Go.ConcN Go.RowKit Go.Conc.Lib Go.ConcR.Gen Go.ConcN.Gen
open Go.ConcR (KK wgBlock WgAt stA smA rd wr mk Payload DC0)

noncomputable def bodyS : Code := Try.f9.body.getD .skip
noncomputable def opsS : Array Oper := opsOf (cL (cR (cR bodyS)))
noncomputable def kS : List Item := [.code (cR (cR (cR bodyS)))]
noncomputable def actS (a m : Int) (S : Nat) (v16 v17 v18 v19 : Value) : Act :=
  ⟨#[.int .i64 a, .int .i64 m, undef, undef, .int .i64 0, .bool false, undef, undef, .int .i64 a, .int .i64 m, .bool true, .bool false, undef, .int .i64 a, .slice (some ⟨S, 0, none⟩) 1 1, .int .i64 m, v16, v17, v18, v19, undef, undef, undef, undef], []⟩
noncomputable def cFS (a m : Int) (S : Nat) : Frame := (base 9).at (actS a m S undef undef undef undef) (.inRegion opsS [3, 4, 5, 6, 7, 8, 9, 10, 11] :: kS)
/-- SolveOrder's entry. -/
noncomputable def entO (a m : Int) (cs : List Frame) : Goroutine := G ((base 9).at ⟨#[.int .i64 a, .int .i64 m, undef, undef, undef, undef, undef, undef, undef, undef, undef, undef, undef, undef, undef, undef, undef, undef, undef, undef, undef, undef, undef, undef], []⟩ [.code bodyS]) cs
def HeadAtS (a m : Int) (N : Nat) (W : World) (sz : Nat) (L : List (Nat × Obj)) (cs : List Frame) (g : Goroutine) (w' : World) : Prop :=
  ∃ w1, Fa N W (sz + 1) ((sz, .cells #[.int .i64 a] 3) :: L) w1 ∧ g = headO (cFS a m sz :: cs) ⟨sz, 0, none⟩ 1 1 (sz + 1) m 0 loopO loopO restO undef undef undef undef undef undef undef undef undef undef undef undef undef ∧
    Fa (sz + 1) w1 (sz + 4) [(sz + 3, .cells #[.int .u64 0, .int .u32 0] 64), (sz + 2, .cells (madeCells #[.chan none] 1) 36), (sz + 1, .cells #[.int .i64 m] 3)] w'

section
variable {Sh : Loc → Prop} {B N sz : Nat} {W : World} {L : List (Nat × Obj)} {cs : List Frame}
set_option maxRecDepth 100000 in
set_option maxHeartbeats 8000000 in
theorem preOrder (a m : Int) (hb : (numB a && modB m) = true) (hN : N ≤ sz) (w : World) (hF : Fa N W sz L w) :
    Goes Try.prog true AtRel (DE (EvL Sh B)) (HeadAtS a m N W sz L cs) 400 (entO a m cs) w := by
  simp only [entO, bodyS, Try.f9, Option.getD_some]
  refine goes_join (m := 300) (n := 100) atRel_refl ?_
  repeat (first | u_c stepG_seq Fa.atRel hF | u_c stepG_region_end Fa.atRel hF | u_reg Fa.atRel hF | u_op Fa.atRel hF)
  refine Goes.stop (fun w₉ r₉ => ?_)
  replace hF := hF.atRel r₉
  clear r₉
  refine Goes.call (m := 97) (nf := 200) (Post := fun v w' => v = .bool (numB a && modB m) ∧ Since AtRel w₉ w') terms_b rfl (by rfl) (by k_ne) rfl ?_ (fun v w₁ hp => ?_)
  · walk_nrm
    exact k_inLine terms_b a m _
  obtain ⟨rfl, hs⟩ := hp
  replace hF := hF.since hs
  clear hs
  rw [hb]
  walk_nrm
  u_op Fa.atRel hF
  u_c stepG_region_end Fa.atRel hF
  u_cond false Fa.atRel hF
  u_c stepG_skip Fa.atRel hF
  u_c stepG_seq Fa.atRel hF
  u_reg Fa.atRel hF
  u_op Fa.atRel hF
  ((refine Goes.step rfl (fun _ h₁ => ?_); replace hF := Fa.atRel hF h₁; clear h₁)
   have hs := Fa.size hF
   refine goes_oper_k rfl rfl (by k_ne) (fun K hK => ?_)
   go_simp
   refine hK _ _ ⟨fun e he => ?_, ?_⟩
   · have hm := mem_listed he
     simp [go_sem, *] at hm
   clear hK K
   replace hF := Fa.alloc hF (by omega) (.cells #[.int .i64 a] 3)
   clear hs)
  u_op Fa.atRel hF
  refine Goes.step rfl (fun w₈ r₈ => ?_)
  replace hF := hF.atRel r₈
  clear r₈
  refine goes_call rfl rfl (by k_ne) rfl Try.func21 (by rfl) rfl ⟨by u_nil, ?_⟩
  have hT := toHead (Sh := Sh) (B := B) (cs := cFS a m sz :: cs) ⟨sz, 0, none⟩ 1 1 m (by omega) (by omega) w₈
  walk_nrmf Try.f21
  refine goes_more (m := 40) 47 (goes_mono (fun g w' h => ?_) hT)
  obtain ⟨rfl, h⟩ := h
  rw [hF.size] at h
  exact ⟨w₈, hF, by rw [hF.size], h⟩
end

/-- What stands behind the join. -/
structure KnO (S : Nat) (W : World) (o : Obj) (w : World) : Prop where
  size : w.heap.size = S + 8
  old : ∀ b, b < S + 1 → w.heap[b]? = W.heap[b]?
  arr : w.heap[S + 2]? = some (.cells #[.chan (some (S + 5))] 36)
  ch : w.heap[S + 5]? = some o
  tape : w.tape = W.tape
  os : w.os = W.os
  output : w.output = W.output
theorem KnO.rely {S : Nat} {W w w₁ : World} {o : Obj} (h : KnO S W o w) (r : AtRel w w₁) : KnO S W o w₁ := by
  obtain ⟨d, rfl⟩ := r
  exact ⟨h.size, h.old, h.arr, h.ch, h.tape, h.os, h.output⟩
noncomputable def atO (a m : Int) (S : Nat) (cs : List Frame) : Goroutine :=
  G ((base 9).at (actS a m S (.slice (some ⟨S + 2, 0, none⟩) 1 1) (.pointer (some ⟨S + 2, 0, none⟩)) (.chan (some (S + 5))) undef) (.inRegion opsS [6, 7, 8, 9, 10, 11] :: kS)) cs
noncomputable def gotO (a m : Int) (S : Nat) (cs : List Frame) (v : Value) : Goroutine :=
  G ((base 9).at (actS a m S (.slice (some ⟨S + 2, 0, none⟩) 1 1) (.pointer (some ⟨S + 2, 0, none⟩)) (.chan (some (S + 5))) v) (.inRegion opsS [7, 8, 9, 10, 11] :: kS)) cs
theorem atO_comm (a m : Int) (S : Nat) (cs : List Frame) (w : World) : stepG Try.prog true (atO a m S cs) w = .comm (atO a m S cs) #[rcase (S + 5) (.int .i64 0)] true (.recv true) w #[] := by
  simp only [atO, actS, opsS, kS, bodyS, opsOf, cR, cL, Try.f9, Option.getD_some]
  rw [stepG_comm (cases := #[rcase (S + 5) (.int .i64 0)]) (blocking := true) (shape := .recv true) (w' := w) rfl (by rfl) (by k_ne) (by simp [go_sem, rcase]), listed_none (by simp [go_sem])]
theorem served_atO (a m : Int) (S : Nat) (cs : List Frame) (v : Value) : Go.Conc.served (atO a m S cs) v = gotO a m S cs v := by
  unfold atO gotO Go.Conc.served
  simp only [G]
  rw [Frame.finish_at]
  rfl

section
variable {Sh : Loc → Prop} {B N hi : Nat} {W : World} {L : List (Nat × Obj)} {b₀ : Frame} {a₀ : Act} {ops₀ : Array Oper} {i₀ : Nat} {rest₀ : List Nat} {k₀ : List Item} {cs : List Frame}
set_option maxRecDepth 100000 in
set_option maxHeartbeats 8000000 in
theorem backOrder (a m : Int) (S : Nat) (W : World) (o : Obj) (hSh : ¬ Sh (.cell ⟨S + 2, 0, none⟩)) (hB : S + 2 < B) (xs : Nat → Int) (w : World) (hF : KnO S W o w) :
    Goes Try.prog true AtRel (DE (EvL Sh B)) (fun g w' => g = atO a m S cs ∧ KnO S W o w') 60 (backO 1 (S + 1) m xs (cFS a m S :: cs) ⟨S, 0, none⟩ 1) w := by
  simp only [backO, waitA, waitOps, waitK, opsOf, restO, bodyO, cR, cL, cFS, actS, opsS, kS, bodyS, atO, Try.f21, Try.f9, Option.getD_some]
  walk_nrm
  u_c stepG_region_end KnO.rely hF
  u_c stepG_seq KnO.rely hF
  u_reg KnO.rely hF
  u_op KnO.rely hF
  u_op KnO.rely hF
  u_c stepG_region_end KnO.rely hF
  u_c stepG_ret' KnO.rely hF
  u_leave1 Try.func21 KnO.rely hF
  u_op KnO.rely hF
  refine Goes.step rfl (fun w₉ r₉ => ?_)
  replace hF := hF.rely r₉
  clear r₉
  have hc : w₉.cell? ⟨S + 2, 0, none⟩ = some (.chan (some (S + 5))) := by simp [World.cell?, hF.arr]
  refine goes_oper_k rfl rfl (by k_ne) (fun K hK => ?_)
  go_simp
  refine hK _ _ ⟨fun e he => ?_, ?_⟩
  · have hm := mem_listed he
    simp [go_sem, *] at hm
    subst hm
    exact evL_cell _ _ hSh hB
  clear hK K
  refine Goes.stop (fun w₉ r₉ => ?_)
  exact ⟨rfl, hF.rely r₉⟩

set_option maxRecDepth 100000 in
set_option maxHeartbeats 8000000 in
theorem endOrder (a m : Int) (S : Nat) (I : World → Prop) (hI : ∀ {w w₁ : World}, I w → AtRel w w₁ → I w₁) (k : Int) (ok : Bool) (w : World) (hF : I w) :
    Goes Try.prog true AtRel (DE (EvL Sh B)) (fun g w' => g = retG b₀ a₀ ops₀ i₀ rest₀ k₀ cs (.tuple #[.int .i64 k, .bool ok]) ∧ I w') 60 (gotO a m S (b₀.at a₀ (.inRegion ops₀ (i₀ :: rest₀) :: k₀) :: cs) (.tuple #[.int .i64 k, .bool ok])) w := by
  simp only [gotO, actS, opsS, kS, bodyS, opsOf, cR, cL, Try.f9, Option.getD_some]
  repeat (first | u_c stepG_seq hI hF | u_c stepG_region_end hI hF | u_reg hI hF | u_op hI hF | u_c stepG_ret' hI hF)
  u_in hI hF
  refine goes_leave2 rfl rfl Try.func9 rfl ⟨by u_nil, ?_⟩
  simp only [List.getElem?_toArray, Array.getD_eq_getD_getElem?, List.getElem?_cons_succ, List.getElem?_cons_zero, Option.getD_some]
  refine Goes.stop (fun w₉ r₉ => ?_)
  exact ⟨rfl, hI hF r₉⟩

set_option maxRecDepth 100000 in
set_option maxHeartbeats 8000000 in
theorem earlyOrder (a m : Int) (hb : (numB a && modB m) = false) {sz : Nat} (w : World) (hF : Fa N W sz L w) :
    Goes Try.prog true AtRel (DE (EvL Sh B)) (fun g w' => g = retG b₀ a₀ ops₀ i₀ rest₀ k₀ cs (.tuple #[.int .i64 0, .bool false]) ∧ Fa N W sz L w') 400 (entO a m (b₀.at a₀ (.inRegion ops₀ (i₀ :: rest₀) :: k₀) :: cs)) w := by
  simp only [entO, bodyS, Try.f9, Option.getD_some]
  refine goes_join (m := 300) (n := 100) atRel_refl ?_
  repeat (first | u_c stepG_seq Fa.atRel hF | u_c stepG_region_end Fa.atRel hF | u_reg Fa.atRel hF | u_op Fa.atRel hF)
  refine Goes.stop (fun w₉ r₉ => ?_)
  replace hF := hF.atRel r₉
  clear r₉
  refine Goes.call (m := 97) (nf := 200) (Post := fun v w' => v = .bool (numB a && modB m) ∧ Since AtRel w₉ w') terms_b rfl (by rfl) (by k_ne) rfl ?_ (fun v w₁ hp => ?_)
  · walk_nrm
    exact k_inLine terms_b a m _
  obtain ⟨rfl, hs⟩ := hp
  replace hF := hF.since hs
  clear hs
  rw [hb]
  walk_nrm
  u_op Fa.atRel hF
  u_c stepG_region_end Fa.atRel hF
  u_cond true Fa.atRel hF
  repeat (first | u_c stepG_seq Fa.atRel hF | u_c stepG_region_end Fa.atRel hF | u_reg Fa.atRel hF | u_op Fa.atRel hF | u_c stepG_ret' Fa.atRel hF)
  u_in Fa.atRel hF
  refine goes_leave2 rfl rfl Try.func9 rfl ⟨by u_nil, ?_⟩
  simp only [List.getElem?_toArray, Array.getD_eq_getD_getElem?, List.getElem?_cons_succ, List.getElem?_cons_zero, Option.getD_some]
  refine Goes.stop (fun w₂ r₂ => ?_)
  exact ⟨rfl, hF.atRel r₂⟩
end
end Go.Proofs.Ytfgipjgjehjijaa
