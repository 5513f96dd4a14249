/- SolveUnits beside others: from its entry (own text). -/
import Derived.Test.YtfgipjgjehjijaaLj
namespace Go.Proofs.Ytfgipjgjehjijaa
open Go Go.Conc Go.ConcN Go.RowKit Go.Conc.Lib Go.ConcR.Gen Go.ConcN.Gen
open Go.ConcR (KK wgBlock WgAt stA smA rd wr mk Payload DC0)

section
variable {Sh : Loc → Prop} {B N sz : Nat} {W : World} {L : List (Nat × Obj)} {b₀ : Frame} {a₀ : Act} {ops₀ : Array Oper} {i₀ : Nat} {rest₀ : List Nat} {k₀ : List Item} {cs : List Frame}
set_option maxRecDepth 100000 in
set_option maxHeartbeats 8000000 in
/-- SolveUnits(m), m a modulus. -/
theorem unitsWalk {S : Goroutine → World → Prop} {n : Nat} {m : Int} (hm : 1 ≤ m) (hm2 : m ≤ 1000) (hN : N ≤ sz) (hSh : ∀ a : Addr, Sh (.cell a) → a.block < sz) (hSo : ∀ b, sz ≤ b → ¬ Sh (.obj b)) (hB : sz + 10 < B) (hL : ∀ q ∈ L, q.1 < sz)
    (next : ∀ w', Fa N W (sz + 10) L w' → Goes Try.prog true AtRel (DE (EvL Sh B)) S n (G (b₀.at (a₀.put ((ops₀[i₀]?).bind (·.dst)) (.tuple #[.int .i64 (unQ m), .bool true])) (.inRegion ops₀ rest₀ :: k₀)) cs) w') (w : World) (hF : Fa N W sz L w) :
    Goes Try.prog true AtRel (DE (EvL Sh B)) S (n + 30 + 30 + m.toNat * (102100 + 40) + 160 + 3 + 400)
      (G ((base 12).at ⟨#[.int .i64 m, undef, undef, undef, undef, undef, undef, undef, undef, undef, undef, undef, undef, undef, undef, undef, undef, undef, undef, undef, undef], []⟩ [.code bodyU]) (b₀.at a₀ (.inRegion ops₀ (i₀ :: rest₀) :: k₀) :: cs)) w := by
  have hT := fun w => tailU (S := S) (n := n) (N := N) (W := W) (L := L) (b₀ := b₀) (a₀ := a₀) (ops₀ := ops₀) (i₀ := i₀) (rest₀ := rest₀) (k₀ := k₀) (cs := cs) hm hm2 hN hSh hSo hB hL next w
  generalize hK : n + 30 + 30 + m.toNat * (102100 + 40) + 160 + 3 = K at hT ⊢
  have evm : EvL Sh B ⟨.cell ⟨sz, 0, none⟩, false, false⟩ := evL_cell _ _ (fun h => absurd (hSh _ h) (Nat.lt_irrefl sz)) (by show sz < B; omega)
  have evu : EvL Sh B ⟨.cell ⟨sz + 1, 0, none⟩, true, false⟩ := evL_cell _ _ (fun h => absurd (hSh _ h) (by show ¬ sz + 1 < sz; omega)) (by show sz + 1 < B; omega)
  have hmod : modB m = true := modB_iff.2 ⟨hm, hm2⟩
  have hwr : IntKind.i64.wrap (m + 1) = m + 1 := by rw [IntKind.wrap_i64]; omega
  simp only [bodyU, Try.f12, Option.getD_some]
  u_c stepG_seq Fa.atRel hF
  u_reg Fa.atRel hF
  ((refine Goes.step rfl (fun _ h₁ => ?_); replace hF := Fa.atRel hF h₁; clear h₁)
   have hs := Fa.size hF
   refine goes_oper_k rfl rfl (by k_ne) (fun K hK => ?_)
   go_simp
   refine hK _ _ ⟨fun e he => ?_, ?_⟩
   · have hm := mem_listed he
     simp [go_sem, *] at hm
   clear hK K
   replace hF := Fa.alloc hF (by omega) (.cells #[.int .i64 m] 3)
   clear hs)
  u_op Fa.atRel hF
  u_op Fa.atRel hF
  u_c stepG_region_end Fa.atRel hF
  u_c stepG_seq Fa.atRel hF
  u_c stepG_seq Fa.atRel hF
  u_reg Fa.atRel hF
  ((refine Goes.step rfl (fun _ h₁ => ?_); replace hF := Fa.atRel hF h₁; clear h₁)
   have _ := hF.cellOf (b := sz) (k := 0) (List.mem_cons_self ..) rfl
   refine goes_oper_k rfl rfl (by k_ne) (fun K hK => ?_)
   go_simp
   refine hK _ _ ⟨fun e he => ?_, ?_⟩
   · have hm := mem_listed he
     simp [go_sem, *] at hm
     first | (subst hm; exact evm) | (rcases hm with hm | hm <;> (subst hm; exact evm))
   clear hK K)
  rename_i w₉ _
  refine Goes.call (m := K + 347) (nf := 40) (Post := fun v w' => v = .bool (modB m) ∧ Since AtRel w₉ w') terms_b rfl (by rfl) (by k_ne) rfl ?_ (fun v w₁ hp => ?_)
  · walk_nrm
    exact k_inModuli terms_b m _
  obtain ⟨rfl, hs⟩ := hp
  replace hF := hF.since hs
  clear hs
  rw [hmod]
  walk_nrm
  u_op Fa.atRel hF
  u_c stepG_region_end Fa.atRel hF
  u_cond false Fa.atRel hF
  u_c stepG_skip Fa.atRel hF
  u_c stepG_seq Fa.atRel hF
  u_reg Fa.atRel hF
  ((refine Goes.step rfl (fun _ h₁ => ?_); replace hF := Fa.atRel hF h₁; clear h₁)
   have hs := Fa.size hF
   refine goes_oper_k rfl rfl (by k_ne) (fun K hK => ?_)
   go_simp
   refine hK _ _ ⟨fun e he => ?_, ?_⟩
   · have hm := mem_listed he
     simp [go_sem, *] at hm
   clear hK K
   replace hF := Fa.alloc hF (by omega) (.cells #[.int .i64 0] 3)
   clear hs)
  (refine Goes.step rfl (fun _ h₁ => ?_); replace hF := Fa.atRel hF h₁; clear h₁)
  have hc := hF.cellOf (k := 0) (List.mem_cons_self ..) rfl
  have hz := hF.thaw (k := 0) (List.mem_cons_self ..)
  refine goes_oper_k rfl rfl (by k_ne) (fun K' hK' => ?_)
  go_simp
  refine hK' _ _ ⟨fun e he => ?_, ?_⟩
  · have hm := mem_listed he
    simp [go_sem, *] at hm
    subst hm
    exact evu
  clear hK' K' hc hz
  have hne : ∀ q ∈ ((sz, Obj.cells #[.int .i64 m] 3) :: L), q.1 ≠ sz + 1 := fun q hq => by have := lt_cons (o := Obj.cells #[.int .i64 m] 3) hL q hq; omega
  replace hF := hF.set (k := 0) (v := .int .i64 0) (by omega) hne
  have e1 : #[Value.int .i64 0].setIfInBounds 0 (.int .i64 0) = #[.int .i64 0] := by simp
  rw [e1] at hF
  clear e1 hne
  u_c stepG_region_end Fa.atRel hF
  u_c stepG_seq Fa.atRel hF
  u_c stepG_seq Fa.atRel hF
  (refine Goes.step rfl (fun _ h₁ => ?_); replace hF := Fa.atRel hF h₁; clear h₁)
  rw [stepG_region_draw]
  simp only [goes_go]
  refine ⟨by u_nil, ?_⟩
  rename_i wd
  replace hF := hF.atRel (w₁ := { wd with drawn := wd.drawn + 1 }) ⟨_, rfl⟩
  have hmo : Try.prog.follows .mixedOrders = true := by kernel_rfl
  rw [hmo]
  have hsch := sched4 (wd.tape wd.drawn (.order (base 12).fn 4))
  have hA := fun n' a₀' ops₀' i₀' rest₀' k₀' => wholeClass01 (S := S) (n := n') (Sh := Sh) (B := B) (N := N) (sz := sz + 1 + 1) (W := W) (L := (sz + 1, .cells #[.int .i64 0] 3) :: (sz, .cells #[.int .i64 m] 3) :: L) (b₀ := base 12) (a₀ := a₀') (ops₀ := ops₀') (i₀ := i₀') (rest₀ := rest₀') (k₀ := k₀')
    (cs := b₀.at a₀ (.inRegion ops₀ (i₀ :: rest₀) :: k₀) :: cs) (by omega) (fun a h => by have := hSh a h; omega) (by omega) (lt_cons (lt_cons hL))
  have hB2 := fun n' a₀' ops₀' i₀' rest₀' k₀' => numbers01 (S := S) (n := n') (Sh := Sh) (B := B) (N := N) (sz := sz + 4) (W := W) (L := (sz + 1, .cells #[.int .i64 0] 3) :: (sz, .cells #[.int .i64 m] 3) :: L) (b₀ := base 12) (a₀ := a₀') (ops₀ := ops₀') (i₀ := i₀') (rest₀ := rest₀') (k₀ := k₀')
    (cs := b₀.at a₀ (.inRegion ops₀ (i₀ :: rest₀) :: k₀) :: cs) (m + 1) (by omega)
  simp only [opsU, bodyU, blkU, restU, cR, cL, opsOf, tmU, Try.f12, Try.f25, Try.f26, Option.getD_some] at hsch hA hB2 hT
  rcases hsch with h | h | h
  · rw [h]
    (refine Goes.step rfl (fun _ h₁ => ?_); replace hF := Fa.atRel hF h₁; clear h₁)
    refine goes_call rfl rfl (by k_ne) rfl Try.func25 (by rfl) rfl ⟨by u_nil, ?_⟩
    walk_nrmf Try.f25
    refine hA _ _ _ _ _ _ (fun w' hF => ?_) _ hF
    walk_nrm
    ((refine Goes.step rfl (fun _ h₁ => ?_); replace hF := Fa.atRel hF h₁; clear h₁)
     have _ := hF.cellOf (b := sz) (k := 0) (c := #[.int .i64 m]) (ty := 3) (by simp) rfl
     refine goes_oper_k rfl rfl (by k_ne) (fun K hK => ?_)
     go_simp
     refine hK _ _ ⟨fun e he => ?_, ?_⟩
     · have hm := mem_listed he
       simp [go_sem, *] at hm
       first | (subst hm; exact evm) | (rcases hm with hm | hm <;> (subst hm; exact evm))
     clear hK K)
    u_op Fa.atRel hF
    (refine Goes.step rfl (fun _ h₁ => ?_); replace hF := Fa.atRel hF h₁; clear h₁)
    refine goes_call rfl rfl (by k_ne) rfl Try.func26 (by rfl) rfl ⟨by u_nil, ?_⟩
    walk_nrmf Try.f26
    refine hB2 _ _ _ _ _ _ (fun w' hF => ?_) _ hF
    walk_nrm
    exact goes_more _ (hT _ hF)
  · rw [h]
    ((refine Goes.step rfl (fun _ h₁ => ?_); replace hF := Fa.atRel hF h₁; clear h₁)
     have _ := hF.cellOf (b := sz) (k := 0) (c := #[.int .i64 m]) (ty := 3) (by simp) rfl
     refine goes_oper_k rfl rfl (by k_ne) (fun K hK => ?_)
     go_simp
     refine hK _ _ ⟨fun e he => ?_, ?_⟩
     · have hm := mem_listed he
       simp [go_sem, *] at hm
       first | (subst hm; exact evm) | (rcases hm with hm | hm <;> (subst hm; exact evm))
     clear hK K)
    (refine Goes.step rfl (fun _ h₁ => ?_); replace hF := Fa.atRel hF h₁; clear h₁)
    refine goes_call rfl rfl (by k_ne) rfl Try.func25 (by rfl) rfl ⟨by u_nil, ?_⟩
    walk_nrmf Try.f25
    refine hA _ _ _ _ _ _ (fun w' hF => ?_) _ hF
    walk_nrm
    u_op Fa.atRel hF
    (refine Goes.step rfl (fun _ h₁ => ?_); replace hF := Fa.atRel hF h₁; clear h₁)
    refine goes_call rfl rfl (by k_ne) rfl Try.func26 (by rfl) rfl ⟨by u_nil, ?_⟩
    walk_nrmf Try.f26
    refine hB2 _ _ _ _ _ _ (fun w' hF => ?_) _ hF
    walk_nrm
    exact goes_more _ (hT _ hF)
  · rw [h]
    ((refine Goes.step rfl (fun _ h₁ => ?_); replace hF := Fa.atRel hF h₁; clear h₁)
     have _ := hF.cellOf (b := sz) (k := 0) (c := #[.int .i64 m]) (ty := 3) (by simp) rfl
     refine goes_oper_k rfl rfl (by k_ne) (fun K hK => ?_)
     go_simp
     refine hK _ _ ⟨fun e he => ?_, ?_⟩
     · have hm := mem_listed he
       simp [go_sem, *] at hm
       first | (subst hm; exact evm) | (rcases hm with hm | hm <;> (subst hm; exact evm))
     clear hK K)
    u_op Fa.atRel hF
    (refine Goes.step rfl (fun _ h₁ => ?_); replace hF := Fa.atRel hF h₁; clear h₁)
    refine goes_call rfl rfl (by k_ne) rfl Try.func25 (by rfl) rfl ⟨by u_nil, ?_⟩
    walk_nrmf Try.f25
    refine hA _ _ _ _ _ _ (fun w' hF => ?_) _ hF
    walk_nrm
    (refine Goes.step rfl (fun _ h₁ => ?_); replace hF := Fa.atRel hF h₁; clear h₁)
    refine goes_call rfl rfl (by k_ne) rfl Try.func26 (by rfl) rfl ⟨by u_nil, ?_⟩
    walk_nrmf Try.f26
    refine hB2 _ _ _ _ _ _ (fun w' hF => ?_) _ hF
    walk_nrm
    exact goes_more _ (hT _ hF)
end
end Go.Proofs.Ytfgipjgjehjijaa
