/- The iterator of a class, beside others (own text). -/
import Derived.Test.YtjofmchipkfnmaaKy
namespace Go.Proofs.Ytjofmchipkfnmaa
open Go Go.Conc Go.ConcN Go.RowKit Go.Conc.Lib Go.ConcR.Gen Go.ConcN.Gen
open Go.ConcR (KK wgBlock WgAt stA smA rd wr mk Payload DC0)

section
variable {Sh : Loc → Prop} {B N sz : Nat} {W : World} {L : List (Nat × Obj)} {b₀ : Frame} {a₀ : Act} {ops₀ : Array Oper} {i₀ : Nat} {rest₀ : List Nat} {k₀ : List Item} {cs : List Frame}
set_option maxRecDepth 100000 in
set_option maxHeartbeats 4000000 in
/-- first(1) of that class. -/
theorem first01 {S : Goroutine → World → Prop} {n : Nat} (hN : N ≤ sz) (hSh : ∀ a : Addr, Sh (.cell a) → a.block < sz) (hB : sz + 1 < B)
    (next : ∀ w', Fa N W (sz + 1) L w' → Goes Try.prog true AtRel (DE (EvL Sh B)) S n (G (b₀.at (a₀.put ((ops₀[i₀]?).bind (·.dst)) (.int .i64 1)) (.inRegion ops₀ rest₀ :: k₀)) cs) w') (w : World) (hF : Fa N W sz L w) :
    Goes Try.prog true AtRel (DE (EvL Sh B)) S (n + 120)
      (G ((base 33).at ⟨#[.agg #[.int .i64 0, .int .i64 1], .int .i64 1, undef, undef, undef, undef, undef, undef, undef, undef, undef, undef, undef, undef], []⟩ [.code (Try.f33.body.getD .skip)]) (b₀.at a₀ (.inRegion ops₀ (i₀ :: rest₀) :: k₀) :: cs)) w := by
  simp only [Try.f33, Option.getD_some]
  have h1 : IntKind.i64.wrap (-1) = -1 := by rw [IntKind.wrap_i64]; omega
  have h2 : IntKind.i64.wrap (1 + -1 % 1) = 1 := by rw [IntKind.wrap_i64]; omega
  have hev : ∀ (o : Nat) (wr : Bool), EvL Sh B ⟨.cell ⟨sz, o, none⟩, wr, false⟩ := fun o wr => evL_cell _ _ (fun h => by have := hSh _ h; simp at this) (by simp; omega)
  u_c stepG_seq Fa.atRel hF
  u_reg Fa.atRel hF
  ((refine Goes.step rfl (fun _ h₁ => ?_); replace hF := Fa.atRel hF h₁; clear h₁)
   have hs := Fa.size hF
   refine goes_oper_k rfl rfl (by k_ne) (fun K hK => ?_)
   go_simp
   refine hK _ _ ⟨fun e he => ?_, ?_⟩
   · have hm := mem_listed he
     simp [go_sem, *] at hm
   clear hK K
   replace hF := Fa.alloc hF (by omega) (.cells #[.int .i64 0, .int .i64 1] 38)
   clear hs)
  u_op Fa.atRel hF
  u_c stepG_region_end Fa.atRel hF
  u_c stepG_seq Fa.atRel hF
  u_reg Fa.atRel hF
  u_op Fa.atRel hF
  u_op Fa.atRel hF
  ((refine Goes.step rfl (fun _ h₁ => ?_); replace hF := Fa.atRel hF h₁; clear h₁)
   have _ := hF.cellOf (b := sz) (k := 0) (List.mem_cons_self ..) rfl
   refine goes_oper_k rfl rfl (by k_ne) (fun K hK => ?_)
   go_simp
   refine hK _ _ ⟨fun e he => ?_, ?_⟩
   · have hm := mem_listed he
     simp [go_sem, *] at hm
     first | (subst hm; exact (hev _ _)) | (rcases hm with hm | hm <;> (subst hm; exact (hev _ _)))
   clear hK K)
  u_op Fa.atRel hF
  u_op Fa.atRel hF
  u_op Fa.atRel hF
  ((refine Goes.step rfl (fun _ h₁ => ?_); replace hF := Fa.atRel hF h₁; clear h₁)
   have _ := hF.cellOf (b := sz) (k := 1) (List.mem_cons_self ..) rfl
   refine goes_oper_k rfl rfl (by k_ne) (fun K hK => ?_)
   go_simp
   refine hK _ _ ⟨fun e he => ?_, ?_⟩
   · have hm := mem_listed he
     simp [go_sem, *] at hm
     first | (subst hm; exact (hev _ _)) | (rcases hm with hm | hm <;> (subst hm; exact (hev _ _)))
   clear hK K)
  rename_i w₉ _
  refine Goes.call (m := n + 43) (nf := 60) (Post := fun v w' => v = .int .i64 (-1 % 1) ∧ Since AtRel w₉ w') terms_b rfl (by rfl) (by k_ne) rfl ?_ (fun v w₁ hp => ?_)
  · walk_nrm
    exact k_restOf terms_b (-1) 1 (by omega) (by omega) _
  obtain ⟨rfl, hs⟩ := hp
  replace hF := hF.since hs
  clear hs
  walk_nrm
  u_op Fa.atRel hF
  u_op Fa.atRel hF
  u_c stepG_region_end Fa.atRel hF
  u_c stepG_ret' Fa.atRel hF
  (refine Goes.step rfl (fun _ h₁ => ?_); replace hF := Fa.atRel hF h₁; clear h₁)
  refine goes_leave1 rfl rfl Try.func33 rfl ⟨by u_nil, ?_⟩
  simp only [List.getElem?_toArray, Array.getD_eq_getD_getElem?, List.getElem?_cons_succ, List.getElem?_cons_zero, Option.getD_some]
  exact goes_more 38 (next _ (hF.weak fun q hq => List.mem_cons_of_mem _ hq))

theorem goes_cast {P : Program} {main : Bool} {R : World → World → Prop} {D : World → World → Array Event → Prop} {S : Goroutine → World → Prop} {n n' : Nat} {g : Goroutine} {w : World} (e : n = n') (h : Goes P main R D S n g w) : Goes P main R D S n' g w := e ▸ h
/-! ### the iterator -/
noncomputable def bodyI : Code := Try.f32.body.getD .skip
noncomputable def loopI : Code := cR (cR (cR bodyI))
/-- The iterator's frame at the head of its loop. -/
noncomputable def headI (cs : List Frame) (l C : Nat) (x : Int) (u4 u6 u7 u8 u9 u10 u11 u12 u13 u14 u15 u16 u17 u18 u19 : Value) : Goroutine :=
  G ((base 32).at ⟨#[.func (.yield l) #[] #[], .pointer (some ⟨C, 0, none⟩), .pointer (some ⟨C + 1, 0, none⟩), .pointer (some ⟨C + 1 + 1, 0, none⟩), u4, .int .i64 x, u6, u7, u8, u9, u10, u11, u12, u13, u14, u15, u16, u17, u18, u19], []⟩ [.code loopI, .inLoop loopI, .inBlock 0]) cs

/-- What the iterator asks of what is kept from round to round. -/
structure Keeps (Sh : Loc → Prop) (B : Nat) (l C : Nat) (m : Int) (r : Loop) (p : Tmp) (J : Nat → World → Prop) : Prop where
  rely : ∀ {k : Nat} {w w₁ : World}, J k w → AtRel w w₁ → J k w₁
  c1 : ∀ k w, J k w → w.cell? ⟨C, 1, none⟩ = some (.int .i64 1)
  c2 : ∀ k w, J k w → w.cell? ⟨C + 1 + 1, 0, none⟩ = some (.int .i64 (m + 1))
  record : ∀ k w, J k w → w.heap[l]? = some (.loop r)
  par : r.params = #[p]
  sh : ∀ a : Addr, C ≤ a.block → ¬ Sh (.cell a)
  lo : C + 2 < B
  ol : ¬ Sh (.obj l)
  lB : l < B

set_option maxRecDepth 100000 in
set_option maxHeartbeats 4000000 in
/-- The loop of the iterator, from the number k + 1 on. -/
theorem iterLoop {S : Goroutine → World → Prop} {n nr l C : Nat} {m : Int} {r : Loop} {p : Tmp} {J : Nat → World → Prop} {b₁ : Frame} {a₁ : Act} {k₁ : List Item} (hm : 1 ≤ m) (hm2 : m ≤ 1000) (H : Keeps Sh B l C m r p J)
    (round : ∀ (k : Nat) (w : World) (c : Frame) (n' : Nat), (k : Int) < m → J k w → (∀ w', J (k + 1) w' → Goes Try.prog true AtRel (DE (EvL Sh B)) S n' (G (c.finish (.bool true)) (b₁.at a₁ (.inRangeFunc l :: k₁) :: cs)) w') →
      Goes Try.prog true AtRel (DE (EvL Sh B)) S (n' + nr) (G (Frame.round l r.fn (r.tmps.setIfInBounds p (.int .i64 ((k : Int) + 1))) r.assign r.body .normal) (c :: b₁.at a₁ (.inRangeFunc l :: k₁) :: cs)) w)
    (next : ∀ w', J m.toNat w' → Goes Try.prog true AtRel (DE (EvL Sh B)) S n (G (b₁.at a₁ (.endRangeFunc l :: k₁)) cs) w') :
    ∀ (q k : Nat), (k : Int) + q = m → ∀ (u4 u6 u7 u8 u9 u10 u11 u12 u13 u14 u15 u16 u17 u18 u19 : Value) (w : World), J k w →
      Goes Try.prog true AtRel (DE (EvL Sh B)) S (n + 30 + q * (nr + 40)) (headI (b₁.at a₁ (.inRangeFunc l :: k₁) :: cs) l C ((k : Int) + 1) u4 u6 u7 u8 u9 u10 u11 u12 u13 u14 u15 u16 u17 u18 u19) w := by
  intro q
  have rl : ∀ {k : Nat} {w w₁ : World}, J k w → AtRel w w₁ → J k w₁ := H.rely
  have evE : EvL Sh B ⟨.cell ⟨C + 1 + 1, 0, none⟩, false, false⟩ := evL_cell _ _ (H.sh _ (by show C ≤ C + 1 + 1; omega)) (by have := H.lo; show C + 1 + 1 < B; omega)
  have evM : EvL Sh B ⟨.cell ⟨C, 1, none⟩, false, false⟩ := evL_cell _ _ (H.sh _ (Nat.le_refl _)) (by have := H.lo; show C < B; omega)
  have evL : EvL Sh B ⟨.obj l, false, false⟩ := ⟨fun x hx hs => by simp [MemAct.ofEvent, MemAct.touch?] at hx; subst hx; exact absurd hs H.ol, by simp, by simp, H.lB⟩
  induction q with
  | zero =>
    intro k hk u4 u6 u7 u8 u9 u10 u11 u12 u13 u14 u15 u16 u17 u18 u19 w hF
    have hlt : ¬ ((k : Int) + 1 < m + 1) := by omega
    have HK := Lib.hid (show k = m.toNat by omega)
    clear hk
    rw [Nat.zero_mul, Nat.add_zero]
    simp only [headI, loopI, bodyI, cR, Try.f32, Option.getD_some]
    u_c stepG_seq rl hF
    u_c stepG_seq rl hF
    u_reg rl hF
    u_op rl hF
    u_in rl hF
    have hc := H.c2 _ _ hF
    refine goes_oper_k rfl rfl (by k_ne) (fun K hK => ?_)
    go_simp
    refine hK _ _ ⟨fun e he => ?_, ?_⟩
    · have hm := mem_listed he
      simp [go_sem, *] at hm
      subst hm
      exact evE
    clear hK K hc
    u_op rl hF
    u_c stepG_region_end rl hF
    u_cond false rl hF
    u_exit rl hF
    u_c stepG_end rl hF
    u_in rl hF
    rw [stepG_leave rfl rfl Try.func32 (results_none (by rfl) _ _ _) (events_results_none (by rfl) _ _), finish_inRange]
    refine ⟨by u_nil, ?_⟩
    have hF' : J m.toNat _ := HK.out ▸ hF
    exact goes_more _ (next _ hF')
  | succ q ih =>
    intro k hk u4 u6 u7 u8 u9 u10 u11 u12 u13 u14 u15 u16 u17 u18 u19 w hF
    have hlt : (k : Int) + 1 < m + 1 := by omega
    have hnum : n + 30 + (q + 1) * (nr + 40) = (n + 30 + q * (nr + 40) + nr) + 40 := by rw [Nat.succ_mul]; omega
    have HK := Lib.hid (show (k : Int) < m ∧ ((k + 1 : Nat) : Int) + q = m by omega)
    clear hk
    have hwr : IntKind.i64.wrap ((k : Int) + 1 + 1) = (k : Int) + 1 + 1 := by rw [IntKind.wrap_i64]; omega
    rw [hnum]
    simp only [headI, loopI, bodyI, cR, Try.f32, Option.getD_some] at ih ⊢
    u_c stepG_seq rl hF
    u_c stepG_seq rl hF
    u_reg rl hF
    u_op rl hF
    u_in rl hF
    have hc := H.c2 _ _ hF
    refine goes_oper_k rfl rfl (by k_ne) (fun K hK => ?_)
    go_simp
    refine hK _ _ ⟨fun e he => ?_, ?_⟩
    · have hm := mem_listed he
      simp [go_sem, *] at hm
      subst hm
      exact evE
    clear hK K hc
    u_op rl hF
    u_c stepG_region_end rl hF
    u_cond true rl hF
    u_c stepG_skip rl hF
    u_c stepG_seq rl hF
    u_c stepG_block rl hF
    u_c stepG_seq rl hF
    u_reg rl hF
    u_op rl hF
    u_op rl hF
    u_in rl hF
    rw [sG_yield (r := r) (p := p) (v := .int .i64 ((k : Int) + 1)) rfl (by rfl) (by k_ne) rfl rfl rfl (H.record _ _ hF) H.par]
    simp only [goes_go]
    refine ⟨fun e he => ?_, ?_⟩
    · rw [listed_yield rfl rfl rfl (H.record _ _ hF) H.par he]
      exact evL
    refine goes_cast (show n + 30 + q * (nr + 40) + 24 + nr = _ by omega) (round k _ _ _ HK.out.1 hF fun w' hF => ?_)
    rw [Frame.finish_at]
    walk_nrm
    u_op rl hF
    u_c stepG_region_end rl hF
    u_cond false rl hF
    u_c stepG_skip rl hF
    u_c stepG_inBlock rl hF
    u_reg rl hF
    u_op rl hF
    u_op rl hF
    u_in rl hF
    have hc := H.c1 _ _ hF
    refine goes_oper_k rfl rfl (by k_ne) (fun K hK => ?_)
    go_simp
    refine hK _ _ ⟨fun e he => ?_, ?_⟩
    · have hm := mem_listed he
      simp [go_sem, *] at hm
      subst hm
      exact evM
    clear hK K hc
    u_op rl hF
    u_op rl hF
    u_c stepG_region_end rl hF
    u_c stepG_inLoop rl hF
    exact goes_more 11 (ih (k + 1) HK.out.2 _ _ _ _ _ _ _ _ _ _ _ _ _ _ _ _ hF)

set_option maxRecDepth 100000 in
set_option maxHeartbeats 4000000 in
/-- The iterator, from its entry to its return. -/
theorem iterWalk {S : Goroutine → World → Prop} {n nr l C : Nat} {m : Int} {r : Loop} {p : Tmp} {J : Nat → World → Prop} {b₁ : Frame} {a₁ : Act} {k₁ : List Item} (hm : 1 ≤ m) (hm2 : m ≤ 1000) (H : Keeps Sh B l C m r p J)
    (round : ∀ (k : Nat) (w : World) (c : Frame) (n' : Nat), (k : Int) < m → J k w → (∀ w', J (k + 1) w' → Goes Try.prog true AtRel (DE (EvL Sh B)) S n' (G (c.finish (.bool true)) (b₁.at a₁ (.inRangeFunc l :: k₁) :: cs)) w') →
      Goes Try.prog true AtRel (DE (EvL Sh B)) S (n' + nr) (G (Frame.round l r.fn (r.tmps.setIfInBounds p (.int .i64 ((k : Int) + 1))) r.assign r.body .normal) (c :: b₁.at a₁ (.inRangeFunc l :: k₁) :: cs)) w)
    (next : ∀ w', J m.toNat w' → Goes Try.prog true AtRel (DE (EvL Sh B)) S n (G (b₁.at a₁ (.endRangeFunc l :: k₁)) cs) w')
    (hN : N ≤ sz) (hSz : ∀ a : Addr, Sh (.cell a) → a.block < sz) (hB : sz + 1 < B) (hC : (C, Obj.cells #[.int .i64 0, .int .i64 1] 38) ∈ L) (hC1 : (C + 1, Obj.cells #[.int .i64 1] 3) ∈ L) (hJ0 : ∀ w, Fa N W (sz + 1) L w → J 0 w) (w : World) (hF : Fa N W sz L w) :
    Goes Try.prog true AtRel (DE (EvL Sh B)) S (n + 30 + m.toNat * (nr + 40) + 160)
      (G ((base 32).at ⟨#[.func (.yield l) #[] #[], .pointer (some ⟨C, 0, none⟩), .pointer (some ⟨C + 1, 0, none⟩), .pointer (some ⟨C + 1 + 1, 0, none⟩), undef, undef, undef, undef, undef, undef, undef, undef, undef, undef, undef, undef, undef, undef, undef, undef], []⟩ [.code bodyI]) (b₁.at a₁ (.inRangeFunc l :: k₁) :: cs)) w := by
  have HL := iterLoop (S := S) (n := n) hm hm2 H round next m.toNat 0 (by omega)
  simp only [headI, loopI, bodyI, cR, Try.f32, Option.getD_some, Int.ofNat_zero, Int.zero_add] at HL
  generalize hK : n + 30 + m.toNat * (nr + 40) = K at HL ⊢
  have evC : ∀ o, EvL Sh B ⟨.cell ⟨C, o, none⟩, false, false⟩ := fun o => evL_cell _ _ (H.sh _ (Nat.le_refl _)) (by have := H.lo; show C < B; omega)
  have evF : EvL Sh B ⟨.cell ⟨C + 1, 0, none⟩, false, false⟩ := evL_cell _ _ (H.sh _ (by show C ≤ C + 1; omega)) (by have := H.lo; show C + 1 < B; omega)
  simp only [bodyI, Try.f32, Option.getD_some]
  u_c stepG_seq Fa.atRel hF
  u_reg Fa.atRel hF
  ((refine Goes.step rfl (fun _ h₁ => ?_); replace hF := Fa.atRel hF h₁; clear h₁)
   have _ := hF.cellOf (k := 0) hC rfl
   have _ := hF.cellOf (k := 1) hC rfl
   refine goes_oper_k rfl rfl (by k_ne) (fun K hK => ?_)
   go_simp
   refine hK _ _ ⟨fun e he => ?_, ?_⟩
   · have hm := mem_listed he
     simp [go_sem, *] at hm
     first | (subst hm; exact (evC _)) | (rcases hm with hm | hm <;> (subst hm; exact (evC _)))
   clear hK K)
  ((refine Goes.step rfl (fun _ h₁ => ?_); replace hF := Fa.atRel hF h₁; clear h₁)
   have _ := hF.cellOf (k := 0) hC1 rfl
   refine goes_oper_k rfl rfl (by k_ne) (fun K hK => ?_)
   go_simp
   refine hK _ _ ⟨fun e he => ?_, ?_⟩
   · have hm := mem_listed he
     simp [go_sem, *] at hm
     first | (subst hm; exact evF) | (rcases hm with hm | hm <;> (subst hm; exact evF))
   clear hK K)
  (refine Goes.step rfl (fun _ h₁ => ?_); replace hF := Fa.atRel hF h₁; clear h₁)
  refine goes_call rfl rfl (by k_ne) rfl Try.func33 (by rfl) rfl ⟨by u_nil, ?_⟩
  have hA := fun a₀' ops₀' i₀' rest₀' k₀' => first01 (S := S) (n := K + 35) (Sh := Sh) (B := B) (N := N) (sz := sz) (W := W) (L := L) (b₀ := base 32) (a₀ := a₀') (ops₀ := ops₀') (i₀ := i₀') (rest₀ := rest₀') (k₀ := k₀') (cs := b₁.at a₁ (.inRangeFunc l :: k₁) :: cs) hN hSz hB
  simp only [Try.f33, Option.getD_some] at hA
  walk_nrmf Try.f33
  refine hA _ _ _ _ _ (fun w' hF => ?_) _ hF
  clear hA
  walk_nrm
  u_op Fa.atRel hF
  u_c stepG_region_end Fa.atRel hF
  u_c stepG_block Fa.atRel hF
  u_c stepG_loop Fa.atRel hF
  exact goes_more 31 (HL _ _ _ _ _ _ _ _ _ _ _ _ _ _ _ _ (hJ0 _ hF))
end
end Go.Proofs.Ytjofmchipkfnmaa
