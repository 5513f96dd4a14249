/- The numbers of a class, given out beside others (own text). -/
import Derived.Test.YtfgipjgjehjijaaKra
import Derived.Test.YtfgipjgjehjijaaKx
namespace Go.Proofs.Ytfgipjgjehjijaa
open Go Go.Conc Go.ConcN Go.RowKit Go.Conc.Lib Go.ConcR.Gen Go.ConcN.Gen
open Go.ConcR (KK wgBlock WgAt stA smA rd wr mk Payload DC0)

/-! ### words: memory of one's own, beside others -/
theorem lt_cons {sz : Nat} {L : List (Nat × Obj)} {o : Obj} (h : ∀ q ∈ L, q.1 < sz) : ∀ q ∈ (sz, o) :: L, q.1 < sz + 1 := by
  intro q hq
  rcases List.mem_cons.1 hq with rfl | hq
  · exact Nat.lt_succ_self sz
  · have := h q hq; omega
theorem Fa.cellOf {N : Nat} {W w : World} {sz : Nat} {L : List (Nat × Obj)} (h : Fa N W sz L w) {b k : Nat} {c : Array Value} {ty : TypeId} {v : Value} (hm : (b, Obj.cells c ty) ∈ L) (hv : c[k]? = some v) : w.cell? ⟨b, k, none⟩ = some v := by
  have := h.blk _ hm
  simp [World.cell?, this, hv]
theorem Fa.thaw {N : Nat} {W w : World} {sz : Nat} {L : List (Nat × Obj)} (h : Fa N W sz L w) {b k : Nat} {c : Array Value} {ty : TypeId} (hm : (b, Obj.cells c ty) ∈ L) : w.frozen? ⟨b, k, none⟩ = false := by
  have := h.blk _ hm
  simp [World.frozen?, this]

section
variable {Sh : Loc → Prop} {B N sz : Nat} {W : World} {L : List (Nat × Obj)} {b₀ : Frame} {a₀ : Act} {ops₀ : Array Oper} {i₀ : Nat} {rest₀ : List Nat} {k₀ : List Item} {cs : List Frame}
set_option maxRecDepth 100000 in
set_option maxHeartbeats 4000000 in
/-- classAt(0, 1). -/
theorem classAt01 {S : Goroutine → World → Prop} {n : Nat} (hN : N ≤ sz) (hSh : ∀ a : Addr, Sh (.cell a) → a.block < sz) (hB : sz + 1 < B) (hL : ∀ q ∈ L, q.1 < sz)
    (next : ∀ w', Fa N W (sz + 1) L w' → Goes Try.prog true AtRel (DE (EvL Sh B)) S n (G (b₀.at (a₀.put ((ops₀[i₀]?).bind (·.dst)) (.agg #[.int .i64 0, .int .i64 1])) (.inRegion ops₀ rest₀ :: k₀)) cs) w') (w : World) (hF : Fa N W sz L w) :
    Goes Try.prog true AtRel (DE (EvL Sh B)) S (n + 100)
      (G ((base 47).at ⟨#[.int .i64 0, .int .i64 1, undef, undef, undef, undef, undef, undef, undef, undef], []⟩ [.code (Try.f47.body.getD .skip)]) (b₀.at a₀ (.inRegion ops₀ (i₀ :: rest₀) :: k₀) :: cs)) w := by
  simp only [Try.f47, Option.getD_some]
  u_c stepG_seq Fa.atRel hF
  u_reg Fa.atRel hF
  ((refine Goes.step rfl (fun _ h₁ => ?_); replace hF := Fa.atRel hF h₁; clear h₁)
   have hs := Fa.size hF
   refine goes_oper_k rfl rfl (by k_ne) (fun K hK => ?_)
   go_simp
   refine hK _ _ ⟨fun e he => ?_, ?_⟩
   · have hm := mem_listed he
     simp [go_sem, *] at hm
   clear hK K
   replace hF := Fa.alloc hF (by omega) (.cells #[.int .i64 0, .int .i64 0] 32)
   clear hs)
  u_c stepG_region_end Fa.atRel hF
  u_c stepG_seq Fa.atRel hF
  u_reg Fa.atRel hF
  u_op Fa.atRel hF
  u_op Fa.atRel hF
  rename_i w₉
  refine Goes.call (m := n + 29) (nf := 60) (Post := fun v w' => v = .int .i64 (0 % 1) ∧ Since AtRel w₉ w') terms_b rfl (by rfl) (by k_ne) rfl ?_ (fun v w₁ hp => ?_)
  · walk_nrm
    exact k_restOf terms_b 0 1 (by omega) (by omega) _
  obtain ⟨rfl, hs⟩ := hp
  replace hF := hF.since hs
  clear hs
  walk_nrm
  u_op Fa.atRel hF
  u_op Fa.atRel hF
  (refine Goes.step rfl (fun _ h₁ => ?_); replace hF := Fa.atRel hF h₁; clear h₁)
  have hc0 := hF.cellOf (k := 0) (List.mem_cons_self ..) rfl
  have hc1 := hF.cellOf (k := 1) (List.mem_cons_self ..) rfl
  have hz0 := hF.thaw (k := 0) (List.mem_cons_self ..)
  have hz1 := hF.thaw (k := 1) (List.mem_cons_self ..)
  refine goes_oper_k rfl rfl (by k_ne) (fun K hK => ?_)
  go_simp
  have hev : ∀ (o : Nat) (wr : Bool), EvL Sh B ⟨.cell ⟨sz, o, none⟩, wr, false⟩ := fun o wr => evL_cell _ _ (fun h => by have := hSh _ h; simp at this) (by simp; omega)
  refine hK _ _ ⟨fun e he => ?_, ?_⟩
  · have hm := mem_listed he
    simp [go_sem, *] at hm
    rcases hm with hm | hm <;> (subst hm; exact hev _ _)
  clear hK K hc0 hc1 hz0 hz1
  have hne : ∀ q ∈ L, q.1 ≠ sz := fun q hq => by have := hL q hq; omega
  replace hF := (hF.set (k := 0) (v := .int .i64 0) hN hne).set (k := 1) (v := .int .i64 1) hN hne
  have e : ((#[Value.int .i64 0, Value.int .i64 0].setIfInBounds 0 (.int .i64 0)).setIfInBounds 1 (.int .i64 1)) = #[.int .i64 0, .int .i64 1] := by simp
  rw [e] at hF
  clear e hne
  u_c stepG_region_end Fa.atRel hF
  u_c stepG_ret' Fa.atRel hF
  (refine Goes.step rfl (fun _ h₁ => ?_); replace hF := Fa.atRel hF h₁; clear h₁)
  have hc0 := hF.cellOf (k := 0) (List.mem_cons_self ..) rfl
  have hc1 := hF.cellOf (k := 1) (List.mem_cons_self ..) rfl
  rw [sG_leave (v := .agg #[.int .i64 0, .int .i64 1]) rfl rfl Try.func47 (by simp [results, Try.f47, go_sem, *]), Frame.finish_at]
  simp only [goes_go]
  refine ⟨fun e he => ?_, ?_⟩
  · have hq : (Try.prog.funcs[(base 47).fn]?).any (·.norace) = false := by kernel_rfl
    simp only [seen, hq] at he
    simp [results, Try.f47, go_sem, hc0, hc1] at he
    rcases he with rfl | rfl <;> exact hev _ _
  · exact goes_more _ (next _ (hF.weak fun q hq => List.mem_cons_of_mem _ hq))

set_option maxRecDepth 100000 in
set_option maxHeartbeats 4000000 in
/-- wholeClass(). -/
theorem wholeClass01 {S : Goroutine → World → Prop} {n : Nat} (hN : N ≤ sz) (hSh : ∀ a : Addr, Sh (.cell a) → a.block < sz) (hB : sz + 2 < B) (hL : ∀ q ∈ L, q.1 < sz)
    (next : ∀ w', Fa N W (sz + 2) L w' → Goes Try.prog true AtRel (DE (EvL Sh B)) S n (G (b₀.at (a₀.put ((ops₀[i₀]?).bind (·.dst)) (.agg #[.int .i64 0, .int .i64 1])) (.inRegion ops₀ rest₀ :: k₀)) cs) w') (w : World) (hF : Fa N W sz L w) :
    Goes Try.prog true AtRel (DE (EvL Sh B)) S (n + 120)
      (G ((base 25).at ⟨#[undef, undef], []⟩ [.code (Try.f25.body.getD .skip)]) (b₀.at a₀ (.inRegion ops₀ (i₀ :: rest₀) :: k₀) :: cs)) w := by
  simp only [Try.f25, Option.getD_some]
  u_c stepG_seq Fa.atRel hF
  u_reg Fa.atRel hF
  ((refine Goes.step rfl (fun _ h₁ => ?_); replace hF := Fa.atRel hF h₁; clear h₁)
   have hs := Fa.size hF
   refine goes_oper_k rfl rfl (by k_ne) (fun K hK => ?_)
   go_simp
   refine hK _ _ ⟨fun e he => ?_, ?_⟩
   · have hm := mem_listed he
     simp [go_sem, *] at hm
   clear hK K
   replace hF := Fa.alloc hF (by omega) (.cells #[.int .i64 0, .int .i64 0] 32)
   clear hs)
  u_c stepG_region_end Fa.atRel hF
  u_c stepG_seq Fa.atRel hF
  u_reg Fa.atRel hF
  (refine Goes.step rfl (fun _ h₁ => ?_); replace hF := Fa.atRel hF h₁; clear h₁)
  refine goes_call rfl rfl (by k_ne) rfl Try.func47 (by rfl) rfl ⟨by u_nil, ?_⟩
  have hA := fun (S' : Goroutine → World → Prop) m a₀' ops₀' i₀' rest₀' k₀' => classAt01 (S := S') (n := m) (Sh := Sh) (B := B) (N := N) (sz := sz + 1) (W := W) (L := (sz, .cells #[.int .i64 0, .int .i64 0] 32) :: L) (b₀ := base 25) (a₀ := a₀') (ops₀ := ops₀') (i₀ := i₀') (rest₀ := rest₀') (k₀ := k₀') (cs := b₀.at a₀ (.inRegion ops₀ (i₀ :: rest₀) :: k₀) :: cs) (by omega) (fun a h => by have := hSh a h; omega) (by omega) (lt_cons hL)
  simp only [Try.f47, Option.getD_some] at hA
  walk_nrmf Try.f47
  refine hA S (n + 13) _ _ _ _ _ (fun w' hF => ?_) _ hF
  clear hA
  walk_nrm
  (refine Goes.step rfl (fun _ h₁ => ?_); replace hF := Fa.atRel hF h₁; clear h₁)
  have hc0 := hF.cellOf (k := 0) (List.mem_cons_self ..) rfl
  have hc1 := hF.cellOf (k := 1) (List.mem_cons_self ..) rfl
  have hz0 := hF.thaw (k := 0) (List.mem_cons_self ..)
  have hz1 := hF.thaw (k := 1) (List.mem_cons_self ..)
  refine goes_oper_k rfl rfl (by k_ne) (fun K hK => ?_)
  go_simp
  have hev : ∀ (o : Nat) (wr : Bool), EvL Sh B ⟨.cell ⟨sz, o, none⟩, wr, false⟩ := fun o wr => evL_cell _ _ (fun h => by have := hSh _ h; simp at this) (by simp; omega)
  refine hK _ _ ⟨fun e he => ?_, ?_⟩
  · have hm := mem_listed he
    simp [go_sem, *] at hm
    rcases hm with hm | hm <;> (subst hm; exact hev _ _)
  clear hK K hc0 hc1 hz0 hz1
  have hne : ∀ q ∈ L, q.1 ≠ sz := fun q hq => by have := hL q hq; omega
  replace hF := (hF.set (k := 0) (v := .int .i64 0) hN hne).set (k := 1) (v := .int .i64 1) hN hne
  have e : ((#[Value.int .i64 0, Value.int .i64 0].setIfInBounds 0 (.int .i64 0)).setIfInBounds 1 (.int .i64 1)) = #[.int .i64 0, .int .i64 1] := by simp
  rw [e] at hF
  clear e hne
  u_c stepG_region_end Fa.atRel hF
  u_c stepG_ret' Fa.atRel hF
  (refine Goes.step rfl (fun _ h₁ => ?_); replace hF := Fa.atRel hF h₁; clear h₁)
  have hc0 := hF.cellOf (k := 0) (List.mem_cons_self ..) rfl
  have hc1 := hF.cellOf (k := 1) (List.mem_cons_self ..) rfl
  rw [sG_leave (v := .agg #[.int .i64 0, .int .i64 1]) rfl rfl Try.func25 (by simp [results, Try.f25, go_sem, *]), Frame.finish_at]
  simp only [goes_go]
  refine ⟨fun e he => ?_, ?_⟩
  · have hq : (Try.prog.funcs[(base 25).fn]?).any (·.norace) = false := by kernel_rfl
    simp only [seen, hq] at he
    simp [results, Try.f25, go_sem, hc0, hc1] at he
    rcases he with rfl | rfl <;> exact hev _ _
  · exact goes_more 9 (next _ (hF.weak fun q hq => List.mem_cons_of_mem _ hq))

set_option maxRecDepth 100000 in
set_option maxHeartbeats 4000000 in
/-- numbers(1, e) of that class. -/
theorem numbers01 {S : Goroutine → World → Prop} {n : Nat} (x : Int) (hN : N ≤ sz)
    (next : ∀ w', Fa N W (sz + 3) ((sz + 1 + 1, .cells #[.int .i64 x] 3) :: (sz + 1, .cells #[.int .i64 1] 3) :: (sz, .cells #[.int .i64 0, .int .i64 1] 32) :: L) w' →
      Goes Try.prog true AtRel (DE (EvL Sh B)) S n (G (b₀.at (a₀.put ((ops₀[i₀]?).bind (·.dst)) (.func (.func 48) #[] #[.pointer (some ⟨sz, 0, none⟩), .pointer (some ⟨sz + 1, 0, none⟩), .pointer (some ⟨sz + 1 + 1, 0, none⟩)])) (.inRegion ops₀ rest₀ :: k₀)) cs) w') (w : World) (hF : Fa N W sz L w) :
    Goes Try.prog true AtRel (DE (EvL Sh B)) S (n + 30)
      (G ((base 26).at ⟨#[.agg #[.int .i64 0, .int .i64 1], .int .i64 1, .int .i64 x, undef, undef, undef, undef, undef], []⟩ [.code (Try.f26.body.getD .skip)]) (b₀.at a₀ (.inRegion ops₀ (i₀ :: rest₀) :: k₀) :: cs)) w := by
  simp only [Try.f26, Option.getD_some]
  u_c stepG_seq Fa.atRel hF
  u_reg Fa.atRel hF
  ((refine Goes.step rfl (fun _ h₁ => ?_); replace hF := Fa.atRel hF h₁; clear h₁)
   have hs := Fa.size hF
   refine goes_oper_k rfl rfl (by k_ne) (fun K hK => ?_)
   go_simp
   refine hK _ _ ⟨fun e he => ?_, ?_⟩
   · have hm := mem_listed he
     simp [go_sem, *] at hm
   clear hK K
   replace hF := Fa.alloc hF (by omega) (.cells #[.int .i64 0, .int .i64 1] 32)
   clear hs)
  ((refine Goes.step rfl (fun _ h₁ => ?_); replace hF := Fa.atRel hF h₁; clear h₁)
   have hs := Fa.size hF
   refine goes_oper_k rfl rfl (by k_ne) (fun K hK => ?_)
   go_simp
   refine hK _ _ ⟨fun e he => ?_, ?_⟩
   · have hm := mem_listed he
     simp [go_sem, *] at hm
   clear hK K
   replace hF := Fa.alloc hF (by omega) (.cells #[.int .i64 1] 3)
   clear hs)
  ((refine Goes.step rfl (fun _ h₁ => ?_); replace hF := Fa.atRel hF h₁; clear h₁)
   have hs := Fa.size hF
   refine goes_oper_k rfl rfl (by k_ne) (fun K hK => ?_)
   go_simp
   refine hK _ _ ⟨fun e he => ?_, ?_⟩
   · have hm := mem_listed he
     simp [go_sem, *] at hm
   clear hK K
   replace hF := Fa.alloc hF (by omega) (.cells #[.int .i64 x] 3)
   clear hs)
  repeat (first | u_c stepG_seq Fa.atRel hF | u_c stepG_region_end Fa.atRel hF | u_reg Fa.atRel hF | u_op Fa.atRel hF | u_c stepG_ret' Fa.atRel hF)
  (refine Goes.step rfl (fun _ h₁ => ?_); replace hF := Fa.atRel hF h₁; clear h₁)
  refine goes_leave1 rfl rfl Try.func26 rfl ⟨by u_nil, ?_⟩
  simp only [List.getElem?_toArray, Array.getD_eq_getD_getElem?, List.getElem?_cons_succ, List.getElem?_cons_zero, Option.getD_some]
  exact goes_more _ (next _ hF)
end
end Go.Proofs.Ytfgipjgjehjijaa
