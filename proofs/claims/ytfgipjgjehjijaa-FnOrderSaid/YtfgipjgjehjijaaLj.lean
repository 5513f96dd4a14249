/- SolveUnits beside others: its loop and its return (own text). -/
import Derived.Test.YtfgipjgjehjijaaLi
namespace Go.Proofs.Ytfgipjgjehjijaa
open Go Go.Conc Go.ConcN Go.RowKit Go.Conc.Lib Go.ConcR.Gen Go.ConcN.Gen
open Go.ConcR (KK wgBlock WgAt stA smA rd wr mk Payload DC0)

noncomputable def blkU : Code := cR (cL (cR (cR (cR bodyU))))
noncomputable def restU : Code := cR (cR (cR (cR bodyU)))
section
variable {Sh : Loc → Prop} {B N sz : Nat} {W : World} {L : List (Nat × Obj)} {b₀ : Frame} {a₀ : Act} {ops₀ : Array Oper} {i₀ : Nat} {rest₀ : List Nat} {k₀ : List Item} {cs : List Frame}
theorem keepsU {m : Int} (hSh : ∀ a : Addr, Sh (.cell a) → a.block < sz) (hSo : ∀ b, sz ≤ b → ¬ Sh (.obj b)) (hB : sz + 10 < B) : Keeps Sh B (sz + 8) (sz + 4) m (recU (tmU m sz) (sz + 7) .ready) 13 (JU N W sz L m (tmU m sz)) where
  rely := fun h r => Fa.atRel h r
  c1 := fun k w h => Fa.cellOf h (b := sz + 4) (k := 1) (c := #[.int .i64 0, .int .i64 1]) (ty := 32) (by simp) rfl
  c2 := fun k w h => Fa.cellOf h (b := sz + 4 + 1 + 1) (k := 0) (c := #[.int .i64 (m + 1)]) (ty := 3) (by simp) rfl
  record := fun k w h => Fa.blk h (sz + 8, _) (List.mem_cons_self ..)
  par := rfl
  sh := fun a ha h => by have := hSh a h; omega
  lo := by omega
  ol := hSo _ (by omega)
  lB := by omega

set_option maxRecDepth 100000 in
set_option maxHeartbeats 8000000 in
/-- From behind the drawn region to SolveUnits' return. -/
theorem tailU {S : Goroutine → World → Prop} {n : Nat} {m : Int} (hm : 1 ≤ m) (hm2 : m ≤ 1000) (hN : N ≤ sz) (hSh : ∀ a : Addr, Sh (.cell a) → a.block < sz) (hSo : ∀ b, sz ≤ b → ¬ Sh (.obj b)) (hB : sz + 10 < B) (hL : ∀ q ∈ L, q.1 < sz)
    (next : ∀ w', Fa N W (sz + 10) L w' → Goes Try.prog true AtRel (DE (EvL Sh B)) S n (G (b₀.at (a₀.put ((ops₀[i₀]?).bind (·.dst)) (.tuple #[.int .i64 (unQ m), .bool true])) (.inRegion ops₀ rest₀ :: k₀)) cs) w') (w : World)
    (hF : Fa N W (sz + 7) ((sz + 4 + 1 + 1, .cells #[.int .i64 (m + 1)] 3) :: (sz + 4 + 1, .cells #[.int .i64 1] 3) :: (sz + 4, .cells #[.int .i64 0, .int .i64 1] 32) :: (sz + 1, .cells #[.int .i64 0] 3) :: (sz, Obj.cells #[.int .i64 m] 3) :: L) w) :
    Goes Try.prog true AtRel (DE (EvL Sh B)) S (n + 30 + 30 + m.toNat * (102100 + 40) + 160 + 3)
      (G ((base 12).at ⟨tmU m sz, []⟩ [.inRegion opsU [], .code blkU, .code restU]) (b₀.at a₀ (.inRegion ops₀ (i₀ :: rest₀) :: k₀) :: cs)) w := by
  have hI := fun w hF => iterWalk (S := S) (n := n + 30) (nr := 102100) (l := sz + 8) (C := sz + 4) (N := N) (W := W) (sz := sz + 9) (L := (sz + 8, .loop (recU (tmU m sz) (sz + 7) .ready)) :: (sz + 7, .deferred (some [])) :: (sz + 4 + 1 + 1, .cells #[.int .i64 (m + 1)] 3) :: (sz + 4 + 1, .cells #[.int .i64 1] 3) :: (sz + 4, .cells #[.int .i64 0, .int .i64 1] 32) :: (sz + 1, .cells #[.int .i64 0] 3) :: (sz, Obj.cells #[.int .i64 m] 3) :: L)
    (b₁ := base 12) (a₁ := ⟨tmU m sz, [{ target := .collected (sz + 7), args := #[] }]⟩) (k₁ := [.inBlock 0, .code restU]) (cs := b₀.at a₀ (.inRegion ops₀ (i₀ :: rest₀) :: k₀) :: cs) hm hm2 (keepsU (N := N) (W := W) (L := L) hSh hSo hB)
    (fun k w c n' hk hJ nx => roundU hm hm2 hN hSh hB (hSo _ (by omega)) hL k w c n' hk hJ nx) (fun w hJ => ?_) (by omega) (fun a h => by have := hSh a h; omega) (by omega) (by simp) (by simp) (fun w hF => ?_) w hF
  · generalize hK : n + 30 + 30 + m.toNat * (102100 + 40) + 160 = K at hI ⊢
    simp only [blkU, restU, bodyU, opsU, cR, cL, opsOf, Try.f12, Option.getD_some] at hI ⊢
    u_c stepG_region_end Fa.atRel hF
    u_c stepG_block Fa.atRel hF
    have hs := hF.size
    (refine Goes.step rfl (fun _ h₁ => ?_); replace hF := Fa.atRel hF h₁; clear h₁)
    have hs := hF.size
    rw [sG_enter (f := 48) (caps := #[.pointer (some ⟨sz + 4, 0, none⟩), .pointer (some ⟨sz + 4 + 1, 0, none⟩), .pointer (some ⟨sz + 4 + 1 + 1, 0, none⟩)]) (by k_ne) rfl Try.func48 (by rfl) (by rfl), hs]
    simp only [goes_go]
    refine ⟨by u_nil, ?_⟩
    rw [enter_at (c := bodyI) _ Try.func48 rfl]
    walk_nrmf Try.f48
    refine hI _ ?_
    have h2 := (hF.alloc (by omega) (.deferred (some []))).alloc (by omega) (.loop (recU (tmU m sz) (sz + 7) .ready))
    exact h2
  · have hJ : Fa N W (sz + 10) _ w := hJ
    simp only [restU, bodyU, cR, Try.f12, Option.getD_some]
    have evl : ∀ (b : Nat) (wr : Bool), sz ≤ b → b < B → EvL Sh B ⟨.obj b, wr, false⟩ := fun b wr h1 h2 => by
      cases wr <;> exact ⟨fun x hx hs => by simp [MemAct.ofEvent, MemAct.touch?] at hx; subst hx; exact absurd hs (hSo _ h1), by simp, by simp, h2⟩
    have evu : EvL Sh B ⟨.cell ⟨sz + 1, 0, none⟩, false, false⟩ := evL_cell _ _ (fun h => absurd (hSh _ h) (by show ¬ sz + 1 < sz; omega)) (by show sz + 1 < B; omega)
    (refine Goes.step rfl (fun _ h₁ => ?_); replace hJ := Fa.atRel hJ h₁; clear h₁)
    rw [sG_after (hJ.blk _ (List.mem_cons_self ..)) rfl rfl]
    simp only [goes_go]
    refine ⟨fun e he => ?_, ?_⟩
    · have he := mem_seen he
      simp at he
      rcases he with rfl | rfl <;> exact evl _ _ (by omega) (by omega)
    have hne : ∀ q ∈ ((sz + 1, .cells #[.int .i64 (unK m m.toNat)] 3) :: (sz + 7, .deferred (some [])) :: (sz + 6, .cells #[.int .i64 (m + 1)] 3) :: (sz + 5, .cells #[.int .i64 1] 3) :: (sz + 4, .cells #[.int .i64 0, .int .i64 1] 32) :: (sz, Obj.cells #[.int .i64 m] 3) :: L), q.1 ≠ sz + 8 := by
      intro q hq
      simp only [List.mem_cons] at hq
      rcases hq with rfl | rfl | rfl | rfl | rfl | rfl | hq
      all_goals first | (show _ ≠ sz + 8; simp; done) | (have := hL q hq; omega)
    replace hJ := hJ.put (.loop { (recU (tmU m sz) (sz + 7) .ready) with state := .exhausted }) (by omega) hne
    u_c stepG_inBlock Fa.atRel hJ
    u_c stepG_seq Fa.atRel hJ
    u_reg Fa.atRel hJ
    simp only [tmU]
    ((refine Goes.step rfl (fun _ h₁ => ?_); replace hJ := Fa.atRel hJ h₁; clear h₁)
     have _ := hJ.cellOf (b := sz + 1) (k := 0) (c := #[.int .i64 (unK m m.toNat)]) (ty := 3) (by simp) rfl
     refine goes_oper_k rfl rfl (by k_ne) (fun K hK => ?_)
     go_simp
     refine hK _ _ ⟨fun e he => ?_, ?_⟩
     · have hm := mem_listed he
       simp [go_sem, *] at hm
       first | (subst hm; exact evu) | (rcases hm with hm | hm <;> (subst hm; exact evu))
     clear hK K)
    u_op Fa.atRel hJ
    u_op Fa.atRel hJ
    u_c stepG_region_end Fa.atRel hJ
    u_c stepG_ret' Fa.atRel hJ
    (refine Goes.step rfl (fun _ h₁ => ?_); replace hJ := Fa.atRel hJ h₁; clear h₁)
    have hd := hJ.blk (sz + 7, .deferred (some [])) (by simp)
    rw [sG_collect (ds := []) hd rfl]
    simp only [goes_go]
    refine ⟨fun e he => ?_, ?_⟩
    · have he := mem_seen he
      simp at he
      rcases he with rfl | rfl <;> exact evl _ _ (by omega) (by omega)
    have hW : Fa N W (sz + 10) ((sz + 7, Obj.deferred (some [])) :: L) _ := hJ.weak fun q hq => by
      rcases List.mem_cons.1 hq with rfl | hq
      · simp
      · simp [hq]
    have hJ := hW.put (.deferred none) (by omega) (fun q hq => by have := hL q hq; omega)
    clear hW hd
    replace hJ : Fa N W (sz + 10) L _ := hJ.weak fun q hq => List.mem_cons_of_mem _ hq
    (refine Goes.step rfl (fun _ h₁ => ?_); replace hJ := Fa.atRel hJ h₁; clear h₁)
    refine goes_leave2 rfl rfl Try.func12 rfl ⟨by u_nil, ?_⟩
    simp only [List.getElem?_toArray, Array.getD_eq_getD_getElem?, List.getElem?_cons_succ, List.getElem?_cons_zero, Option.getD_some]
    exact goes_more 19 (next _ hJ)
  · show Fa N W (sz + 10) _ w
    refine hF.weak fun q hq => ?_
    simp only [List.mem_cons] at hq ⊢
    rcases hq with rfl | rfl | rfl | rfl | rfl | rfl | rfl | hq
    all_goals simp [unK, *]
end
end Go.Proofs.Ytfgipjgjehjijaa
