/- slices.AppendSeq beside others (own text). -/
import Derived.Test.YtfgipjgjehjijaaLo
namespace Go.Proofs.Ytfgipjgjehjijaa
open Go Go.Conc Go.ConcN Go.RowKit Go.Conc.Lib Go.ConcR.Gen Go.ConcN.Gen
open Go.ConcR (KK wgBlock WgAt stA smA rd wr mk Payload DC0)

section
variable {Sh : Loc → Prop} {B N sz C : Nat} {W : World} {L : List (Nat × Obj)} {b₀ : Frame} {a₀ : Act} {ops₀ : Array Oper} {i₀ : Nat} {rest₀ : List Nat} {k₀ : List Item} {cs : List Frame}
theorem Ga.cellOf {lo hi : Nat} {v : Value} {xs : List Value} {w : World} (h : Ga N W lo hi L v xs w) {b k : Nat} {c : Array Value} {ty : TypeId} {u : Value} (hm : (b, Obj.cells c ty) ∈ L) (hv : c[k]? = some u) : w.cell? ⟨b, k, none⟩ = some u := by
  have := h.blk _ hm
  simp [World.cell?, this, hv]
theorem keepsC {m : Int} (hShC : ∀ a : Addr, Sh (.cell a) → a.block < C) (hSo : ∀ b, sz ≤ b → ¬ Sh (.obj b)) (hB : sz + 4 + 3000 < B) (hL : ∀ q ∈ L, q.1 < sz) (hC : (C, Obj.cells #[.int .i64 0, .int .i64 1] 32) ∈ L) (hC2 : (C + 1 + 1, Obj.cells #[.int .i64 (m + 1)] 3) ∈ L) :
    Keeps Sh B (sz + 2) C m (recC (tmC sz C) (sz + 1) .ready) 7 (JC N W sz C L) where
  rely := fun ⟨v, h⟩ r => ⟨v, h.atRel r⟩
  c1 := fun k w ⟨v, h⟩ => h.cellOf (b := C) (k := 1) (c := #[.int .i64 0, .int .i64 1]) (ty := 32) (by simp [hC]) rfl
  c2 := fun k w ⟨v, h⟩ => h.cellOf (b := C + 1 + 1) (k := 0) (c := #[.int .i64 (m + 1)]) (ty := 3) (by simp [hC2]) rfl
  record := fun k w ⟨v, h⟩ => h.blk (sz + 2, _) (List.mem_cons_self ..)
  par := rfl
  sh := fun a ha h => by have := hShC a h; omega
  lo := by have := hL _ hC2; simp at this; omega
  ol := hSo _ (by omega)
  lB := by omega

set_option maxRecDepth 100000 in
set_option maxHeartbeats 8000000 in
/-- AppendSeq(nil, numbers 1 .. m). -/
theorem appendSeqWalk {S : Goroutine → World → Prop} {n : Nat} {m : Int} (hm : 1 ≤ m) (hm2 : m ≤ 1000) (hN : N ≤ sz) (hShC : ∀ a : Addr, Sh (.cell a) → a.block < C) (hSo : ∀ b, sz ≤ b → ¬ Sh (.obj b)) (hB : sz + 4 + 3000 < B) (hL : ∀ q ∈ L, q.1 < sz)
    (hC : (C, Obj.cells #[.int .i64 0, .int .i64 1] 32) ∈ L) (hC1 : (C + 1, Obj.cells #[.int .i64 1] 3) ∈ L) (hC2 : (C + 1 + 1, Obj.cells #[.int .i64 (m + 1)] 3) ∈ L)
    (next : ∀ v w', Ga N W (sz + 4) (sz + 4 + 2 * m.toNat) L v (upTo m.toNat) w' → Goes Try.prog true AtRel (DE (EvL Sh B)) S n (G (b₀.at (a₀.put ((ops₀[i₀]?).bind (·.dst)) v) (.inRegion ops₀ rest₀ :: k₀)) cs) w') (w : World) (hF : Fa N W sz L w) :
    Goes Try.prog true AtRel (DE (EvL Sh B)) S (n + 30 + 30 + m.toNat * (40 + 40) + 160 + 30)
      (G ((base 50).at ⟨#[.slice none 0 0, .func (.func 48) #[] #[.pointer (some ⟨C, 0, none⟩), .pointer (some ⟨C + 1, 0, none⟩), .pointer (some ⟨C + 1 + 1, 0, none⟩)], undef, undef, undef, undef, undef, undef, undef, undef, undef, undef, undef], []⟩ [.code bodyC]) (b₀.at a₀ (.inRegion ops₀ (i₀ :: rest₀) :: k₀) :: cs)) w := by
  have hCs : C < sz := hL _ hC
  have hSh : ∀ a : Addr, Sh (.cell a) → a.block < sz := fun a h => by have := hShC a h; omega
  have hI := fun w hF => iterWalk (S := S) (n := n + 30) (nr := 40) (l := sz + 2) (C := C) (N := N) (W := W) (sz := sz + 3) (L := (sz + 2, .loop (recC (tmC sz C) (sz + 1) .ready)) :: (sz + 1, .deferred (some [])) :: (sz, .cells #[.slice none 0 0] 39) :: L)
    (b₁ := base 50) (a₁ := ⟨tmC sz C, [{ target := .collected (sz + 1), args := #[] }]⟩) (k₁ := [.inBlock 0, .code (cR (cR bodyC))]) (cs := b₀.at a₀ (.inRegion ops₀ (i₀ :: rest₀) :: k₀) :: cs) hm hm2 (keepsC (N := N) (W := W) (L := L) hShC hSo hB hL hC hC2)
    (fun k w c n' hk hJ nx => roundC hm2 hN hSh hB (hSo _ (by omega)) hL k w c n' hk hJ nx) (fun w hJ => ?_) (by omega) (fun a h => by have := hSh a h; omega) (by omega) (by simp [hC]) (by simp [hC1]) (fun w hF => ?_) w hF
  · generalize hK : n + 30 + 30 + m.toNat * (40 + 40) + 160 = K at hI ⊢
    simp only [bodyC, cR, Try.f50, Option.getD_some] at hI ⊢
    u_c stepG_seq Fa.atRel hF
    u_reg Fa.atRel hF
    ((refine Goes.step rfl (fun _ h₁ => ?_); replace hF := Fa.atRel hF h₁; clear h₁)
     have hs := Fa.size hF
     refine goes_oper_k rfl rfl (by k_ne) (fun K hK => ?_)
     go_simp
     refine hK _ _ ⟨fun e he => ?_, ?_⟩
     · have hm := mem_listed he
       simp [go_sem, *] at hm
     clear hK K
     replace hF := Fa.alloc hF (by omega) (.cells #[.slice none 0 0] 39)
     clear hs)
    u_op Fa.atRel hF
    u_c stepG_region_end Fa.atRel hF
    u_c stepG_seq Fa.atRel hF
    u_c stepG_seq Fa.atRel hF
    u_reg Fa.atRel hF
    u_op Fa.atRel hF
    u_c stepG_region_end Fa.atRel hF
    u_c stepG_block Fa.atRel hF
    (refine Goes.step rfl (fun _ h₁ => ?_); replace hF := Fa.atRel hF h₁; clear h₁)
    have hs := hF.size
    rw [sG_enter (f := 48) (caps := #[.pointer (some ⟨C, 0, none⟩), .pointer (some ⟨C + 1, 0, none⟩), .pointer (some ⟨C + 1 + 1, 0, none⟩)]) (by k_ne) rfl Try.func48 (by rfl) (by rfl), hs]
    simp only [goes_go]
    refine ⟨by u_nil, ?_⟩
    rw [enter_at (c := bodyI) _ Try.func48 rfl]
    walk_nrmf Try.f48
    have h2 := (hF.alloc (by omega) (.deferred (some []))).alloc (by omega) (.loop (recC (tmC sz C) (sz + 1) .ready))
    exact goes_more 18 (hI _ h2)
  · obtain ⟨v, hJ⟩ := hJ
    simp only [bodyC, cR, Try.f50, Option.getD_some]
    have evl : ∀ (b : Nat) (wr : Bool), sz ≤ b → b < B → EvL Sh B ⟨.obj b, wr, false⟩ := fun b wr h1 h2 => by
      cases wr <;> exact ⟨fun x hx hs => by simp [MemAct.ofEvent, MemAct.touch?] at hx; subst hx; exact absurd hs (hSo _ h1), by simp, by simp, h2⟩
    have evb : EvL Sh B ⟨.cell ⟨sz, 0, none⟩, false, false⟩ := evL_cell _ _ (fun h => absurd (hSh _ h) (Nat.lt_irrefl sz)) (by show sz < B; omega)
    have hne : ∀ q ∈ ((sz, .cells #[v] 39) :: (sz + 1, Obj.deferred (some [])) :: L), q.1 ≠ sz + 2 := by
      intro q hq
      simp only [List.mem_cons] at hq
      rcases hq with rfl | rfl | hq
      all_goals first | (show _ ≠ sz + 2; simp; done) | (have := hL q hq; omega)
    (refine Goes.step rfl (fun _ h₁ => ?_); replace hJ := Ga.atRel hJ h₁; clear h₁)
    rw [sG_after (hJ.blk _ (List.mem_cons_self ..)) rfl rfl]
    simp only [goes_go]
    refine ⟨fun e he => ?_, ?_⟩
    · have he := mem_seen he
      simp at he
      rcases he with rfl | rfl <;> exact evl _ _ (by omega) (by omega)
    replace hJ := hJ.put (.loop { (recC (tmC sz C) (sz + 1) .ready) with state := .exhausted }) (by omega) hne
    u_c stepG_inBlock Ga.atRel hJ
    u_c stepG_seq Ga.atRel hJ
    u_reg Ga.atRel hJ
    simp only [tmC]
    (refine Goes.step rfl (fun _ h₁ => ?_); replace hJ := Ga.atRel hJ h₁; clear h₁)
    have hc := hJ.cellOf (b := sz) (k := 0) (c := #[v]) (ty := 39) (by simp) rfl
    refine goes_oper_k rfl rfl (by k_ne) (fun K hK => ?_)
    go_simp
    refine hK _ _ ⟨fun e he => ?_, ?_⟩
    · have hm := mem_listed he
      simp [go_sem, *] at hm
      subst hm
      exact evb
    clear hK K hc
    u_op Ga.atRel hJ
    u_c stepG_region_end Ga.atRel hJ
    u_c stepG_ret' Ga.atRel hJ
    (refine Goes.step rfl (fun _ h₁ => ?_); replace hJ := Ga.atRel hJ h₁; clear h₁)
    have hd := hJ.blk (sz + 1, .deferred (some [])) (by simp)
    rw [sG_collect (ds := []) hd rfl]
    simp only [goes_go]
    refine ⟨fun e he => ?_, ?_⟩
    · have he := mem_seen he
      simp at he
      rcases he with rfl | rfl <;> exact evl _ _ (by omega) (by omega)
    have hW : Ga N W (sz + 4) (sz + 4 + 2 * m.toNat) ((sz + 1, Obj.deferred (some [])) :: L) v (upTo m.toNat) _ := hJ.weak fun q hq => by
      rcases List.mem_cons.1 hq with rfl | hq
      · simp
      · simp [hq]
    have hJ := hW.put (.deferred none) (by omega) (fun q hq => by have := hL q hq; omega)
    clear hW hd
    replace hJ : Ga N W (sz + 4) (sz + 4 + 2 * m.toNat) L v (upTo m.toNat) _ := hJ.weak fun q hq => List.mem_cons_of_mem _ hq
    (refine Goes.step rfl (fun _ h₁ => ?_); replace hJ := Ga.atRel hJ h₁; clear h₁)
    refine goes_leave1 rfl rfl Try.func50 rfl ⟨by u_nil, ?_⟩
    simp only [List.getElem?_toArray, Array.getD_eq_getD_getElem?, List.getElem?_cons_succ, List.getElem?_cons_zero, Option.getD_some]
    exact goes_more _ (next _ _ hJ)
  · refine ⟨.slice none 0 0, ⟨by have := hF.size; omega, by have := hF.size; omega, hF.old, fun q hq => hF.blk q ?_, fun q hq => ?_, World.ownsRow_nil _ _ _ _, hF.tape, hF.os, hF.output⟩⟩
    · simp only [List.mem_cons] at hq ⊢
      rcases hq with h | h | h | h <;> simp [h]
    · simp only [List.mem_cons] at hq
      rcases hq with rfl | rfl | rfl | hq
      all_goals first | (show _ < sz + 4; simp; done) | (show _ < sz + 4; omega) | (have := hL q hq; omega)
end
end Go.Proofs.Ytfgipjgjehjijaa
