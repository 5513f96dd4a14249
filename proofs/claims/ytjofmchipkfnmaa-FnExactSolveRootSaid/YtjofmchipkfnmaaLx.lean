/- SolveRoot's call at any argument; the law FnExactSolveRoot's run (own text). -/
import Derived.Test.YtjofmchipkfnmaaLu
namespace Go.Proofs.Ytjofmchipkfnmaa
open Go Go.Conc Go.ConcN Go.RowKit Go.Conc.Lib Go.ConcR.Gen Go.ConcN.Gen
open Go.ConcR (KK wgBlock WgAt stA smA rd wr mk Payload DC0)

section
variable {B N hi : Nat} {W : World} {L : List (Nat × Obj)} {b₀ : Frame} {a₀ : Act} {ops₀ : Array Oper} {i₀ : Nat} {rest₀ : List Nat} {k₀ : List Item} {cs : List Frame}
set_option maxRecDepth 100000 in
set_option maxHeartbeats 8000000 in
/-- SolveRoot(m), m no modulus. -/
theorem rootEarly {m : Int} (hmod : modB m = false) {Sh : Loc → Prop} {sz : Nat} (hN : N ≤ sz) (hSh : ∀ a : Addr, Sh (.cell a) → a.block < sz) (hB : sz < B) (w : World) (hF : Fa N W sz L w) :
    Goes Try.prog true AtRel (DE (EvL Sh B)) (fun g' w' => g' = retG b₀ a₀ ops₀ i₀ rest₀ k₀ cs (.tuple #[.int .i64 0, .bool false]) ∧ Fa N W (sz + 1) L w') 200 (entR m (b₀.at a₀ (.inRegion ops₀ (i₀ :: rest₀) :: k₀) :: cs)) w := by
  have evm : EvL Sh B ⟨.cell ⟨sz, 0, none⟩, false, false⟩ := evL_cell _ _ (fun h => absurd (hSh _ h) (Nat.lt_irrefl sz)) (by show sz < B; omega)
  simp only [entR, bodyR, Try.f8, Option.getD_some]
  u_c stepG_seq Fa.atRel hF
  u_reg Fa.atRel hF
  u_op Fa.atRel hF
  u_op Fa.atRel hF
  u_c stepG_region_end Fa.atRel hF
  u_c stepG_seq Fa.atRel hF
  u_reg Fa.atRel hF
  u_op Fa.atRel hF
  u_call Try.func16 (by rfl) Try.f16 Fa.atRel hF
  u_c stepG_seq Fa.atRel hF
  u_reg Fa.atRel hF
  ((refine Goes.step rfl (fun _ h₁ => ?_); replace hF := Fa.atRel hF h₁; clear h₁)
   have hs := Fa.size hF
   refine goes_oper_k rfl rfl (by k_ne) (fun K hK => ?_)
   go_simp
   refine hK _ _ ⟨fun e he => ?_, ?_⟩
   · have hm := mem_listed he
     simp [go_sem, *] at hm
   clear hK K
   replace hF := Fa.alloc hF (by omega) (.cells #[.int .i64 m] 3)
   clear hs)
  u_op Fa.atRel hF
  u_op Fa.atRel hF
  u_c stepG_region_end Fa.atRel hF
  u_c stepG_seq Fa.atRel hF
  u_c stepG_seq Fa.atRel hF
  u_reg Fa.atRel hF
  ((refine Goes.step rfl (fun _ h₁ => ?_); replace hF := Fa.atRel hF h₁; clear h₁)
   have _ := hF.cellOf (b := sz) (k := 0) (List.mem_cons_self ..) rfl
   refine goes_oper_k rfl rfl (by k_ne) (fun K hK => ?_)
   go_simp
   refine hK _ _ ⟨fun e he => ?_, ?_⟩
   · have hm := mem_listed he
     simp [go_sem, *] at hm
     first | (subst hm; exact evm) | (rcases hm with hm | hm <;> (subst hm; exact evm))
   clear hK K)
  rename_i w₉ _
  refine Goes.call (m := 138) (nf := 40) (Post := fun v w' => v = .bool (modB m) ∧ Since AtRel w₉ w') terms_b rfl (by rfl) (by k_ne) rfl ?_ (fun v w₁ hp => ?_)
  · walk_nrm
    exact k_inModuli terms_b m _
  obtain ⟨rfl, hs⟩ := hp
  replace hF := hF.since hs
  clear hs
  rw [hmod]
  walk_nrm
  u_op Fa.atRel hF
  u_c stepG_region_end Fa.atRel hF
  u_cond true Fa.atRel hF
  repeat (first | u_c stepG_seq Fa.atRel hF | u_c stepG_region_end Fa.atRel hF | u_reg Fa.atRel hF | u_op Fa.atRel hF | u_c stepG_ret' Fa.atRel hF)
  u_in Fa.atRel hF
  refine goes_leave2 rfl rfl Try.func16 rfl ⟨by u_nil, ?_⟩
  walk_nrm
  repeat (first | u_c stepG_seq Fa.atRel hF | u_c stepG_region_end Fa.atRel hF | u_reg Fa.atRel hF | u_op Fa.atRel hF)
  u_cond true Fa.atRel hF
  repeat (first | u_c stepG_seq Fa.atRel hF | u_c stepG_region_end Fa.atRel hF | u_reg Fa.atRel hF | u_op Fa.atRel hF | u_c stepG_ret' Fa.atRel hF)
  u_in Fa.atRel hF
  refine goes_leave2 rfl rfl Try.func8 rfl ⟨by u_nil, ?_⟩
  simp only [List.getElem?_toArray, Array.getD_eq_getD_getElem?, List.getElem?_cons_succ, List.getElem?_cons_zero, Option.getD_some]
  refine Goes.stop (fun w₉ r₉ => ?_)
  exact ⟨rfl, (hF.atRel r₉).weak fun q hq => List.mem_cons_of_mem _ hq⟩

/-- SolveRoot(m). -/
theorem rootAny {m : Int} (hB : hi + 20000 < B) {mc : Machine} {t : Trace} (h : Stn B N W L hi (entR m (b₀.at a₀ (.inRegion ops₀ (i₀ :: rest₀) :: k₀) :: cs)) mc t) :
    Reach mc t (Stn B N W L (hi + 7000) (retG b₀ a₀ ops₀ i₀ rest₀ k₀ cs (.tuple #[.int .i64 (rootR m).1, .bool (rootR m).2]))) := by
  by_cases hm : 1 ≤ m ∧ m ≤ 1000
  · exact rootCall hm.1 hm.2 hB h
  · have e : rootR m = (0, false) := by simp only [rootR, if_neg hm]
    have hmod : modB m = false := by
      cases hb : modB m with
      | false => rfl
      | true => exact absurd (modB_iff.1 hb) hm
    rw [e]
    exact h.walk fun Sh sz h1 h2 hc _ _ w hF => ⟨200, goes_mono (fun g' w' hx => ⟨hx.1, _, Nat.le_succ sz, by omega, hx.2⟩) (rootEarly hmod h1 (fun a h => (hc a h).2) (by omega) w hF)⟩
end
/-- To the end. -/
theorem Stn.ends {B N : Nat} {W : World} {L : List (Nat × Obj)} {hi : Nat} {g : Goroutine} {mc : Machine} {t : Trace} (h : Stn B N W L hi g mc t)
    (hg : ∀ (Sh : Loc → Prop) (sz : Nat), N ≤ sz → sz ≤ hi → (∀ a : Addr, Sh (.cell a) → N ≤ a.block ∧ a.block < sz) → (∀ b, Sh (.obj b) → N ≤ b ∧ b < sz) → ∀ w, Fa N W sz L w →
      ∃ n, Goes Try.prog true AtRel (DE (EvL Sh B)) (AtEnd Try.prog Sh B (PostL W)) n g w) : Ends W mc t := by
  obtain ⟨Sh, s, sz, h1, h2, hc, ho, gs, g', w, sl, q, rfl, hs, h0, ⟨rfl, hF⟩, L0, P0⟩ := h
  obtain ⟨n, hn⟩ := hg Sh sz h1 h2 hc ho w hF
  exact beside_ends (P := Try.prog) (Post := PostL W) (sl := sl) (fun _ _ _ h => h) h0 L0 P0 hn
/-- Where a run begins. -/
theorem Stn.first (B : Nat) (W : World) (g : Goroutine) : Stn B W.heap.size W [] W.heap.size g (solo g W) #[] := by
  refine ⟨fun _ => False, 1, W.heap.size, Nat.le_refl _, Nat.le_refl _, fun _ h => h.elim, fun _ h => h.elim, #[g], g, W, none, fun _ => 0, solo_eq_crowd _ _, rfl, rfl, ⟨rfl, ⟨rfl, fun _ _ => rfl, by simp, rfl, rfl, rfl⟩⟩, leavers_one _ _, past_nil.mono (Nat.zero_le _)⟩
theorem Fa.below {W w : World} {sz : Nat} {L : List (Nat × Obj)} (h : Fa W.heap.size W sz L w) (hs : W.heap.size ≤ sz) : Below W.heap.size W w := ⟨h.os, h.tape, h.output, by rw [h.size]; exact hs, fun k hk => h.old k hk⟩
end Go.Proofs.Ytjofmchipkfnmaa
