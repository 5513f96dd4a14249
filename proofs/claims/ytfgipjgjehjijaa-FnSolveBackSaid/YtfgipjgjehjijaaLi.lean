/- SolveUnits beside others: a round of its loop (own text). -/
import Derived.Test.YtfgipjgjehjijaaLh
namespace Go.Proofs.Ytfgipjgjehjijaa
open Go Go.Conc Go.ConcN Go.RowKit Go.Conc.Lib Go.ConcR.Gen Go.ConcN.Gen
open Go.ConcR (KK wgBlock WgAt stA smA rd wr mk Payload DC0)

theorem Fa.put {N : Nat} {W w : World} {sz : Nat} {L : List (Nat × Obj)} {b : Nat} {o : Obj} (o' : Obj) (h : Fa N W sz ((b, o) :: L) w) (hb : N ≤ b) (hL : ∀ q ∈ L, q.1 ≠ b) : Fa N W sz ((b, o') :: L) (w.putObj b o') := by
  have hlt := lt_of_blk (h.blk _ (List.mem_cons_self ..))
  have e : ∀ k, k ≠ b → (w.putObj b o').heap[k]? = w.heap[k]? := fun k hk => World.putObj_heap_other hk
  refine ⟨by simpa [World.putObj] using h.size, fun k hk => (e k (by omega)).trans (h.old k hk), fun q hq => ?_, h.tape, h.os, h.output⟩
  rcases List.mem_cons.1 hq with rfl | hq
  · exact World.putObj_heap_same hlt
  · exact (e _ (hL q hq)).trans (h.blk q (List.mem_cons_of_mem _ hq))

theorem swap2 {α : Type} (a b : α) (l : List α) : ∀ q ∈ b :: a :: l, q ∈ a :: b :: l := fun q hq => by
  simp only [List.mem_cons] at hq ⊢
  rcases hq with h | h | h
  · exact .inr (.inl h)
  · exact .inl h
  · exact .inr (.inr h)
/-- The loop's record. -/
noncomputable def recU (tm : Array Value) (d : Nat) (st : LoopState) : Loop :=
  { state := st, pending := none, fn := 12, tmps := tm, params := #[13], assign := (match cR (cR (cL (cR (cR (cR bodyU))))) with | .rangeFunc _ _ a _ => a | c => c), body := (match cR (cR (cL (cR (cR (cR bodyU))))) with | .rangeFunc _ _ _ b => b | c => c), defers := d }
/-- What is kept from round to round. -/
def JU (N : Nat) (W : World) (sz : Nat) (L : List (Nat × Obj)) (m : Int) (tm : Array Value) (k : Nat) (w : World) : Prop :=
  Fa N W (sz + 10) ((sz + 8, .loop (recU tm (sz + 7) .ready)) :: (sz + 1, .cells #[.int .i64 (unK m k)] 3) :: (sz + 7, .deferred (some [])) :: (sz + 6, .cells #[.int .i64 (m + 1)] 3) :: (sz + 5, .cells #[.int .i64 1] 3) :: (sz + 4, .cells #[.int .i64 0, .int .i64 1] 32) :: (sz, .cells #[.int .i64 m] 3) :: L) w
/-- SolveUnits' temporaries at its loop. -/
noncomputable def tmU (m : Int) (sz : Nat) : Array Value :=
  #[.int .i64 m, .pointer (some ⟨sz, 0, none⟩), .int .i64 0, .bool false, .pointer (some ⟨sz + 1, 0, none⟩), undef, .int .i64 m, .bool true, .bool false, .agg #[.int .i64 0, .int .i64 1], .int .i64 m, .int .i64 (m + 1), .func (.func 48) #[] #[.pointer (some ⟨sz + 4, 0, none⟩), .pointer (some ⟨sz + 4 + 1, 0, none⟩), .pointer (some ⟨sz + 4 + 1 + 1, 0, none⟩)],
    undef, undef, undef, undef, undef, undef, undef, undef]

section
variable {Sh : Loc → Prop} {B N sz : Nat} {W : World} {L : List (Nat × Obj)} {cs : List Frame}
set_option maxRecDepth 100000 in
set_option maxHeartbeats 8000000 in
theorem roundU {S : Goroutine → World → Prop} {m : Int} (hm : 1 ≤ m) (hm2 : m ≤ 1000) (hN : N ≤ sz) (hSh : ∀ a : Addr, Sh (.cell a) → a.block < sz) (hB : sz + 10 < B) (hO : ¬ Sh (.obj (sz + 8))) (hL : ∀ q ∈ L, q.1 < sz)
    (k : Nat) (w : World) (c : Frame) (n' : Nat) (hk : (k : Int) < m) (hF : JU N W sz L m (tmU m sz) k w)
    (next : ∀ w', JU N W sz L m (tmU m sz) (k + 1) w' → Goes Try.prog true AtRel (DE (EvL Sh B)) S n' (G (c.finish (.bool true)) cs) w') :
    Goes Try.prog true AtRel (DE (EvL Sh B)) S (n' + 102100) (G (Frame.round (sz + 8) (recU (tmU m sz) (sz + 7) .ready).fn ((recU (tmU m sz) (sz + 7) .ready).tmps.setIfInBounds 13 (.int .i64 ((k : Int) + 1))) (recU (tmU m sz) (sz + 7) .ready).assign (recU (tmU m sz) (sz + 7) .ready).body .normal) (c :: cs)) w := by
  have hF : Fa N W (sz + 10) _ w := hF
  have e : ∀ (tm : Array Value) (ac bd : Code), Frame.round (sz + 8) 12 tm ac bd .normal = ({ (default : Frame) with fn := 12, kind := .normal, roundOf := some (sz + 8) } : Frame).atR ⟨tm, []⟩ [.code ac, .beginRound, .code bd] := fun _ _ _ => rfl
  obtain ⟨fr, hfr⟩ : ∃ fr : Frame, fr = { (default : Frame) with fn := 12, kind := .normal, roundOf := some (sz + 8) } := ⟨_, rfl⟩
  have f1 : fr.roundOf = some (sz + 8) := by rw [hfr]
  have f2 : fr.kind = .normal := by rw [hfr]
  rw [show (recU (tmU m sz) (sz + 7) .ready).fn = 12 from rfl, e, ← hfr]
  clear e
  have ed : (recU (tmU m sz) (sz + 7) .ready).tmps.setIfInBounds 13 (.int .i64 ((k : Int) + 1)) = #[.int .i64 m, .pointer (some ⟨sz, 0, none⟩), .int .i64 0, .bool false, .pointer (some ⟨sz + 1, 0, none⟩), undef, .int .i64 m, .bool true, .bool false, .agg #[.int .i64 0, .int .i64 1], .int .i64 m, .int .i64 (m + 1), .func (.func 48) #[] #[.pointer (some ⟨sz + 4, 0, none⟩), .pointer (some ⟨sz + 4 + 1, 0, none⟩), .pointer (some ⟨sz + 4 + 1 + 1, 0, none⟩)],
    .int .i64 ((k : Int) + 1), undef, undef, undef, undef, undef, undef, undef] := rfl
  rw [ed]
  clear ed
  have evm : EvL Sh B ⟨.cell ⟨sz, 0, none⟩, false, false⟩ := evL_cell _ _ (fun h => absurd (hSh _ h) (Nat.lt_irrefl sz)) (by show sz < B; omega)
  have evu : ∀ wr, EvL Sh B ⟨.cell ⟨sz + 1, 0, none⟩, wr, false⟩ := fun wr => evL_cell _ _ (fun h => absurd (hSh _ h) (by show ¬ sz + 1 < sz; omega)) (by show sz + 1 < B; omega)
  generalize hrec : recU (tmU m sz) (sz + 7) .ready = rec at hF ⊢
  have has : rec.assign = (recU (tmU m sz) (sz + 7) .ready).assign := by rw [hrec]
  have hbd : rec.body = (recU (tmU m sz) (sz + 7) .ready).body := by rw [hrec]
  have hst : rec.state = .ready := by rw [← hrec]; rfl
  simp only [has, hbd, recU, bodyU, cR, cL, Try.f12, Option.getD_some]
  clear has hbd
  ((refine Goes.step rfl (fun _ h₁ => ?_); replace hF := Fa.atRel hF h₁; clear h₁); rw [rG_region]; simp only [goes_go, List.size_toArray, List.length_cons, List.length_nil, Nat.reduceAdd, Nat.zero_add, List.range, List.range.loop]; refine ⟨by u_nil, ?_⟩)
  ((refine Goes.step rfl (fun _ h₁ => ?_); replace hF := Fa.atRel hF h₁; clear h₁)
   refine goes_operR_k rfl rfl (by first | decide | (simp [*]; done)) (fun c => by simp) (fun K hK => ?_)
   go_simp
   refine hK _ _ ⟨fun e he => ?_, ?_⟩
   · have hm := mem_listed he
     simp [go_sem, *] at hm
   clear hK K
   try w_num)
  ((refine Goes.step rfl (fun _ h₁ => ?_); replace hF := Fa.atRel hF h₁; clear h₁); rw [rG_region_end]; simp only [goes_go]; refine ⟨by u_nil, ?_⟩)
  -- the round begins
  have hne : ∀ q ∈ ((sz + 1, .cells #[.int .i64 (unK m k)] 3) :: (sz + 7, .deferred (some [])) :: (sz + 6, .cells #[.int .i64 (m + 1)] 3) :: (sz + 5, .cells #[.int .i64 1] 3) :: (sz + 4, .cells #[.int .i64 0, .int .i64 1] 32) :: (sz, Obj.cells #[.int .i64 m] 3) :: L), q.1 ≠ sz + 8 := by
    intro q hq
    simp only [List.mem_cons] at hq
    rcases hq with rfl | rfl | rfl | rfl | rfl | rfl | hq
    all_goals first | (show _ ≠ sz + 8; simp; done) | (have := hL q hq; omega)
  have evl : ∀ wr, EvL Sh B ⟨.obj (sz + 8), wr, false⟩ := fun wr => by
    have hlo : sz + 8 < B := by omega
    cases wr <;> exact ⟨fun x hx hs => by simp [MemAct.ofEvent, MemAct.touch?] at hx; subst hx; exact absurd hs hO, by simp, by simp, hlo⟩
  (refine Goes.step rfl (fun _ h₁ => ?_); replace hF := Fa.atRel hF h₁; clear h₁)
  rw [rG_begin f1 f2 (run_beginRound (hF.blk _ (List.mem_cons_self ..)) hst)]
  simp only [goes_go]
  refine ⟨fun e he => ?_, ?_⟩
  · have he := mem_seen he
    rw [ev_beginRound (hF.blk _ (List.mem_cons_self ..)) hst] at he
    simp at he
    rcases he with rfl | rfl <;> exact evl _
  replace hF := hF.put (.loop { rec with state := .busy }) (by omega) hne
  ((refine Goes.step rfl (fun _ h₁ => ?_); replace hF := Fa.atRel hF h₁; clear h₁); rw [rG_block]; simp only [goes_go]; refine ⟨by u_nil, ?_⟩)
  ((refine Goes.step rfl (fun _ h₁ => ?_); replace hF := Fa.atRel hF h₁; clear h₁); rw [rG_seq]; simp only [goes_go]; refine ⟨by u_nil, ?_⟩)
  ((refine Goes.step rfl (fun _ h₁ => ?_); replace hF := Fa.atRel hF h₁; clear h₁); rw [rG_region]; simp only [goes_go, List.size_toArray, List.length_cons, List.length_nil, Nat.reduceAdd, Nat.zero_add, List.range, List.range.loop]; refine ⟨by u_nil, ?_⟩)
  ((refine Goes.step rfl (fun _ h₁ => ?_); replace hF := Fa.atRel hF h₁; clear h₁)
   refine goes_operR_k rfl rfl (by first | decide | (simp [*]; done)) (fun c => by simp) (fun K hK => ?_)
   go_simp
   refine hK _ _ ⟨fun e he => ?_, ?_⟩
   · have hm := mem_listed he
     simp [go_sem, *] at hm
   clear hK K
   try w_num)
  ((refine Goes.step rfl (fun _ h₁ => ?_); replace hF := Fa.atRel hF h₁; clear h₁)
   have hc := (hF.cellOf (b := sz) (k := 0) (c := #[.int .i64 m]) (ty := 3) (by simp) rfl)
   refine goes_operR_k rfl rfl (by first | decide | (simp [*]; done)) (fun c => by simp) (fun K hK => ?_)
   go_simp
   refine hK _ _ ⟨fun e he => ?_, ?_⟩
   · have hm := mem_listed he
     simp [go_sem, *] at hm
     subst hm
     exact evm
   clear hK K hc)
  rename_i w₉
  refine Goes.callR (m := n' + 88) (nf := 102000) (Post := fun v w' => v = .int .i64 (gcdI ((k : Int) + 1) m) ∧ Since AtRel w₉ w') terms_b rfl (by rfl) f2 rfl ?_ (fun v w₁ hp => ?_)
  · walk_nrm
    exact k_commonDivisor ((k : Int) + 1) m (by omega) (by omega) (by omega) hm2 _
  obtain ⟨rfl, hs⟩ := hp
  replace hF := hF.since hs
  clear hs
  walk_nrm
  obtain ⟨u0, u1⟩ := unK_bd m k
  have hne1 : ∀ q ∈ ((sz + 8, .loop { rec with state := .busy }) :: (sz + 7, .deferred (some [])) :: (sz + 6, .cells #[.int .i64 (m + 1)] 3) :: (sz + 5, .cells #[.int .i64 1] 3) :: (sz + 4, .cells #[.int .i64 0, .int .i64 1] 32) :: (sz, Obj.cells #[.int .i64 m] 3) :: L), q.1 ≠ sz + 1 := by
    intro q hq
    simp only [List.mem_cons] at hq
    rcases hq with rfl | rfl | rfl | rfl | rfl | rfl | hq
    all_goals first | (show _ ≠ sz + 1; simp; done) | (show _ ≠ sz + 1; omega) | (have := hL q hq; omega)
  by_cases hg : gcdI ((k : Int) + 1) m = 1
  · have hgb : (gcdI ((k : Int) + 1) m == 1) = true := by simpa using hg
    have hu2 : unK m (k + 1) = unK m k + 1 := by simp only [unK, if_pos hg]
    have hu : IntKind.i64.wrap (unK m k + 1) = unK m k + 1 := by rw [IntKind.wrap_i64]; omega
    ((refine Goes.step rfl (fun _ h₁ => ?_); replace hF := Fa.atRel hF h₁; clear h₁)
     refine goes_operR_k rfl rfl (by first | decide | (simp [*]; done)) (fun c => by simp) (fun K hK => ?_)
     go_simp
     refine hK _ _ ⟨fun e he => ?_, ?_⟩
     · have hm := mem_listed he
       simp [go_sem, *] at hm
     clear hK K
     try w_num)
    ((refine Goes.step rfl (fun _ h₁ => ?_); replace hF := Fa.atRel hF h₁; clear h₁); rw [rG_region_end]; simp only [goes_go]; refine ⟨by u_nil, ?_⟩)
    (refine Goes.step rfl (fun _ h₁ => ?_); replace hF := Fa.atRel hF h₁; clear h₁)
    rw [rG_cond (t := true) (by simp [Act.eval]; done)]
    simp only [goes_go, if_true]
    refine ⟨by u_nil, ?_⟩
    ((refine Goes.step rfl (fun _ h₁ => ?_); replace hF := Fa.atRel hF h₁; clear h₁); rw [rG_region]; simp only [goes_go, List.size_toArray, List.length_cons, List.length_nil, Nat.reduceAdd, Nat.zero_add, List.range, List.range.loop]; refine ⟨by u_nil, ?_⟩)
    ((refine Goes.step rfl (fun _ h₁ => ?_); replace hF := Fa.atRel hF h₁; clear h₁)
     have hc := (hF.cellOf (b := sz + 1) (k := 0) (c := #[.int .i64 (unK m k)]) (ty := 3) (by simp) rfl)
     refine goes_operR_k rfl rfl (by first | decide | (simp [*]; done)) (fun c => by simp) (fun K hK => ?_)
     go_simp
     refine hK _ _ ⟨fun e he => ?_, ?_⟩
     · have hm := mem_listed he
       simp [go_sem, *] at hm
       subst hm
       exact (evu _)
     clear hK K hc)
    ((refine Goes.step rfl (fun _ h₁ => ?_); replace hF := Fa.atRel hF h₁; clear h₁)
     refine goes_operR_k rfl rfl (by first | decide | (simp [*]; done)) (fun c => by simp) (fun K hK => ?_)
     go_simp
     refine hK _ _ ⟨fun e he => ?_, ?_⟩
     · have hm := mem_listed he
       simp [go_sem, *] at hm
     clear hK K
     try w_num)
    (refine Goes.step rfl (fun _ h₁ => ?_); replace hF := Fa.atRel hF h₁; clear h₁)
    have hc := hF.cellOf (b := sz + 1) (k := 0) (c := #[.int .i64 (unK m k)]) (ty := 3) (by simp) rfl
    have hz := hF.thaw (b := sz + 1) (k := 0) (c := #[.int .i64 (unK m k)]) (ty := 3) (by simp)
    refine goes_operR_k rfl rfl (by first | decide | (simp [*]; done)) (fun c => by simp) (fun K hK => ?_)
    go_simp
    refine hK _ _ ⟨fun e he => ?_, ?_⟩
    · have hm := mem_listed he
      simp [go_sem, *] at hm
      subst hm
      exact evu _
    clear hK K hc hz
    replace hF := (hF.weak (L' := (sz + 1, .cells #[.int .i64 (unK m k)] 3) :: (sz + 8, .loop { rec with state := .busy }) :: (sz + 7, .deferred (some [])) :: (sz + 6, .cells #[.int .i64 (m + 1)] 3) :: (sz + 5, .cells #[.int .i64 1] 3) :: (sz + 4, .cells #[.int .i64 0, .int .i64 1] 32) :: (sz, Obj.cells #[.int .i64 m] 3) :: L) (swap2 _ _ _)).set (k := 0) (v := .int .i64 (unK m k + 1)) (by omega) hne1
    have e1 : #[Value.int .i64 (unK m k)].setIfInBounds 0 (.int .i64 (unK m k + 1)) = #[.int .i64 (unK m k + 1)] := by simp
    rw [e1] at hF
    clear e1
    rw [← hu2] at hF ⊢
    ((refine Goes.step rfl (fun _ h₁ => ?_); replace hF := Fa.atRel hF h₁; clear h₁); rw [rG_region_end]; simp only [goes_go]; refine ⟨by u_nil, ?_⟩)
    ((refine Goes.step rfl (fun _ h₁ => ?_); replace hF := Fa.atRel hF h₁; clear h₁); rw [rG_inBlock]; simp only [goes_go]; refine ⟨by u_nil, ?_⟩)
    (refine Goes.step rfl (fun _ h₁ => ?_); replace hF := Fa.atRel hF h₁; clear h₁)
    have hbz := hF.blk (sz + 8, .loop { rec with state := .busy }) (by simp)
    rw [rG_end f1 f2 (run_endRound none hbz)]
    simp only [goes_go]
    refine ⟨fun e he => ?_, ?_⟩
    · have he := mem_seen he
      rw [ev_endRound hbz] at he
      simp at he
      rcases he with rfl | rfl <;> exact evl _
    have hend : ({ ({ rec with state := .busy } : Loop) with state := (if (none : Option Code).isNone then .ready else .done), pending := none } : Loop) = rec := by rw [← hrec]; rfl
    rw [hend]
    have hne2 : ∀ q ∈ ((sz + 1, Obj.cells #[.int .i64 (unK m (k + 1))] 3) :: (sz + 7, .deferred (some [])) :: (sz + 6, .cells #[.int .i64 (m + 1)] 3) :: (sz + 5, .cells #[.int .i64 1] 3) :: (sz + 4, .cells #[.int .i64 0, .int .i64 1] 32) :: (sz, Obj.cells #[.int .i64 m] 3) :: L), q.1 ≠ sz + 8 := by
      intro q hq
      simp only [List.mem_cons] at hq
      rcases hq with rfl | rfl | rfl | rfl | rfl | rfl | hq
      all_goals first | (show _ ≠ sz + 8; simp; done) | (have := hL q hq; omega)
    have hF2 := (hF.weak (swap2 (sz + 1, Obj.cells #[.int .i64 (unK m (k + 1))] 3) (sz + 8, .loop { rec with state := .busy }) _)).put (.loop rec) (by omega) hne2
    refine goes_more 78 (next _ ?_)
    show Fa N W (sz + 10) _ _
    rw [hrec]
    exact hF2
  · have hgb : (gcdI ((k : Int) + 1) m == 1) = false := by simpa using hg
    have hu2 : unK m (k + 1) = unK m k := by simp only [unK, if_neg hg]; omega
    ((refine Goes.step rfl (fun _ h₁ => ?_); replace hF := Fa.atRel hF h₁; clear h₁)
     refine goes_operR_k rfl rfl (by first | decide | (simp [*]; done)) (fun c => by simp) (fun K hK => ?_)
     go_simp
     refine hK _ _ ⟨fun e he => ?_, ?_⟩
     · have hm := mem_listed he
       simp [go_sem, *] at hm
     clear hK K
     try w_num)
    ((refine Goes.step rfl (fun _ h₁ => ?_); replace hF := Fa.atRel hF h₁; clear h₁); rw [rG_region_end]; simp only [goes_go]; refine ⟨by u_nil, ?_⟩)
    (refine Goes.step rfl (fun _ h₁ => ?_); replace hF := Fa.atRel hF h₁; clear h₁)
    rw [rG_cond (t := false) (by simp [Act.eval])]
    simp only [goes_go, if_false, Bool.false_eq_true]
    refine ⟨by u_nil, ?_⟩
    ((refine Goes.step rfl (fun _ h₁ => ?_); replace hF := Fa.atRel hF h₁; clear h₁); rw [rG_skip]; simp only [goes_go]; refine ⟨by u_nil, ?_⟩)
    ((refine Goes.step rfl (fun _ h₁ => ?_); replace hF := Fa.atRel hF h₁; clear h₁); rw [rG_inBlock]; simp only [goes_go]; refine ⟨by u_nil, ?_⟩)
    (refine Goes.step rfl (fun _ h₁ => ?_); replace hF := Fa.atRel hF h₁; clear h₁)
    have hbz := hF.blk (sz + 8, .loop { rec with state := .busy }) (by simp)
    rw [rG_end f1 f2 (run_endRound none hbz)]
    simp only [goes_go]
    refine ⟨fun e he => ?_, ?_⟩
    · have he := mem_seen he
      rw [ev_endRound hbz] at he
      simp at he
      rcases he with rfl | rfl <;> exact evl _
    have hend : ({ ({ rec with state := .busy } : Loop) with state := (if (none : Option Code).isNone then .ready else .done), pending := none } : Loop) = rec := by rw [← hrec]; rfl
    rw [hend]
    have hF2 := hF.put (.loop rec) (by omega) hne
    refine goes_more 82 (next _ ?_)
    show Fa N W (sz + 10) _ _
    rw [hrec, hu2]
    exact hF2
end
end Go.Proofs.Ytfgipjgjehjijaa
