/- slices.AppendSeq beside others: a round of its loop (own text; in work). -/
import Derived.Test.YtfgipjgjehjijaaLn
import Derived.Test.YtfgipjgjehjijaaLk
import Derived.Conc.AppendWalk
import Derived.Conc.AppendEvents3
namespace Go.Proofs.Ytfgipjgjehjijaa
open Go Go.Conc Go.ConcN Go.RowKit Go.Conc.Lib Go.ConcR.Gen Go.ConcN.Gen
open Go.ConcR (KK wgBlock WgAt stA smA rd wr mk Payload DC0)

noncomputable def bodyC : Code := Try.f50.body.getD .skip
/-- The loop's record. -/
noncomputable def recC (tm : Array Value) (d : Nat) (st : LoopState) : Loop :=
  { state := st, pending := none, fn := 50, tmps := tm, params := #[7], assign := (match cR (cR (cL (cR bodyC))) with | .rangeFunc _ _ a _ => a | c => c), body := (match cR (cR (cL (cR bodyC))) with | .rangeFunc _ _ _ b => b | c => c), defers := d }
/-- The numbers 1 to k. -/
def upTo (k : Nat) : List Value := (List.range k).map fun (j : Nat) => .int .i64 ((j : Int) + 1)
theorem upTo_succ (k : Nat) : upTo (k + 1) = upTo k ++ [.int .i64 ((k : Int) + 1)] := by simp [upTo, List.range_succ]
theorem upTo_length (k : Nat) : (upTo k).length = k := by simp [upTo]
noncomputable def tmC (sz C : Nat) : Array Value :=
  #[.slice none 0 0, .func (.func 48) #[] #[.pointer (some ⟨C, 0, none⟩), .pointer (some ⟨C + 1, 0, none⟩), .pointer (some ⟨C + 1 + 1, 0, none⟩)], .pointer (some ⟨sz, 0, none⟩), undef, .slice none 0 0, undef, .func (.func 48) #[] #[.pointer (some ⟨C, 0, none⟩), .pointer (some ⟨C + 1, 0, none⟩), .pointer (some ⟨C + 1 + 1, 0, none⟩)],
    undef, undef, undef, undef, undef, undef]
/-- What is kept from round to round. -/
def JC (N : Nat) (W : World) (sz C : Nat) (L : List (Nat × Obj)) (k : Nat) (w : World) : Prop :=
  ∃ v, Ga N W (sz + 4) (sz + 4 + 2 * k) ((sz + 2, .loop (recC (tmC sz C) (sz + 1) .ready)) :: (sz, .cells #[v] 39) :: (sz + 1, .deferred (some [])) :: L) v (upTo k) w

theorem evL_any {Sh : Loc → Prop} {B : Nat} {e : Event} {c : Addr} (he : e.loc = .cell c) (h1 : ¬ Sh (.cell c)) (h2 : c.block < B) : EvL Sh B e := by
  obtain ⟨l, wr, sy⟩ := e
  cases he
  refine ⟨fun x hx hs => ?_, by simp, by simp, by rw [ofEvent_cell0]; exact h2⟩
  simp only [ofEvent_cell0, MemAct.touch?, Option.some.injEq] at hx
  subst hx
  exact absurd hs h1
section
variable {Sh : Loc → Prop} {B N sz C : Nat} {W : World} {L : List (Nat × Obj)} {cs : List Frame}
set_option maxRecDepth 100000 in
set_option maxHeartbeats 8000000 in
theorem roundC {S : Goroutine → World → Prop} {m : Int} (hm2 : m ≤ 1000) (hN : N ≤ sz) (hSh : ∀ a : Addr, Sh (.cell a) → a.block < sz) (hB : sz + 4 + 3000 < B) (hO : ¬ Sh (.obj (sz + 2))) (hL : ∀ q ∈ L, q.1 < sz)
    (k : Nat) (w : World) (c : Frame) (n' : Nat) (hk : (k : Int) < m) (hJ : JC N W sz C L k w)
    (next : ∀ w', JC N W sz C L (k + 1) w' → Goes Try.prog true AtRel (DE (EvL Sh B)) S n' (G (c.finish (.bool true)) cs) w') :
    Goes Try.prog true AtRel (DE (EvL Sh B)) S (n' + 40) (G (Frame.round (sz + 2) (recC (tmC sz C) (sz + 1) .ready).fn ((recC (tmC sz C) (sz + 1) .ready).tmps.setIfInBounds 7 (.int .i64 ((k : Int) + 1))) (recC (tmC sz C) (sz + 1) .ready).assign (recC (tmC sz C) (sz + 1) .ready).body .normal) (c :: cs)) w := by
  obtain ⟨v, hF⟩ := hJ
  have e : ∀ (tm : Array Value) (ac bd : Code), Frame.round (sz + 2) 50 tm ac bd .normal = ({ (default : Frame) with fn := 50, kind := .normal, roundOf := some (sz + 2) } : Frame).atR ⟨tm, []⟩ [.code ac, .beginRound, .code bd] := fun _ _ _ => rfl
  obtain ⟨fr, hfr⟩ : ∃ fr : Frame, fr = { (default : Frame) with fn := 50, kind := .normal, roundOf := some (sz + 2) } := ⟨_, rfl⟩
  have f1 : fr.roundOf = some (sz + 2) := by rw [hfr]
  have f2 : fr.kind = .normal := by rw [hfr]
  rw [show (recC (tmC sz C) (sz + 1) .ready).fn = 50 from rfl, e, ← hfr]
  clear e
  have ed : (recC (tmC sz C) (sz + 1) .ready).tmps.setIfInBounds 7 (.int .i64 ((k : Int) + 1)) = #[.slice none 0 0, .func (.func 48) #[] #[.pointer (some ⟨C, 0, none⟩), .pointer (some ⟨C + 1, 0, none⟩), .pointer (some ⟨C + 1 + 1, 0, none⟩)], .pointer (some ⟨sz, 0, none⟩), undef, .slice none 0 0, undef, .func (.func 48) #[] #[.pointer (some ⟨C, 0, none⟩), .pointer (some ⟨C + 1, 0, none⟩), .pointer (some ⟨C + 1 + 1, 0, none⟩)],
    .int .i64 ((k : Int) + 1), undef, undef, undef, undef, undef] := rfl
  rw [ed]
  clear ed
  have evb : ∀ wr, EvL Sh B ⟨.cell ⟨sz, 0, none⟩, wr, false⟩ := fun wr => evL_cell _ _ (fun h => absurd (hSh _ h) (Nat.lt_irrefl sz)) (by show sz < B; omega)
  have evl : ∀ wr, EvL Sh B ⟨.obj (sz + 2), wr, false⟩ := fun wr => by
    have hlo : sz + 2 < B := by omega
    cases wr <;> exact ⟨fun x hx hs => by simp [MemAct.ofEvent, MemAct.touch?] at hx; subst hx; exact absurd hs hO, by simp, by simp, hlo⟩
  generalize hrec : recC (tmC sz C) (sz + 1) .ready = rec at hF ⊢
  have has : rec.assign = (recC (tmC sz C) (sz + 1) .ready).assign := by rw [hrec]
  have hbd : rec.body = (recC (tmC sz C) (sz + 1) .ready).body := by rw [hrec]
  have hst : rec.state = .ready := by rw [← hrec]; rfl
  simp only [has, hbd, recC, bodyC, cR, cL, Try.f50, Option.getD_some]
  clear has hbd
  ((refine Goes.step rfl (fun _ h₁ => ?_); replace hF := Ga.atRel hF h₁; clear h₁); rw [rG_region]; simp only [goes_go, List.size_toArray, List.length_cons, List.length_nil, Nat.reduceAdd, Nat.zero_add, List.range, List.range.loop]; refine ⟨by u_nil, ?_⟩)
  ((refine Goes.step rfl (fun _ h₁ => ?_); replace hF := Ga.atRel hF h₁; clear h₁)
   refine goes_operR_k rfl rfl (by first | decide | (simp [*]; done)) (fun c => by simp) (fun K hK => ?_)
   go_simp
   refine hK _ _ ⟨fun e he => ?_, ?_⟩
   · have hm := mem_listed he
     simp [go_sem, *] at hm
   clear hK K
   try w_num)
  ((refine Goes.step rfl (fun _ h₁ => ?_); replace hF := Ga.atRel hF h₁; clear h₁); rw [rG_region_end]; simp only [goes_go]; refine ⟨by u_nil, ?_⟩)
  have hne : ∀ q ∈ ((sz, .cells #[v] 39) :: (sz + 1, Obj.deferred (some [])) :: L), q.1 ≠ sz + 2 := by
    intro q hq
    simp only [List.mem_cons] at hq
    rcases hq with rfl | rfl | hq
    all_goals first | (show _ ≠ sz + 2; simp; done) | (have := hL q hq; omega)
  (refine Goes.step rfl (fun _ h₁ => ?_); replace hF := Ga.atRel hF h₁; clear h₁)
  rw [rG_begin f1 f2 (run_beginRound (hF.blk _ (List.mem_cons_self ..)) hst)]
  simp only [goes_go]
  refine ⟨fun e he => ?_, ?_⟩
  · have he := mem_seen he
    rw [ev_beginRound (hF.blk _ (List.mem_cons_self ..)) hst] at he
    simp at he
    rcases he with rfl | rfl <;> exact evl _
  replace hF := hF.put (.loop { rec with state := .busy }) (by omega) hne
  ((refine Goes.step rfl (fun _ h₁ => ?_); replace hF := Ga.atRel hF h₁; clear h₁); rw [rG_block]; simp only [goes_go]; refine ⟨by u_nil, ?_⟩)
  ((refine Goes.step rfl (fun _ h₁ => ?_); replace hF := Ga.atRel hF h₁; clear h₁); rw [rG_region]; simp only [goes_go, List.size_toArray, List.length_cons, List.length_nil, Nat.reduceAdd, Nat.zero_add, List.range, List.range.loop]; refine ⟨by u_nil, ?_⟩)
  (refine Goes.step rfl (fun _ h₁ => ?_); replace hF := Ga.atRel hF h₁; clear h₁)
  have hc : World.cell? ‹World› ⟨sz, 0, none⟩ = some v := by
    have := hF.blk (sz, .cells #[v] 39) (by simp)
    simp [World.cell?, this]
  refine goes_operR_k rfl rfl (by first | decide | (simp [*]; done)) (fun c => by simp) (fun K hK => ?_)
  go_simp
  refine hK _ _ ⟨fun e he => ?_, ?_⟩
  · have hm := mem_listed he
    simp [go_sem, *] at hm
    subst hm
    exact evb _
  clear hK K hc
  ((refine Goes.step rfl (fun _ h₁ => ?_); replace hF := Ga.atRel hF h₁; clear h₁)
   refine goes_operR_k rfl rfl (by first | decide | (simp [*]; done)) (fun c => by simp) (fun K hK => ?_)
   go_simp
   refine hK _ _ ⟨fun e he => ?_, ?_⟩
   · have hm := mem_listed he
     simp [go_sem, *] at hm
   clear hK K
   try w_num)
  -- the value's own block
  refine Goes.step rfl (fun w₂ r₂ => ?_)
  replace hF := hF.atRel r₂
  clear r₂
  refine goes_operR_k rfl rfl (by first | decide | (simp [*]; done)) (fun c => by simp) (fun K hK => ?_)
  go_simp
  refine hK _ _ ⟨fun e he => by have hm := mem_listed he; simp [go_sem, *] at hm, ?_⟩
  clear hK K
  have hT1 := hF.ge
  have hT2 := hF.le
  have hnew : (w₂.alloc (.cells #[.int .i64 ((k : Int) + 1)] 3)).cell? ⟨w₂.heap.size, 0, none⟩ = some (.int .i64 ((k : Int) + 1)) := by
    rw [World.cell?_alloc_at _ _ _ _ rfl]; rfl
  replace hF := hF.alloc (by omega) (.cells #[.int .i64 ((k : Int) + 1)] 3)
  generalize hT : w₂.heap.size = T at hnew hT1 hT2 ⊢
  -- append
  refine Goes.step rfl (fun w₃ r₃ => ?_)
  replace hF := hF.atRel r₃
  replace hnew : w₃.cell? ⟨T, 0, none⟩ = some (.int .i64 ((k : Int) + 1)) := by obtain ⟨d, rfl⟩ := r₃; exact hnew
  clear r₃
  obtain ⟨i1, hi1', hy0, hy1, hy2⟩ := info_parts infoInt
  have hnews : ∀ j u, [Value.int .i64 ((k : Int) + 1)][j]? = some u → w₃.cell? ((⟨T, 0, none⟩ : Addr).add j) = some u := by
    intro j u hj
    match j, hj with
    | 0, hj => simp at hj; subst hj; simpa [Addr.add] using hnew
  have hkk : (upTo k).length = k := upTo_length k
  have h63 : (upTo k).length + 1 ≤ maxLen := by simp only [maxLen]; omega
  have hby : ((upTo k).length + 1) * 8 ≤ 140737488355328 := by omega
  obtain ⟨v', w', hr, hown', hgrow, _⟩ := run_append_own (P := Try.prog) w₃ (sz + 4) 39 39 3 i1 (.int .i64 0) 1 8 Try.underlying39 hi1' hy0 hy1 hy2 rfl (by decide) v _ _ hF.own ⟨T, 0, none⟩ 1 1 [.int .i64 ((k : Int) + 1)] rfl hnews (by intro u hu; simp at hu; subst hu; rfl) h63 hby hF.ge
  have hsz := append_size (P := Try.prog) w₃ (sz + 4) 39 39 3 i1 (.int .i64 0) Try.underlying39 hi1' hy0 hy1 v _ _ hF.own ⟨T, 0, none⟩ 1 (.int .i64 ((k : Int) + 1)) hnews rfl h63 (by rw [hy2]; exact hby) hr
  have hevs := events_append_where (P := Try.prog) w₃ (sz + 4) 39 39 3 i1 (.int .i64 0) 1 8 Try.underlying39 hi1' hy0 hy1 hy2 v _ _ hF.own ⟨T, 0, none⟩ 1 1 [.int .i64 ((k : Int) + 1)] rfl hnews (by intro u hu; simp at hu; subst hu; rfl) h63 hby
  refine goes_operR_k rfl rfl (by first | decide | (simp [*]; done)) (fun c => by simp) (fun K hK => ?_)
  refine uponK_append (.tmp 8) (.tmp 10) 39 rfl rfl rfl hr (hK _ _ ⟨fun e he => ?_, ?_⟩)
  · have hm := mem_listed he
    rw [events_append_op (.tmp 8) (.tmp 10) 39 rfl rfl rfl] at hm
    have hl3 := hF.le
    rcases hevs e hm with ⟨ad, h2, h3⟩ | ⟨mm, rfl, hn⟩
    · have hb : sz + 4 ≤ ad.block ∧ ad.block < B := by
        rcases h3 with ⟨_, h3⟩ | h3
        · have h3 : ad.block = T := h3
          omega
        · have := hF.own.lt _ h3.symm
          omega
      exact evL_any h2 (fun h => by have := hSh _ h; omega) hb.2
    · cases hn
      exact ⟨fun x hx _ => by simp [MemAct.ofEvent, MemAct.touch?] at hx, by simp, by simp, trivial⟩
  clear hK K
  replace hF := hF.append (by omega) hown' hgrow hsz
  clear hr hown' hgrow hevs hsz hnews hnew
  obtain ⟨a1, l1, c1, rfl⟩ : ∃ a1 l1 c1, v' = .slice a1 l1 c1 := by
    rcases hF.own.2 with ⟨h, _⟩ | ⟨g, cap, cur, h, _⟩
    · exact ⟨_, _, _, h⟩
    · exact ⟨_, _, _, h⟩
  walk_nrm
  -- the slice's box
  have hswap : ∀ q ∈ ((sz, Obj.cells #[v] 39) :: (sz + 2, .loop { rec with state := .busy }) :: (sz + 1, .deferred (some [])) :: L), q ∈ ((sz + 2, Obj.loop { rec with state := .busy }) :: (sz, .cells #[v] 39) :: (sz + 1, .deferred (some [])) :: L) := swap2 _ _ _
  have hne1 : ∀ q ∈ ((sz + 2, Obj.loop { rec with state := .busy }) :: (sz + 1, .deferred (some [])) :: L), q.1 ≠ sz := by
    intro q hq
    simp only [List.mem_cons] at hq
    rcases hq with rfl | rfl | hq
    all_goals first | (show _ ≠ sz; simp; done) | (have := hL q hq; omega)
  (refine Goes.step rfl (fun _ h₁ => ?_); replace hF := Ga.atRel hF h₁; clear h₁)
  have hc : World.cell? ‹World› ⟨sz, 0, none⟩ = some v := by
    have := hF.blk (sz, .cells #[v] 39) (by simp)
    simp [World.cell?, this]
  have hz : World.frozen? ‹World› ⟨sz, 0, none⟩ = false := by
    have := hF.blk (sz, .cells #[v] 39) (by simp)
    simp [World.frozen?, this]
  refine goes_operR_k rfl rfl (by first | decide | (simp [*]; done)) (fun c => by simp) (fun K hK => ?_)
  go_simp
  refine hK _ _ ⟨fun e he => ?_, ?_⟩
  · have hm := mem_listed he
    simp [go_sem, *] at hm
    rw [events_store (hv := rfl), hc] at hm
    simp [hz] at hm
    subst hm
    exact evb _
  clear hK K hc hz
  replace hF := (hF.weak hswap).set (k := 0) (u := .slice a1 l1 c1) (by omega) hne1
  have e1 : #[v].setIfInBounds 0 (.slice a1 l1 c1) = #[.slice a1 l1 c1] := by simp
  rw [e1] at hF
  clear e1 hswap hne1
  ((refine Goes.step rfl (fun _ h₁ => ?_); replace hF := Ga.atRel hF h₁; clear h₁); rw [rG_region_end]; simp only [goes_go]; refine ⟨by u_nil, ?_⟩)
  ((refine Goes.step rfl (fun _ h₁ => ?_); replace hF := Ga.atRel hF h₁; clear h₁); rw [rG_inBlock]; simp only [goes_go]; refine ⟨by u_nil, ?_⟩)
  (refine Goes.step rfl (fun _ h₁ => ?_); replace hF := Ga.atRel hF h₁; clear h₁)
  have hbz := hF.blk (sz + 2, .loop { rec with state := .busy }) (by simp)
  rw [rG_end f1 f2 (run_endRound none hbz)]
  simp only [goes_go]
  refine ⟨fun e he => ?_, ?_⟩
  · have he := mem_seen he
    rw [ev_endRound hbz] at he
    simp at he
    rcases he with rfl | rfl <;> exact evl _
  have hend : ({ ({ rec with state := .busy } : Loop) with state := (if (none : Option Code).isNone then .ready else .done), pending := none } : Loop) = rec := by rw [← hrec]; rfl
  rw [hend]
  have hne2 : ∀ q ∈ ((sz, .cells #[Value.slice a1 l1 c1] 39) :: (sz + 1, Obj.deferred (some [])) :: L), q.1 ≠ sz + 2 := by
    intro q hq
    simp only [List.mem_cons] at hq
    rcases hq with rfl | rfl | hq
    all_goals first | (show _ ≠ sz + 2; simp; done) | (have := hL q hq; omega)
  have hF2 := (hF.weak (swap2 (sz, Obj.cells #[Value.slice a1 l1 c1] 39) (sz + 2, .loop { rec with state := .busy }) _)).put (.loop rec) (by omega) hne2
  refine goes_more _ (next _ ⟨.slice a1 l1 c1, ?_⟩)
  rw [hrec, upTo_succ]
  have e2 : sz + 4 + 2 * (k + 1) = sz + 4 + 2 * k + 1 + 1 := by omega
  rw [e2]
  exact hF2
end
end Go.Proofs.Ytfgipjgjehjijaa
