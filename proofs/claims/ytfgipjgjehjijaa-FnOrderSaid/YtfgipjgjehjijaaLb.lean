/- What the laws of chapter 6 draw, beside others (own text). -/
import Derived.Test.YtfgipjgjehjijaaLa
namespace Go.Proofs.Ytfgipjgjehjijaa
open Go Go.RowKit Go.Conc

theorem resultsC_tmp3 {P : Program} {fn : Func} {t u v : Tmp} (h : fn.results = #[.tmp t, .tmp u, .tmp v]) (tmps : Array Value) : ResultsC P fn tmps (.tuple #[tmps.getD t undef, tmps.getD u undef, tmps.getD v undef]) := fun w => ⟨by simp [results, h], by simp [results, h]⟩
theorem events_sliceBound {P : Program} {w : World} {es : Array Event} (k : IntKind) (h : Int) (cap : Nat) (c) (h0 : 0 ≤ h) (h2 : h ≤ cap) : (Instr.sliceBound (.int k h) cap c).events P w es = es := by
  simp [Instr.sliceBound, asIntOf, h0, h2]
@[go_sem] theorem events_sliceAt_h {P : Program} {w : World} {es : Array Event} (t : TypeId) (a : Option Addr) (len cap : Nat) (k : IntKind) (h : Int) (ht : P.underlying t = some (.slice (P.elem t))) (h0 : 0 ≤ h) (h2 : h ≤ cap) :
    (Instr.sliceAt t (.slice a len cap) none (some (.int k h)) none).events P w es = es := by
  have hr := run_sliceBound (P := P) (w := w)
  simp [Instr.sliceAt, Instr.slice, Instr.sliceBounds, Sem.events_bind, run_underlying ht, events_underlying, events_sliceBound, h0, h2, hr, events_sizeOf]

theorem Bytes.less {w : World} {s : Option Addr} {len len' b0 : Nat} (h : Bytes w s len b0) (hl : len' ≤ len) : Bytes w s len' b0 := by
  rcases h with h | ⟨b, off, e, h1, z, hz⟩
  · exact .inl (by omega)
  · exact .inr ⟨b, off, e, h1, z, fun i hi => hz i (by omega)⟩
section
variable {B N sz : Nat} {W : World} {L : List (Nat × Obj)} {s : Option Addr} {len cap : Nat}
set_option maxRecDepth 20000 in
set_option maxHeartbeats 1000000 in
theorem k_l6Open (hN : N ≤ sz) (hlc : len ≤ cap) (hcm : cap ≤ maxLen) (hnn : len = 0 ∨ ∃ b off, s = some ⟨b, off, none⟩) (w : World) (hF : Fa N W sz L w) :
    CallsC Try.prog true AtRel (DE (EvL (fun _ => False) B)) 29 #[.slice s len cap] 100 w fun v w' => v = .pointer (some ⟨sz, 0, none⟩) ∧ ∃ len', len' ≤ len ∧ len' ≤ 2000 ∧ Fa N W (sz + 1) ((sz, rdO s len' cap 0) :: L) w' := by
  have T : Terms AtRel (DE (EvL (fun _ => False) B)) := terms_b
  have hcm' : cap ≤ 9223372036854775807 := by simp only [maxLen] at hcm; exact hcm
  by_cases h : 2000 < len
  · have hd : decide ((2000 : Int) < (len : Int)) = true := by simp; omega
    rcases hnn with h0 | ⟨cb, off, rfl⟩
    · omega
    have hc2 : (2000 : Int) ≤ (cap : Int) := by omega
    have hc3 : 2000 ≤ cap := by omega
    co_apply callsC_more
    · (co_apply callsC_of_wpC Try.func29 (by rfl) rfl; simp only [Try.ntmps29, List.size_toArray, List.length_cons, List.length_nil, Nat.reduceAdd, Nat.reduceSub, Array.replicate_succ, Array.replicate_zero, List.push_toArray, List.append_toArray, List.nil_append, List.cons_append])
      co_apply wpC_seq T
      co_reg T
      co_op Fa.atRel hF (co_quiet T)
      co_apply opsC_nil T
      co_then
      co_apply wpC_seq T
      co_apply wpC_seq T
      co_reg T
      repeat co_opw Fa.atRel hF (skip) (co_still T)
      co_apply opsC_nil T
      co_then
      co_apply wpC_cond T (t := true)
      · first | (simp [Act.eval]; done) | (simp [Act.eval]; omega)
      simp only [if_true]
      co_reg T
      repeat co_opw Fa.atRel hF (skip) (co_still T)
      co_apply opsC_nil T
      co_then
      co_apply wpC_seq T
      co_reg T
      co_opw Fa.atRel hF (skip) (co_still T)
      co_opw Fa.atRel hF (skip) (co_still T)
      co_opw Fa.atRel hF (have hs := hF.size) ((refine fun e he => ?_; have hm := mem_listed he; simp [go_sem, *] at hm; try (first | (subst hm; (skip)) | (rcases hm with hm | hm <;> (subst hm; (skip))))))
      replace hF := hF.alloc hN (rdO (some ⟨cb, off, none⟩) 2000 cap 0)
      co_opw Fa.atRel hF (skip) (co_still T)
      co_apply opsC_nil T
      co_then
      co_go T Fa.atRel hF (co_quiet T)
      exact ⟨rfl, _, resultsC_tmp (by rfl) _, by simp [*], 2000, by omega, by omega, hF⟩
    · decide
  · have hd : decide ((2000 : Int) < (len : Int)) = false := by simp; omega
    co_apply callsC_more
    · (co_apply callsC_of_wpC Try.func29 (by rfl) rfl; simp only [Try.ntmps29, List.size_toArray, List.length_cons, List.length_nil, Nat.reduceAdd, Nat.reduceSub, Array.replicate_succ, Array.replicate_zero, List.push_toArray, List.append_toArray, List.nil_append, List.cons_append])
      co_apply wpC_seq T
      co_reg T
      co_op Fa.atRel hF (co_quiet T)
      co_apply opsC_nil T
      co_then
      co_apply wpC_seq T
      co_apply wpC_seq T
      co_reg T
      repeat co_opw Fa.atRel hF (skip) (co_still T)
      co_apply opsC_nil T
      co_then
      co_apply wpC_cond T (t := false)
      · first | (simp [Act.eval]; done) | (simp [Act.eval]; omega)
      simp only [if_false, Bool.false_eq_true]
      co_apply wpC_skip T
      co_then
      co_apply wpC_seq T
      co_reg T
      co_opw Fa.atRel hF (skip) (co_still T)
      co_opw Fa.atRel hF (skip) (co_still T)
      co_opw Fa.atRel hF (have hs := hF.size) ((refine fun e he => ?_; have hm := mem_listed he; simp [go_sem, *] at hm; try (first | (subst hm; (skip)) | (rcases hm with hm | hm <;> (subst hm; (skip))))))
      replace hF := hF.alloc hN (rdO s len cap 0)
      co_opw Fa.atRel hF (skip) (co_still T)
      co_apply opsC_nil T
      co_then
      co_go T Fa.atRel hF (co_quiet T)
      exact ⟨rfl, _, resultsC_tmp (by rfl) _, by simp [*], len, by omega, by omega, hF⟩
    · decide

theorem quo_lt2 {x n : Int} (h0 : 0 ≤ x) (h1 : x < 2 * n) (hn : 1 ≤ n) : x.tdiv n = x / n ∧ 0 ≤ x / n ∧ x / n ≤ 1 := by
  refine ⟨Int.tdiv_eq_ediv_of_nonneg h0, Int.ediv_nonneg h0 (by omega), ?_⟩
  have := Int.ediv_lt_of_lt_mul (show 0 < n by omega) h1
  omega
set_option maxRecDepth 20000 in
set_option maxHeartbeats 1000000 in
/-- A line. -/
theorem k_l92Line {b p : Nat} (hb : N ≤ b) (hbB : b < B) (hne : ∀ q ∈ L, q.1 ≠ b) (hby : Bytes W s len N) (hp : p ≤ 1000) (hlen : len ≤ 2000) (w : World) (hF : Fa N W sz ((b, rdO s len cap p) :: L) w) :
    CallsC Try.prog true AtRel (DE (EvL (fun _ => False) B)) 35 #[.pointer (some ⟨b, 0, none⟩)] 2000 w fun v w' => ∃ a c m : Int, -5 ≤ a ∧ a ≤ 2000024 ∧ -5 ≤ c ∧ c ≤ 24 ∧ 0 ≤ m ∧ m ≤ 20 ∧ v = .tuple #[.int .i64 a, .int .i64 c, .int .i64 m] ∧ Fa N W sz ((b, rdO s len cap (p + 1 + 1 + 1 + 1 + 1)) :: L) w' := by
  have T : Terms AtRel (DE (EvL (fun _ => False) B)) := terms_b
  co_apply callsC_more
  · (co_apply callsC_of_wpC Try.func35 (by rfl) rfl; simp only [Try.ntmps35, List.size_toArray, List.length_cons, List.length_nil, Nat.reduceAdd, Nat.reduceSub, Array.replicate_succ, Array.replicate_zero, List.push_toArray, List.append_toArray, List.nil_append, List.cons_append])
    co_apply wpC_seq T
    co_reg T
    repeat co_opw Fa.atRel hF (skip) (co_still T)
    co_apply opsC_nil T
    co_then
    co_apply wpC_seq T
    co_reg T
    co_opw Fa.atRel hF (skip) (co_still T)
    co_apply opsC_call T rfl (by rfl) rfl
    · walk_nrm
      exact k_pick 30 (by omega) (by omega) hb hbB hne hby (by omega) hlen _ hF
    rintro _ w1 ⟨x, x1, x2, rfl, hF⟩
    walk_nrm
    have e1 : IntKind.i64.wrap (x - 5) = x - 5 := by rw [IntKind.wrap_i64]; omega
    repeat co_opw Fa.atRel hF (skip) (co_still T)
    co_apply opsC_nil T
    co_then
    co_apply wpC_seq T
    co_reg T
    co_opw Fa.atRel hF (skip) (co_still T)
    co_apply opsC_call T rfl (by rfl) rfl
    · walk_nrm
      exact k_pick 30 (by omega) (by omega) hb hbB hne hby (by omega) hlen _ hF
    rintro _ w1 ⟨y, y1, y2, rfl, hF⟩
    walk_nrm
    have e2 : IntKind.i64.wrap (y - 5) = y - 5 := by rw [IntKind.wrap_i64]; omega
    repeat co_opw Fa.atRel hF (skip) (co_still T)
    co_apply opsC_nil T
    co_then
    co_apply wpC_seq T
    co_reg T
    co_opw Fa.atRel hF (skip) (co_still T)
    co_opw Fa.atRel hF (skip) (co_still T)
    co_apply opsC_call T rfl (by rfl) rfl
    · walk_nrm
      exact k_pick 40 (by omega) (by omega) hb hbB hne hby (by omega) hlen _ hF
    rintro _ w1 ⟨z, z1, z2, rfl, hF⟩
    walk_nrm
    obtain ⟨q0, q1, q2⟩ := quo_lt2 (n := 39) z1 (by omega) (by omega)
    generalize z / 39 = qz at *
    have e3 : IntKind.i64.wrap qz = qz := by rw [IntKind.wrap_i64]; omega
    have e4 : IntKind.i64.wrap (qz * 2000000) = qz * 2000000 := by rw [IntKind.wrap_i64]; omega
    have e5 : IntKind.i64.wrap (x - 5 + qz * 2000000) = x - 5 + qz * 2000000 := by rw [IntKind.wrap_i64]; omega
    co_opw Fa.atRel hF (skip) (co_still T)
    co_opw Fa.atRel hF (skip) (co_still T)
    co_opw Fa.atRel hF (skip) (co_still T)
    co_opw Fa.atRel hF (skip) (co_still T)
    co_opw Fa.atRel hF (skip) (co_still T)
    co_apply opsC_call T rfl (by rfl) rfl
    · walk_nrm
      exact k_pick 20 (by omega) (by omega) hb hbB hne hby (by omega) hlen _ hF
    rintro _ w1 ⟨u, u1, u2, rfl, hF⟩
    walk_nrm
    have e6 : IntKind.i64.wrap (1 + u) = 1 + u := by rw [IntKind.wrap_i64]; omega
    co_opw Fa.atRel hF (skip) (co_still T)
    co_opw Fa.atRel hF (skip) (co_still T)
    co_apply opsC_call T rfl (by rfl) rfl
    · walk_nrm
      exact k_pick 40 (by omega) (by omega) hb hbB hne hby (by omega) hlen _ hF
    rintro _ w1 ⟨t, t1, t2, rfl, hF⟩
    walk_nrm
    obtain ⟨r0, r1, r2⟩ := quo_lt2 (n := 39) t1 (by omega) (by omega)
    generalize t / 39 = qt at *
    have e7 : IntKind.i64.wrap qt = qt := by rw [IntKind.wrap_i64]; omega
    have e8 : IntKind.i64.wrap (1 + u - qt) = 1 + u - qt := by rw [IntKind.wrap_i64]; omega
    repeat co_opw Fa.atRel hF (skip) (co_still T)
    co_apply opsC_nil T
    co_then
    co_go T Fa.atRel hF (co_quiet T)
    exact ⟨rfl, _, resultsC_tmp3 (by rfl) _, x - 5 + qz * 2000000, y - 5, 1 + u - qt, by omega, by omega, by omega, by omega, by omega, by omega, by simp, hF⟩
  · decide

set_option maxRecDepth 20000 in
set_option maxHeartbeats 1000000 in
theorem k_l92Pair (hN : N ≤ sz) (hB : sz < B) (hlt : ∀ q ∈ L, q.1 < sz) (hby : Bytes W s len N) (hlc : len ≤ cap) (hcm : cap ≤ maxLen) (hnn : len = 0 ∨ ∃ b off, s = some ⟨b, off, none⟩) (w : World) (hF : Fa N W sz L w) :
    CallsC Try.prog true AtRel (DE (EvL (fun _ => False) B)) 17 #[.slice s len cap] 2300 w fun v w' => ∃ a m : Int, -5 ≤ a ∧ a ≤ 2000024 ∧ 0 ≤ m ∧ m ≤ 20 ∧ v = .tuple #[.int .i64 a, .int .i64 m] ∧ Fa N W (sz + 1) L w' := by
  have T : Terms AtRel (DE (EvL (fun _ => False) B)) := terms_b
  co_apply callsC_more
  · (co_apply callsC_of_wpC Try.func17 (by rfl) rfl; simp only [Try.ntmps17, List.size_toArray, List.length_cons, List.length_nil, Nat.reduceAdd, Nat.reduceSub, Array.replicate_succ, Array.replicate_zero, List.push_toArray, List.append_toArray, List.nil_append, List.cons_append])
    co_apply wpC_seq T
    co_reg T
    repeat co_opw Fa.atRel hF (skip) (co_still T)
    co_apply opsC_nil T
    co_then
    co_apply wpC_seq T
    co_reg T
    co_opw Fa.atRel hF (skip) (co_still T)
    co_apply opsC_call T rfl (by rfl) rfl
    · walk_nrm
      exact k_l6Open hN hlc hcm hnn _ hF
    rintro _ w1 ⟨rfl, len', h1, h2, hF⟩
    walk_nrm
    co_apply opsC_call T rfl (by rfl) rfl
    · walk_nrm
      exact k_l92Line hN hB (fun q hq => by have := hlt q hq; omega) (hby.less h1) (by omega) h2 _ hF
    rintro _ w1 ⟨a, c, m, a1, a2, c1, c2, m1, m2, rfl, hF⟩
    replace hF := hF.weak (L' := L) fun q hq => List.mem_cons_of_mem _ hq
    walk_nrm
    repeat co_opw Fa.atRel hF (skip) (co_still T)
    co_apply opsC_nil T
    co_then
    co_apply wpC_seq T
    co_reg T
    repeat co_opw Fa.atRel hF (skip) (co_still T)
    co_apply opsC_nil T
    co_then
    co_go T Fa.atRel hF (co_quiet T)
    exact ⟨rfl, _, resultsC_tmp2 (by rfl) _, a, m, a1, a2, m1, m2, rfl, hF⟩
  · decide

set_option maxRecDepth 20000 in
set_option maxHeartbeats 1000000 in
theorem k_DrawSolveOrder (hN : N ≤ sz) (hB : sz < B) (hlt : ∀ q ∈ L, q.1 < sz) (hby : Bytes W s len N) (hlc : len ≤ cap) (hcm : cap ≤ maxLen) (hnn : len = 0 ∨ ∃ b off, s = some ⟨b, off, none⟩) (w : World) (hF : Fa N W sz L w) :
    CallsC Try.prog true AtRel (DE (EvL (fun _ => False) B)) 10 #[.slice s len cap] 2400 w fun v w' => ∃ a m : Int, -5 ≤ a ∧ a ≤ 2000024 ∧ 0 ≤ m ∧ m ≤ 20 ∧ v = .tuple #[.int .i64 a, .int .i64 m] ∧ Fa N W (sz + 1) L w' := by
  have T : Terms AtRel (DE (EvL (fun _ => False) B)) := terms_b
  co_apply callsC_more
  · (co_apply callsC_of_wpC Try.func10 (by rfl) rfl; simp only [Try.ntmps10, List.size_toArray, List.length_cons, List.length_nil, Nat.reduceAdd, Nat.reduceSub, Array.replicate_succ, Array.replicate_zero, List.push_toArray, List.append_toArray, List.nil_append, List.cons_append])
    co_apply wpC_seq T
    co_reg T
    repeat co_opw Fa.atRel hF (skip) (co_still T)
    co_apply opsC_nil T
    co_then
    co_apply wpC_seq T
    co_reg T
    co_opw Fa.atRel hF (skip) (co_still T)
    co_apply opsC_call T rfl (by rfl) rfl
    · walk_nrm
      exact k_l92Pair hN hB hlt hby hlc hcm hnn _ hF
    rintro _ w1 ⟨a, m, a1, a2, m1, m2, rfl, hF⟩
    walk_nrm
    repeat co_opw Fa.atRel hF (skip) (co_still T)
    co_apply opsC_nil T
    co_then
    co_go T Fa.atRel hF (co_quiet T)
    exact ⟨rfl, _, resultsC_tmp2 (by rfl) _, a, m, a1, a2, m1, m2, rfl, hF⟩
  · decide

set_option maxRecDepth 20000 in
set_option maxHeartbeats 1000000 in
theorem k_DrawSolveBack (hN : N ≤ sz) (hB : sz < B) (hlt : ∀ q ∈ L, q.1 < sz) (hby : Bytes W s len N) (hlc : len ≤ cap) (hcm : cap ≤ maxLen) (hnn : len = 0 ∨ ∃ b off, s = some ⟨b, off, none⟩) (w : World) (hF : Fa N W sz L w) :
    CallsC Try.prog true AtRel (DE (EvL (fun _ => False) B)) 6 #[.slice s len cap] 2400 w fun v w' => ∃ a m : Int, -5 ≤ a ∧ a ≤ 2000024 ∧ 0 ≤ m ∧ m ≤ 20 ∧ v = .tuple #[.int .i64 a, .int .i64 m] ∧ Fa N W (sz + 1) L w' := by
  have T : Terms AtRel (DE (EvL (fun _ => False) B)) := terms_b
  co_apply callsC_more
  · (co_apply callsC_of_wpC Try.func6 (by rfl) rfl; simp only [Try.ntmps6, List.size_toArray, List.length_cons, List.length_nil, Nat.reduceAdd, Nat.reduceSub, Array.replicate_succ, Array.replicate_zero, List.push_toArray, List.append_toArray, List.nil_append, List.cons_append])
    co_apply wpC_seq T
    co_reg T
    repeat co_opw Fa.atRel hF (skip) (co_still T)
    co_apply opsC_nil T
    co_then
    co_apply wpC_seq T
    co_reg T
    co_opw Fa.atRel hF (skip) (co_still T)
    co_apply opsC_call T rfl (by rfl) rfl
    · walk_nrm
      exact k_l92Pair hN hB hlt hby hlc hcm hnn _ hF
    rintro _ w1 ⟨a, m, a1, a2, m1, m2, rfl, hF⟩
    walk_nrm
    repeat co_opw Fa.atRel hF (skip) (co_still T)
    co_apply opsC_nil T
    co_then
    co_go T Fa.atRel hF (co_quiet T)
    exact ⟨rfl, _, resultsC_tmp2 (by rfl) _, a, m, a1, a2, m1, m2, rfl, hF⟩
  · decide

set_option maxRecDepth 20000 in
set_option maxHeartbeats 1000000 in
theorem k_DrawSolveRoot (hN : N ≤ sz) (hB : sz < B) (hlt : ∀ q ∈ L, q.1 < sz) (hby : Bytes W s len N) (hlc : len ≤ cap) (hcm : cap ≤ maxLen) (hnn : len = 0 ∨ ∃ b off, s = some ⟨b, off, none⟩) (w : World) (hF : Fa N W sz L w) :
    CallsC Try.prog true AtRel (DE (EvL (fun _ => False) B)) 14 #[.slice s len cap] 600 w fun v w' => ∃ m : Int, 0 ≤ m ∧ m < 50 ∧ v = .int .i64 m ∧ Fa N W (sz + 1) L w' := by
  have T : Terms AtRel (DE (EvL (fun _ => False) B)) := terms_b
  co_apply callsC_more
  · (co_apply callsC_of_wpC Try.func14 (by rfl) rfl; simp only [Try.ntmps14, List.size_toArray, List.length_cons, List.length_nil, Nat.reduceAdd, Nat.reduceSub, Array.replicate_succ, Array.replicate_zero, List.push_toArray, List.append_toArray, List.nil_append, List.cons_append])
    co_apply wpC_seq T
    co_reg T
    repeat co_opw Fa.atRel hF (skip) (co_still T)
    co_apply opsC_nil T
    co_then
    co_apply wpC_seq T
    co_reg T
    co_opw Fa.atRel hF (skip) (co_still T)
    co_apply opsC_call T rfl (by rfl) rfl
    · walk_nrm
      exact k_l6Open hN hlc hcm hnn _ hF
    rintro _ w1 ⟨rfl, len', h1, h2, hF⟩
    walk_nrm
    repeat co_opw Fa.atRel hF (skip) (co_still T)
    co_apply opsC_nil T
    co_then
    co_apply wpC_seq T
    co_reg T
    co_opw Fa.atRel hF (skip) (co_still T)
    co_apply opsC_call T rfl (by rfl) rfl
    · walk_nrm
      exact k_pick 50 (by omega) (by omega) hN hB (fun q hq => by have := hlt q hq; omega) (hby.less h1) (by omega) h2 _ hF
    rintro _ w1 ⟨m, m1, m2, rfl, hF⟩
    replace hF := hF.weak (L' := L) fun q hq => List.mem_cons_of_mem _ hq
    walk_nrm
    repeat co_opw Fa.atRel hF (skip) (co_still T)
    co_apply opsC_nil T
    co_then
    co_go T Fa.atRel hF (co_quiet T)
    exact ⟨rfl, _, resultsC_tmp (by rfl) _, m, m1, m2, rfl, hF⟩
  · decide
end
end Go.Proofs.Ytfgipjgjehjijaa
