/- The reader of codes beside others: the next number (own text). -/
import Derived.Test.YtfgipjgjehjijaaLg
import Derived.Test.YtfgipjgjehjijaaD3
namespace Go.Proofs.Ytfgipjgjehjijaa
open Go Go.RowKit Go.Conc

/-- A reader's block. -/
def rdO (s : Option Addr) (len cap p : Nat) : Obj := .cells #[.slice s len cap, .int .i64 p] 70
theorem ev_nS {B : Nat} {a : Addr} (wr : Bool) (h : a.block < B) : EvL (fun _ => False) B ⟨.cell a, wr, false⟩ := evL_cell _ _ (fun h => h) h
section
variable {B N sz b : Nat} {W : World} {L : List (Nat × Obj)} {s : Option Addr} {len cap p : Nat}
theorem rd_c0 {w : World} (h : Fa N W sz ((b, rdO s len cap p) :: L) w) : w.cell? ⟨b, 0, none⟩ = some (.slice s len cap) := h.cellOf (List.mem_cons_self ..) rfl
theorem rd_c1 {w : World} (h : Fa N W sz ((b, rdO s len cap p) :: L) w) : w.cell? ⟨b, 1, none⟩ = some (.int .i64 p) := h.cellOf (List.mem_cons_self ..) rfl
theorem rd_fz {w : World} (h : Fa N W sz ((b, rdO s len cap p) :: L) w) : w.frozen? ⟨b, 1, none⟩ = false := h.thaw (List.mem_cons_self ..)
theorem rd_next {w : World} (h : Fa N W sz ((b, rdO s len cap p) :: L) w) (hb : N ≤ b) (hne : ∀ q ∈ L, q.1 ≠ b) : Fa N W sz ((b, rdO s len cap (p + 1)) :: L) (w.setCell ⟨b, 1, none⟩ (.int .i64 ((p : Int) + 1))) := by
  have := h.set (k := 1) (v := .int .i64 ((p : Int) + 1)) hb hne
  simpa [rdO] using this

set_option maxRecDepth 20000 in
set_option maxHeartbeats 1000000 in
theorem k_pick0 (n : Int) (hn : 1 ≤ n) (hb : N ≤ b) (hbB : b < B) (hne : ∀ q ∈ L, q.1 ≠ b) (hl0 : len = 0) (hp : p ≤ 100000) (w : World) (hF : Fa N W sz ((b, rdO s len cap p) :: L) w) :
    CallsC Try.prog true AtRel (DE (EvL (fun _ => False) B)) 30 #[.pointer (some ⟨b, 0, none⟩), .int .i64 n] 200 w fun v w' => ∃ x, 0 ≤ x ∧ x < n ∧ v = .int .i64 x ∧ Fa N W sz ((b, rdO s len cap (p + 1)) :: L) w' := by
  have T : Terms AtRel (DE (EvL (fun _ => False) B)) := terms_b
  have hwr : IntKind.i64.wrap ((p : Int) + 1) = (p : Int) + 1 := by rw [IntKind.wrap_i64]; omega
  have hlt : decide (n < 1) = false := by simp; omega
  subst hl0
  co_apply callsC_more
  · (co_apply callsC_of_wpC Try.func30 (by rfl) rfl; simp only [Try.ntmps30, List.size_toArray, List.length_cons, List.length_nil, Nat.reduceAdd, Nat.reduceSub, Array.replicate_succ, Array.replicate_zero, List.push_toArray, List.append_toArray, List.nil_append, List.cons_append])
    (co_apply wpC_seq T
     co_reg T
     co_op Fa.atRel hF (co_quiet T)
     co_apply opsC_nil T
     co_then
     co_apply wpC_seq T
     co_reg T
     co_op Fa.atRel hF (co_quiet T)
     co_op Fa.atRel hF (co_quiet T)
     co_opw Fa.atRel hF (skip) (co_still T)
     co_opw Fa.atRel hF (skip) (co_still T)
     co_opw Fa.atRel hF (have hc := rd_c1 hF) ((refine fun e he => ?_; have hm := mem_listed he; simp [go_sem, *] at hm; try (first | (subst hm; (exact ev_nS _ hbB)) | (rcases hm with hm | hm <;> (subst hm; (exact ev_nS _ hbB))))))
     clear hc
     co_op Fa.atRel hF (co_quiet T)
     co_opw Fa.atRel hF (skip) (co_still T)
     co_opw Fa.atRel hF (skip) (co_still T)
     co_opw Fa.atRel hF (have hc := rd_c1 hF; have hz := rd_fz hF) ((refine fun e he => ?_; have hm := mem_listed he; simp [go_sem, *] at hm; try (first | (subst hm; (exact ev_nS _ hbB)) | (rcases hm with hm | hm <;> (subst hm; (exact ev_nS _ hbB))))))
     clear hc hz
     replace hF := rd_next hF hb hne
     co_apply opsC_nil T
     co_then)
    co_apply wpC_seq T (n₂ := 0)
    co_apply wpC_seq T
    co_reg T
    repeat (first
             | co_opw Fa.atRel hF (skip) (co_still T)
             | (co_opw Fa.atRel hF (have hc := rd_c0 hF) ((refine fun e he => ?_; have hm := mem_listed he; simp [go_sem, *] at hm; try (first | (subst hm; (exact ev_nS _ hbB)) | (rcases hm with hm | hm <;> (subst hm; (exact ev_nS _ hbB)))))); clear hc)
             | (co_opw Fa.atRel hF (have hc := rd_c1 hF) ((refine fun e he => ?_; have hm := mem_listed he; simp [go_sem, *] at hm; try (first | (subst hm; (exact ev_nS _ hbB)) | (rcases hm with hm | hm <;> (subst hm; (exact ev_nS _ hbB)))))); clear hc))
    co_apply opsC_nil T
    co_then
    co_apply wpC_cond T (t := true)
    · first | (simp [Act.eval]; done) | (simp [Act.eval]; omega)
    simp only [if_true]
    co_go T Fa.atRel hF (co_quiet T)
    exact ⟨rfl, _, resultsC_tmp (by rfl) _, 0, by omega, by omega, by simp, hF⟩
  · decide

set_option maxRecDepth 20000 in
set_option maxHeartbeats 2000000 in
theorem k_pick1 (n : Int) (hn : 1 ≤ n) (hn2 : n ≤ 1000000) (hb : N ≤ b) (hbB : b < B) (hne : ∀ q ∈ L, q.1 ≠ b) (hby : Bytes W s len N) (hlt : p < len) (hp : p ≤ 100000) (hlen : len ≤ 2000) (w : World) (hF : Fa N W sz ((b, rdO s len cap p) :: L) w) :
    CallsC Try.prog true AtRel (DE (EvL (fun _ => False) B)) 30 #[.pointer (some ⟨b, 0, none⟩), .int .i64 n] 200 w fun v w' => ∃ x, 0 ≤ x ∧ x < n ∧ v = .int .i64 x ∧ Fa N W sz ((b, rdO s len cap (p + 1)) :: L) w' := by
  have T : Terms AtRel (DE (EvL (fun _ => False) B)) := terms_b
  have hwr : IntKind.i64.wrap ((p : Int) + 1) = (p : Int) + 1 := by rw [IntKind.wrap_i64]; omega
  have hwr2 : IntKind.i64.wrap (p : Int) = (p : Int) := by rw [IntKind.wrap_i64]; omega
  have hlt1 : decide (n < 1) = false := by simp; omega
  have hl0 : ((len : Int) == 0) = false := by simp; omega
  have hlt2 : decide ((p : Int) < (len : Int)) = true := by simp; omega
  rcases hby with h0 | ⟨cb, off, rfl, hcb, z, hz⟩
  · omega
  obtain ⟨z1, z2, z3⟩ := hz p hlt
  have hm := emod_bd (z p) n hn
  have hcB : cb < B := by omega
  have hcell : ∀ {w : World} {q : Nat}, Fa N W sz ((b, rdO (some ⟨cb, off, none⟩) len cap q) :: L) w → w.cell? ⟨cb, off + p, none⟩ = some (.int .u8 (z p)) := fun h => (World.cell?_of_block (h.old cb hcb)).trans z1
  have hn0 : ¬ n = 0 := by omega
  have htm : (z p).tmod n = z p % n := Int.tmod_eq_emod_of_nonneg z2
  have hw8 : IntKind.i64.wrap (z p) = z p := by rw [IntKind.wrap_i64]; omega
  have hwm : IntKind.i64.wrap (z p % n) = z p % n := by rw [IntKind.wrap_i64]; omega
  clear hz z1
  generalize z p = Z at *
  co_apply callsC_more
  · (co_apply callsC_of_wpC Try.func30 (by rfl) rfl; simp only [Try.ntmps30, List.size_toArray, List.length_cons, List.length_nil, Nat.reduceAdd, Nat.reduceSub, Array.replicate_succ, Array.replicate_zero, List.push_toArray, List.append_toArray, List.nil_append, List.cons_append])
    (co_apply wpC_seq T
     co_reg T
     co_op Fa.atRel hF (co_quiet T)
     co_apply opsC_nil T
     co_then
     co_apply wpC_seq T
     co_reg T
     co_op Fa.atRel hF (co_quiet T)
     co_op Fa.atRel hF (co_quiet T)
     co_opw Fa.atRel hF (skip) (co_still T)
     co_opw Fa.atRel hF (skip) (co_still T)
     co_opw Fa.atRel hF (have hc := rd_c1 hF) ((refine fun e he => ?_; have hm := mem_listed he; simp [go_sem, *] at hm; try (first | (subst hm; (exact ev_nS _ hbB)) | (rcases hm with hm | hm <;> (subst hm; (exact ev_nS _ hbB))))))
     clear hc
     co_op Fa.atRel hF (co_quiet T)
     co_opw Fa.atRel hF (skip) (co_still T)
     co_opw Fa.atRel hF (skip) (co_still T)
     co_opw Fa.atRel hF (have hc := rd_c1 hF; have hz := rd_fz hF) ((refine fun e he => ?_; have hm := mem_listed he; simp [go_sem, *] at hm; try (first | (subst hm; (exact ev_nS _ hbB)) | (rcases hm with hm | hm <;> (subst hm; (exact ev_nS _ hbB))))))
     clear hc hz
     replace hF := rd_next hF hb hne
     co_apply opsC_nil T
     co_then)
    co_apply wpC_seq T
    co_apply wpC_seq T
    co_reg T
    repeat (first
             | co_opw Fa.atRel hF (skip) (co_still T)
             | (co_opw Fa.atRel hF (have hc := rd_c0 hF) ((refine fun e he => ?_; have hm := mem_listed he; simp [go_sem, *] at hm; try (first | (subst hm; (exact ev_nS _ hbB)) | (rcases hm with hm | hm <;> (subst hm; (exact ev_nS _ hbB)))))); clear hc)
             | (co_opw Fa.atRel hF (have hc := rd_c1 hF) ((refine fun e he => ?_; have hm := mem_listed he; simp [go_sem, *] at hm; try (first | (subst hm; (exact ev_nS _ hbB)) | (rcases hm with hm | hm <;> (subst hm; (exact ev_nS _ hbB)))))); clear hc))
    co_apply opsC_nil T
    co_then
    co_apply wpC_cond T (t := false)
    · first | (simp [Act.eval]; done) | (simp [Act.eval]; omega)
    simp only [if_false, Bool.false_eq_true]
    co_apply wpC_skip T
    co_then
    co_apply wpC_seq T
    co_reg T
    repeat (first
             | co_opw Fa.atRel hF (skip) (co_still T)
             | (co_opw Fa.atRel hF (have hc := rd_c0 hF) ((refine fun e he => ?_; have hm := mem_listed he; simp [go_sem, *] at hm; try (first | (subst hm; (exact ev_nS _ hbB)) | (rcases hm with hm | hm <;> (subst hm; (exact ev_nS _ hbB)))))); clear hc)
             | (co_opw Fa.atRel hF (have hc := rd_c1 hF) ((refine fun e he => ?_; have hm := mem_listed he; simp [go_sem, *] at hm; try (first | (subst hm; (exact ev_nS _ hbB)) | (rcases hm with hm | hm <;> (subst hm; (exact ev_nS _ hbB)))))); clear hc))
    co_apply opsC_nil T
    co_then
    co_apply wpC_seq T (n₂ := 0)
    co_apply wpC_seq T
    co_reg T
    repeat (first
             | co_opw Fa.atRel hF (skip) (co_still T)
             | (co_opw Fa.atRel hF (have hc := rd_c0 hF) ((refine fun e he => ?_; have hm := mem_listed he; simp [go_sem, *] at hm; try (first | (subst hm; (exact ev_nS _ hbB)) | (rcases hm with hm | hm <;> (subst hm; (exact ev_nS _ hbB)))))); clear hc)
             | (co_opw Fa.atRel hF (have hc := rd_c1 hF) ((refine fun e he => ?_; have hm := mem_listed he; simp [go_sem, *] at hm; try (first | (subst hm; (exact ev_nS _ hbB)) | (rcases hm with hm | hm <;> (subst hm; (exact ev_nS _ hbB)))))); clear hc))
    co_apply opsC_nil T
    co_then
    co_apply wpC_cond T (t := true)
    · first | (simp [Act.eval]; done) | (simp [Act.eval]; omega)
    simp only [if_true]
    co_apply wpC_seq T
    co_reg T
    repeat (first
             | co_opw Fa.atRel hF (skip) (co_still T)
             | (co_opw Fa.atRel hF (have hc := rd_c0 hF) ((refine fun e he => ?_; have hm := mem_listed he; simp [go_sem, *] at hm; try (first | (subst hm; (exact ev_nS _ hbB)) | (rcases hm with hm | hm <;> (subst hm; (exact ev_nS _ hbB)))))); clear hc)
             | (co_opw Fa.atRel hF (have hc := rd_c1 hF) ((refine fun e he => ?_; have hm := mem_listed he; simp [go_sem, *] at hm; try (first | (subst hm; (exact ev_nS _ hbB)) | (rcases hm with hm | hm <;> (subst hm; (exact ev_nS _ hbB)))))); clear hc))
    co_opw Fa.atRel hF (have hc := hcell hF) ((refine fun e he => ?_; have hm := mem_listed he; simp [go_sem, *] at hm; try (first | (subst hm; (exact ev_nS _ hcB)) | (rcases hm with hm | hm <;> (subst hm; (exact ev_nS _ hcB))))))
    clear hc
    repeat (first
             | co_opw Fa.atRel hF (skip) (co_still T)
             | (co_opw Fa.atRel hF (have hc := rd_c0 hF) ((refine fun e he => ?_; have hm := mem_listed he; simp [go_sem, *] at hm; try (first | (subst hm; (exact ev_nS _ hbB)) | (rcases hm with hm | hm <;> (subst hm; (exact ev_nS _ hbB)))))); clear hc)
             | (co_opw Fa.atRel hF (have hc := rd_c1 hF) ((refine fun e he => ?_; have hm := mem_listed he; simp [go_sem, *] at hm; try (first | (subst hm; (exact ev_nS _ hbB)) | (rcases hm with hm | hm <;> (subst hm; (exact ev_nS _ hbB)))))); clear hc))
    co_apply opsC_nil T
    co_then
    co_go T Fa.atRel hF (co_quiet T)
    exact ⟨rfl, _, resultsC_tmp (by rfl) _, Z % n, hm.1, hm.2, by simp, hF⟩
  · decide

set_option maxRecDepth 20000 in
set_option maxHeartbeats 16000000 in
theorem k_pick2 (n : Int) (hn : 1 ≤ n) (hn2 : n ≤ 1000000) (hb : N ≤ b) (hbB : b < B) (hne : ∀ q ∈ L, q.1 ≠ b) (hby : Bytes W s len N) (hl0 : 0 < len) (hge : len ≤ p) (hp : p ≤ 100000) (hlen : len ≤ 2000) (w : World) (hF : Fa N W sz ((b, rdO s len cap p) :: L) w) :
    CallsC Try.prog true AtRel (DE (EvL (fun _ => False) B)) 30 #[.pointer (some ⟨b, 0, none⟩), .int .i64 n] 300 w fun v w' => ∃ x, 0 ≤ x ∧ x < n ∧ v = .int .i64 x ∧ Fa N W sz ((b, rdO s len cap (p + 1)) :: L) w' := by
  have T : Terms AtRel (DE (EvL (fun _ => False) B)) := terms_b
  rcases hby with h0 | ⟨cb, off, rfl, hcb, z, hz⟩
  · omega
  have hcB : cb < B := by omega
  obtain ⟨z1, z2, z3⟩ := hz (p % len) (Nat.mod_lt _ hl0)
  obtain ⟨y1, y2, y3⟩ := hz ((p * 7 + 3) % len) (Nat.mod_lt _ hl0)
  have hi1 : p % len < len := Nat.mod_lt _ hl0
  have hi2 : (p * 7 + 3) % len < len := Nat.mod_lt _ hl0
  have hq : p / len ≤ p := Nat.div_le_self _ _
  have m1 : (p : Int).tmod (len : Int) = ((p % len : Nat) : Int) := by rw [Int.tmod_eq_emod_of_nonneg (by omega)]; omega
  have m2 : ((p : Int) * 7 + 3).tmod (len : Int) = (((p * 7 + 3) % len : Nat) : Int) := by rw [Int.tmod_eq_emod_of_nonneg (by omega)]; simp
  have m3 : (p : Int).tdiv (len : Int) = ((p / len : Nat) : Int) := by rw [Int.tdiv_eq_ediv_of_nonneg (by omega)]; omega
  have hcell1 : ∀ {w : World} {q : Nat}, Fa N W sz ((b, rdO (some ⟨cb, off, none⟩) len cap q) :: L) w → w.cell? ⟨cb, off + p % len, none⟩ = some (.int .u8 (z (p % len))) := fun h => (World.cell?_of_block (h.old cb hcb)).trans z1
  have hcell2 : ∀ {w : World} {q : Nat}, Fa N W sz ((b, rdO (some ⟨cb, off, none⟩) len cap q) :: L) w → w.cell? ⟨cb, off + (p * 7 + 3) % len, none⟩ = some (.int .u8 (z ((p * 7 + 3) % len))) := fun h => (World.cell?_of_block (h.old cb hcb)).trans y1
  clear hz z1 y1
  generalize z (p % len) = Z at *
  generalize z ((p * 7 + 3) % len) = Y at *
  generalize p % len = i1 at *
  generalize (p * 7 + 3) % len = i2 at *
  generalize p / len = q at *
  obtain ⟨X, hX⟩ : ∃ X : Int, X = Z * 131 + Y * 1117 + (p : Int) * 29 + (q : Int) * 53 := ⟨_, rfl⟩
  have hX1 : 0 ≤ X ∧ X < 2 ^ 40 := by omega
  have hxn := xor_nn X (X / 64) (by omega) (by omega) (by omega) (by omega)
  obtain ⟨D, hD⟩ : ∃ D : Int, D = X / 64 := ⟨_, rfl⟩
  obtain ⟨V, hV⟩ : ∃ V : Int, V = bits .xor .i64 X D := ⟨_, rfl⟩
  rw [← hD, ← hV] at hxn
  have hm := emod_bd V n hn
  have d1 : X.tdiv 64 = D := by rw [hD]; exact Int.tdiv_eq_ediv_of_nonneg hX1.1
  have d2 : IntKind.i64.wrap D = D := by rw [IntKind.wrap_i64]; omega
  have d3 : bits .xor .i64 X D = V := hV.symm
  have d4 : V.tmod n = V % n := Int.tmod_eq_emod_of_nonneg hxn
  have d5 : IntKind.i64.wrap (V % n) = V % n := by rw [IntKind.wrap_i64]; omega
  have w0 : IntKind.i64.wrap Z = Z := by rw [IntKind.wrap_i64]; omega
  have w0' : IntKind.i64.wrap Y = Y := by rw [IntKind.wrap_i64]; omega
  have wa : IntKind.i64.wrap ((i1 : Nat) : Int) = (i1 : Int) := by rw [IntKind.wrap_i64]; omega
  have wb : IntKind.i64.wrap ((i2 : Nat) : Int) = (i2 : Int) := by rw [IntKind.wrap_i64]; omega
  have wc : IntKind.i64.wrap ((q : Nat) : Int) = (q : Int) := by rw [IntKind.wrap_i64]; omega
  have w1 : IntKind.i64.wrap (Z * 131) = Z * 131 := by rw [IntKind.wrap_i64]; omega
  have w2 : IntKind.i64.wrap ((p : Int) * 7) = (p : Int) * 7 := by rw [IntKind.wrap_i64]; omega
  have w3 : IntKind.i64.wrap ((p : Int) * 7 + 3) = (p : Int) * 7 + 3 := by rw [IntKind.wrap_i64]; omega
  have w4 : IntKind.i64.wrap (Y * 1117) = Y * 1117 := by rw [IntKind.wrap_i64]; omega
  have w5 : IntKind.i64.wrap (Z * 131 + Y * 1117) = Z * 131 + Y * 1117 := by rw [IntKind.wrap_i64]; omega
  have w6 : IntKind.i64.wrap ((p : Int) * 29) = (p : Int) * 29 := by rw [IntKind.wrap_i64]; omega
  have w7 : IntKind.i64.wrap (Z * 131 + Y * 1117 + (p : Int) * 29) = Z * 131 + Y * 1117 + (p : Int) * 29 := by rw [IntKind.wrap_i64]; omega
  have w8 : IntKind.i64.wrap ((q : Int) * 53) = (q : Int) * 53 := by rw [IntKind.wrap_i64]; omega
  have w9 : IntKind.i64.wrap (Z * 131 + Y * 1117 + (p : Int) * 29 + (q : Int) * 53) = X := by rw [IntKind.wrap_i64]; omega
  have hwr : IntKind.i64.wrap ((p : Int) + 1) = (p : Int) + 1 := by rw [IntKind.wrap_i64]; omega
  have hwr2 : IntKind.i64.wrap (p : Int) = (p : Int) := by rw [IntKind.wrap_i64]; omega
  have hlt1 : decide (n < 1) = false := by simp; omega
  have hl1 : ((len : Int) == 0) = false := by simp; omega
  have hl2 : ¬ len = 0 := by omega
  have hlt2 : decide ((p : Int) < (len : Int)) = false := by simp; omega
  have hlt3 : ¬ p < len := by omega
  have hn0 : ¬ n = 0 := by omega
  clear hX hD hV hge hq hp hlen
  co_apply callsC_more
  · (co_apply callsC_of_wpC Try.func30 (by rfl) rfl; simp only [Try.ntmps30, List.size_toArray, List.length_cons, List.length_nil, Nat.reduceAdd, Nat.reduceSub, Array.replicate_succ, Array.replicate_zero, List.push_toArray, List.append_toArray, List.nil_append, List.cons_append])
    (co_apply wpC_seq T
     co_reg T
     co_op Fa.atRel hF (co_quiet T)
     co_apply opsC_nil T
     co_then
     co_apply wpC_seq T
     co_reg T
     co_op Fa.atRel hF (co_quiet T)
     co_op Fa.atRel hF (co_quiet T)
     co_opw Fa.atRel hF (skip) (co_still T)
     co_opw Fa.atRel hF (skip) (co_still T)
     co_opw Fa.atRel hF (have hc := rd_c1 hF) ((refine fun e he => ?_; have hm := mem_listed he; simp [go_sem, *] at hm; try (first | (subst hm; (exact ev_nS _ hbB)) | (rcases hm with hm | hm <;> (subst hm; (exact ev_nS _ hbB))))))
     clear hc
     co_op Fa.atRel hF (co_quiet T)
     co_opw Fa.atRel hF (skip) (co_still T)
     co_opw Fa.atRel hF (skip) (co_still T)
     co_opw Fa.atRel hF (have hc := rd_c1 hF; have hz := rd_fz hF) ((refine fun e he => ?_; have hm := mem_listed he; simp [go_sem, *] at hm; try (first | (subst hm; (exact ev_nS _ hbB)) | (rcases hm with hm | hm <;> (subst hm; (exact ev_nS _ hbB))))))
     clear hc hz
     replace hF := rd_next hF hb hne
     co_apply opsC_nil T
     co_then)
    co_apply wpC_seq T
    co_apply wpC_seq T
    co_reg T
    repeat (first
             | co_opw Fa.atRel hF (skip) (co_still T)
             | (co_opw Fa.atRel hF (have hc := rd_c0 hF) ((refine fun e he => ?_; have hm := mem_listed he; simp [go_sem, *] at hm; try (first | (subst hm; (exact ev_nS _ hbB)) | (rcases hm with hm | hm <;> (subst hm; (exact ev_nS _ hbB)))))); clear hc)
             | (co_opw Fa.atRel hF (have hc := rd_c1 hF) ((refine fun e he => ?_; have hm := mem_listed he; simp [go_sem, *] at hm; try (first | (subst hm; (exact ev_nS _ hbB)) | (rcases hm with hm | hm <;> (subst hm; (exact ev_nS _ hbB)))))); clear hc))
    co_apply opsC_nil T
    co_then
    co_apply wpC_cond T (t := false)
    · first | (simp [Act.eval]; done) | (simp [Act.eval]; omega)
    simp only [if_false, Bool.false_eq_true]
    co_apply wpC_skip T
    co_then
    co_apply wpC_seq T
    co_reg T
    repeat (first
             | co_opw Fa.atRel hF (skip) (co_still T)
             | (co_opw Fa.atRel hF (have hc := rd_c0 hF) ((refine fun e he => ?_; have hm := mem_listed he; simp [go_sem, *] at hm; try (first | (subst hm; (exact ev_nS _ hbB)) | (rcases hm with hm | hm <;> (subst hm; (exact ev_nS _ hbB)))))); clear hc)
             | (co_opw Fa.atRel hF (have hc := rd_c1 hF) ((refine fun e he => ?_; have hm := mem_listed he; simp [go_sem, *] at hm; try (first | (subst hm; (exact ev_nS _ hbB)) | (rcases hm with hm | hm <;> (subst hm; (exact ev_nS _ hbB)))))); clear hc))
    co_apply opsC_nil T
    co_then
    co_apply wpC_seq T
    co_apply wpC_seq T
    co_reg T
    repeat (first
             | co_opw Fa.atRel hF (skip) (co_still T)
             | (co_opw Fa.atRel hF (have hc := rd_c0 hF) ((refine fun e he => ?_; have hm := mem_listed he; simp [go_sem, *] at hm; try (first | (subst hm; (exact ev_nS _ hbB)) | (rcases hm with hm | hm <;> (subst hm; (exact ev_nS _ hbB)))))); clear hc)
             | (co_opw Fa.atRel hF (have hc := rd_c1 hF) ((refine fun e he => ?_; have hm := mem_listed he; simp [go_sem, *] at hm; try (first | (subst hm; (exact ev_nS _ hbB)) | (rcases hm with hm | hm <;> (subst hm; (exact ev_nS _ hbB)))))); clear hc))
    co_apply opsC_nil T
    co_then
    co_apply wpC_cond T (t := false)
    · first | (simp [Act.eval]; done) | (simp [Act.eval]; omega)
    simp only [if_false, Bool.false_eq_true]
    co_apply wpC_skip T
    co_then
    co_apply wpC_seq T
    co_held T draw_b drawAt (Fa N W sz ((b, rdO (some ⟨cb, off, none⟩) len cap (p + 1)) :: L)) Fa.atRel hF
    co_take 0 T Fa.atRel hF hw (skip) (co_still T)
    co_take 1 T Fa.atRel hF hw (skip) (co_still T)
    co_take 2 T Fa.atRel hF hw (skip) (co_still T)
    co_take 3 T Fa.atRel hF hw (have hc := rd_c0 hw) ((refine fun e he => ?_; have hm := mem_listed he; simp [go_sem, *] at hm; try (first | (subst hm; (exact ev_nS _ hbB)) | (rcases hm with hm | hm <;> (subst hm; (exact ev_nS _ hbB))))))
    co_take 4 T Fa.atRel hF hw (skip) (co_still T)
    co_take 5 T Fa.atRel hF hw (skip) (co_still T)
    co_take 6 T Fa.atRel hF hw (skip) (co_still T)
    co_take 7 T Fa.atRel hF hw (skip) (co_still T)
    co_take 8 T Fa.atRel hF hw (have hc := rd_c0 hw) ((refine fun e he => ?_; have hm := mem_listed he; simp [go_sem, *] at hm; try (first | (subst hm; (exact ev_nS _ hbB)) | (rcases hm with hm | hm <;> (subst hm; (exact ev_nS _ hbB))))))
    co_take 9 T Fa.atRel hF hw (skip) (co_still T)
    co_take 10 T Fa.atRel hF hw (skip) (co_still T)
    co_take 11 T Fa.atRel hF hw (skip) (co_still T)
    co_take 12 T Fa.atRel hF hw (have hc := hcell1 hw) ((refine fun e he => ?_; have hm := mem_listed he; simp [go_sem, *] at hm; try (first | (subst hm; (exact ev_nS _ hcB)) | (rcases hm with hm | hm <;> (subst hm; (exact ev_nS _ hcB))))))
    co_take 13 T Fa.atRel hF hw (skip) (co_still T)
    co_take 14 T Fa.atRel hF hw (skip) (co_still T)
    co_take 15 T Fa.atRel hF hw (skip) (co_still T)
    co_take 16 T Fa.atRel hF hw (skip) (co_still T)
    co_take 17 T Fa.atRel hF hw (skip) (co_still T)
    co_take 18 T Fa.atRel hF hw (have hc := rd_c0 hw) ((refine fun e he => ?_; have hm := mem_listed he; simp [go_sem, *] at hm; try (first | (subst hm; (exact ev_nS _ hbB)) | (rcases hm with hm | hm <;> (subst hm; (exact ev_nS _ hbB))))))
    co_take 19 T Fa.atRel hF hw (skip) (co_still T)
    co_take 20 T Fa.atRel hF hw (skip) (co_still T)
    co_take 21 T Fa.atRel hF hw (skip) (co_still T)
    co_take 22 T Fa.atRel hF hw (skip) (co_still T)
    co_take 23 T Fa.atRel hF hw (skip) (co_still T)
    co_take 24 T Fa.atRel hF hw (skip) (co_still T)
    co_take 25 T Fa.atRel hF hw (have hc := rd_c0 hw) ((refine fun e he => ?_; have hm := mem_listed he; simp [go_sem, *] at hm; try (first | (subst hm; (exact ev_nS _ hbB)) | (rcases hm with hm | hm <;> (subst hm; (exact ev_nS _ hbB))))))
    co_take 26 T Fa.atRel hF hw (skip) (co_still T)
    co_take 27 T Fa.atRel hF hw (skip) (co_still T)
    co_take 28 T Fa.atRel hF hw (skip) (co_still T)
    co_take 29 T Fa.atRel hF hw (have hc := hcell2 hw) ((refine fun e he => ?_; have hm := mem_listed he; simp [go_sem, *] at hm; try (first | (subst hm; (exact ev_nS _ hcB)) | (rcases hm with hm | hm <;> (subst hm; (exact ev_nS _ hcB))))))
    co_take 30 T Fa.atRel hF hw (skip) (co_still T)
    co_take 31 T Fa.atRel hF hw (skip) (co_still T)
    co_take 32 T Fa.atRel hF hw (skip) (co_still T)
    co_take 33 T Fa.atRel hF hw (skip) (co_still T)
    co_take 34 T Fa.atRel hF hw (skip) (co_still T)
    co_take 35 T Fa.atRel hF hw (skip) (co_still T)
    co_take 36 T Fa.atRel hF hw (skip) (co_still T)
    co_take 37 T Fa.atRel hF hw (skip) (co_still T)
    co_take 38 T Fa.atRel hF hw (skip) (co_still T)
    co_take 39 T Fa.atRel hF hw (skip) (co_still T)
    co_take 40 T Fa.atRel hF hw (have hc := rd_c0 hw) ((refine fun e he => ?_; have hm := mem_listed he; simp [go_sem, *] at hm; try (first | (subst hm; (exact ev_nS _ hbB)) | (rcases hm with hm | hm <;> (subst hm; (exact ev_nS _ hbB))))))
    co_take 41 T Fa.atRel hF hw (skip) (co_still T)
    co_take 42 T Fa.atRel hF hw (skip) (co_still T)
    co_take 43 T Fa.atRel hF hw (skip) (co_still T)
    co_take 44 T Fa.atRel hF hw (skip) (co_still T)
    co_take 45 T Fa.atRel hF hw (skip) (co_still T)
    co_done
    co_apply wpC_seq T
    co_reg T
    repeat (first
             | co_opw Fa.atRel hF (skip) (co_still T)
             | (co_opw Fa.atRel hF (have hc := rd_c0 hF) ((refine fun e he => ?_; have hm := mem_listed he; simp [go_sem, *] at hm; try (first | (subst hm; (exact ev_nS _ hbB)) | (rcases hm with hm | hm <;> (subst hm; (exact ev_nS _ hbB)))))); clear hc)
             | (co_opw Fa.atRel hF (have hc := rd_c1 hF) ((refine fun e he => ?_; have hm := mem_listed he; simp [go_sem, *] at hm; try (first | (subst hm; (exact ev_nS _ hbB)) | (rcases hm with hm | hm <;> (subst hm; (exact ev_nS _ hbB)))))); clear hc))
    co_apply opsC_nil T
    co_then
    co_apply wpC_seq T
    co_reg T
    repeat (first
             | co_opw Fa.atRel hF (skip) (co_still T)
             | (co_opw Fa.atRel hF (have hc := rd_c0 hF) ((refine fun e he => ?_; have hm := mem_listed he; simp [go_sem, *] at hm; try (first | (subst hm; (exact ev_nS _ hbB)) | (rcases hm with hm | hm <;> (subst hm; (exact ev_nS _ hbB)))))); clear hc)
             | (co_opw Fa.atRel hF (have hc := rd_c1 hF) ((refine fun e he => ?_; have hm := mem_listed he; simp [go_sem, *] at hm; try (first | (subst hm; (exact ev_nS _ hbB)) | (rcases hm with hm | hm <;> (subst hm; (exact ev_nS _ hbB)))))); clear hc))
    co_apply opsC_nil T
    co_then
    co_go T Fa.atRel hF (co_quiet T)
    exact ⟨rfl, _, resultsC_tmp (by rfl) _, V % n, hm.1, hm.2, by simp, hF⟩
  · decide

/-- The next number. -/
theorem k_pick (n : Int) (hn : 1 ≤ n) (hn2 : n ≤ 1000000) (hb : N ≤ b) (hbB : b < B) (hne : ∀ q ∈ L, q.1 ≠ b) (hby : Bytes W s len N) (hp : p ≤ 100000) (hlen : len ≤ 2000) (w : World) (hF : Fa N W sz ((b, rdO s len cap p) :: L) w) :
    CallsC Try.prog true AtRel (DE (EvL (fun _ => False) B)) 30 #[.pointer (some ⟨b, 0, none⟩), .int .i64 n] 300 w fun v w' => ∃ x, 0 ≤ x ∧ x < n ∧ v = .int .i64 x ∧ Fa N W sz ((b, rdO s len cap (p + 1)) :: L) w' := by
  rcases Nat.eq_zero_or_pos len with h0 | h0
  · exact callsC_more (k_pick0 n hn hb hbB hne h0 hp w hF) (by decide)
  · rcases Nat.lt_or_ge p len with h1 | h1
    · exact callsC_more (k_pick1 n hn hn2 hb hbB hne hby h1 hp hlen w hF) (by decide)
    · exact k_pick2 n hn hn2 hb hbB hne hby h0 h1 hp hlen w hF
end
end Go.Proofs.Ytfgipjgjehjijaa
