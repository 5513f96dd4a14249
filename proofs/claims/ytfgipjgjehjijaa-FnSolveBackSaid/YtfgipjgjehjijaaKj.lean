/- Orders in company (own text). -/
import Derived.Test.YtfgipjgjehjijaaKi
namespace Go.Proofs.Ytfgipjgjehjijaa
open Go Go.RowKit Go.Conc

/-- the first k from k on, of n, at which the products come to 1; 0 if there is none -/
def ordN (m f : Int) : Nat → Int → Int → Int
  | 0, _, _ => 0
  | n + 1, q, k => if q * f % m = 1 % m then k else ordN m f n (q * f % m) (k + 1)
/-- the order of a by m, or 0 -/
def ordX (a m : Int) : Int := ordN m (a % m) m.toNat (1 % m) 1
theorem ordN_bd (m f : Int) : ∀ (n : Nat) (q k : Int), 1 ≤ k → 0 ≤ ordN m f n q k ∧ ordN m f n q k < k + n
  | 0, q, k, h => by simp [ordN]; omega
  | n + 1, q, k, h => by
    have := ordN_bd m f n (q * f % m) (k + 1) (by omega)
    simp only [ordN]
    split <;> omega
theorem ordX_bd (a m : Int) (hm : 1 ≤ m) : 0 ≤ ordX a m ∧ ordX a m ≤ m := by
  have := ordN_bd m (a % m) m.toNat (1 % m) 1 (by omega)
  unfold ordX; omega

section
variable {main : Bool} {R : World → World → Prop} {D : World → World → Array Event → Prop}

def OInv (R : World → World → Prop) (w₀ : World) (a m o f res : Int) (A : Act) (w : World) : Prop :=
  ∃ (n : Nat) (q k : Int) (v2 v3 v4 v5 v10 v11 v12 v13 v14 v15 v16 v17 v18 v19 v20 v21 v22 v23 v24 v25 v26 v27 v28 v29 : Value), k + n = m + 1 ∧ 1 ≤ k ∧ 0 ≤ q ∧ q < m ∧ ordN m f n q k = res ∧ Since R w₀ w ∧
    A = { tmps := #[.int .i64 a, .int .i64 m, v2, v3, v4, v5, .int .i64 o, .int .i64 f, .int .i64 q, .int .i64 k, v10, v11, v12, v13, v14, v15, v16, v17, v18, v19, v20, v21, v22, v23, v24, v25, v26, v27, v28, v29], defers := [] }
def OMu (m : Int) (s : Nat) (A : Act) (_ : World) : Nat := match A.tmps.getD s undef with | .int _ k => (m + 1 - k).toNat | _ => 0

set_option maxRecDepth 20000 in
set_option maxHeartbeats 1000000 in
theorem k_orderOf (T : Terms R D) (a m : Int) (hm : 1 ≤ m) (hm2 : m ≤ 1000) (w : World) :
    CallsC Try.prog main R D 64 #[.int .i64 a, .int .i64 m] 300000 w fun v w' => v = .tuple #[.int .i64 (ordX a m), .bool (decide (ordX a m ≠ 0))] ∧ Since R w w' := by
  obtain ⟨o0, o1⟩ := emod_bd 1 m hm
  obtain ⟨f0, f1⟩ := emod_bd a m hm
  have hF : Since R w w := .refl w
  co_apply callsC_more
  · (co_apply callsC_of_wpC Try.func64 (by rfl) rfl; simp only [Try.ntmps64, List.size_toArray, List.length_cons, List.length_nil, Nat.reduceAdd, Nat.reduceSub, Array.replicate_succ, Array.replicate_zero, List.push_toArray, List.append_toArray, List.nil_append, List.cons_append])
    co_go T (Since.rely T) hF (co_quiet T)
    co_apply opsC_pure T hF rfl (by rfl) rfl
    · walk_nrm
      exact k_restOf T _ _ hm hm2 _
    intro w1 hF
    walk_nrm
    co_go T (Since.rely T) hF (co_quiet T)
    co_apply opsC_pure T hF rfl (by rfl) rfl
    · walk_nrm
      exact k_restOf T _ _ hm hm2 _
    intro w1 hF
    walk_nrm
    co_go T (Since.rely T) hF (co_quiet T)
    co_apply wpC_loop T (OInv R w a m (1 % m) (a % m) (ordX a m)) (OMu m 9) 200 1000
    · exact ⟨m.toNat, _, _, _, _, _, _, _, _, _, _, _, _, _, _, _, _, _, _, _, _, _, _, _, _, _, _, by omega, by omega, o0, o1, rfl, hF, rfl⟩
    · simp [OMu]; omega
    · rintro A w2 ⟨n, q, k, v2, v3, v4, v5, v10, v11, v12, v13, v14, v15, v16, v17, v18, v19, v20, v21, v22, v23, v24, v25, v26, v27, v28, v29, hk, hk1, q0, q1, hres, hF, rfl⟩
      by_cases hkm : k ≤ m
      · obtain ⟨n, rfl⟩ : ∃ n', n = n' + 1 := ⟨n - 1, by omega⟩
        obtain ⟨p0, p1⟩ := emod_bd (q * (a % m)) m hm
        have hmul : IntKind.i64.wrap (q * (a % m)) = q * (a % m) := by
          have h1 : 0 ≤ q * (a % m) := Int.mul_nonneg q0 f0
          have h2 : q * (a % m) ≤ 1000 * 1000 := Int.mul_le_mul (by omega) (by omega) f0 (by omega)
          rw [IntKind.wrap_i64]; omega
        have hk2 : IntKind.i64.wrap (k + 1) = k + 1 := by rw [IntKind.wrap_i64]; omega
        by_cases hq : q * (a % m) % m = 1 % m
        · have hr : k = ordX a m := by rw [← hres]; simp [ordN, hq]
          have hr0 : ¬ ordX a m = 0 := by omega
          co_apply wpC_more
          · co_go T (Since.rely T) hF (co_quiet T)
            co_apply wpC_cond T (t := true)
            · first | (simp [Act.eval]; done) | (simp [Act.eval]; omega)
            simp only [if_true]
            co_apply wpC_skip T
            co_then
            co_apply wpC_seq T (n₂ := 0)
            co_go T (Since.rely T) hF (co_quiet T)
            co_apply opsC_pure T hF rfl (by rfl) rfl
            · walk_nrm
              exact k_restOf T _ _ hm hm2 _
            intro w1 hF
            walk_nrm
            co_go T (Since.rely T) hF (co_quiet T)
            co_apply wpC_cond T (t := true)
            · first | (simp [Act.eval]; done) | (simp [Act.eval]; omega)
            simp only [if_true]
            co_go T (Since.rely T) hF (co_quiet T)
            exact ⟨rfl, _, resultsC_tmp2 (by rfl) _, by simp [hr0], hF⟩
          · decide
        · co_apply wpC_more
          · co_go T (Since.rely T) hF (co_quiet T)
            co_apply wpC_cond T (t := true)
            · first | (simp [Act.eval]; done) | (simp [Act.eval]; omega)
            simp only [if_true]
            co_go T (Since.rely T) hF (co_quiet T)
            co_apply opsC_pure T hF rfl (by rfl) rfl
            · walk_nrm
              exact k_restOf T _ _ hm hm2 _
            intro w1 hF
            walk_nrm
            co_go T (Since.rely T) hF (co_quiet T)
            co_apply wpC_cond T (t := false)
            · first | (simp [Act.eval]; done) | (simp [Act.eval]; omega)
            simp only [if_false, Bool.false_eq_true]
            co_go T (Since.rely T) hF (co_quiet T)
            exact ⟨⟨n, _, _, _, _, _, _, _, _, _, _, _, _, _, _, _, _, _, _, _, _, _, _, _, _, _, _, by omega, by omega, p0, p1, by rw [← hres]; simp [ordN, hq], hF, rfl⟩, by simp [OMu]; omega⟩
          · decide
      · obtain rfl : n = 0 := by omega
        simp only [ordN] at hres
        co_apply wpC_more
        · co_apply wpC_seq T (n₂ := 0)
          co_go T (Since.rely T) hF (co_quiet T)
          co_apply wpC_cond T (t := false)
          · first | (simp [Act.eval]; done) | (simp [Act.eval]; omega)
          simp only [if_false, Bool.false_eq_true]
          co_go T (Since.rely T) hF (co_quiet T)
          exact ⟨rfl, _, resultsC_tmp2 (by rfl) _, by simp [← hres], hF⟩
        · decide
  · decide

def SInv (R : World → World → Prop) (w₀ : World) (a m res : Int) (A : Act) (w : World) : Prop :=
  ∃ (n : Nat) (q k : Int) (v2 v3 v4 v7 v8 v9 v10 v11 v12 v13 v14 v15 v16 v17 v18 v19 v20 v21 v22 v23 v24 v25 : Value), k + n = m + 1 ∧ 1 ≤ k ∧ 0 ≤ q ∧ q < m ∧ ordN m (a % m) n q k = res ∧ Since R w₀ w ∧
    A = { tmps := #[.int .i64 a, .int .i64 m, v2, v3, v4, .int .i64 q, .int .i64 k, v7, v8, v9, v10, v11, v12, v13, v14, v15, v16, v17, v18, v19, v20, v21, v22, v23, v24, v25], defers := [] }

set_option maxRecDepth 20000 in
set_option maxHeartbeats 1000000 in
theorem k_l6sOrder (T : Terms R D) (a m : Int) (hm : 1 ≤ m) (hm2 : m ≤ 1000) (w : World) :
    CallsC Try.prog main R D 23 #[.int .i64 a, .int .i64 m] 300000 w fun v w' => v = .int .i64 (ordX a m) ∧ Since R w w' := by
  obtain ⟨o0, o1⟩ := emod_bd 1 m hm
  obtain ⟨f0, f1⟩ := emod_bd a m hm
  have ht1 : (1 : Int).tmod m = 1 % m := Int.tmod_eq_emod_of_nonneg (by omega)
  have hm0 : ¬ m = 0 := by omega
  have hF : Since R w w := .refl w
  co_apply callsC_more
  · (co_apply callsC_of_wpC Try.func23 (by rfl) rfl; simp only [Try.ntmps23, List.size_toArray, List.length_cons, List.length_nil, Nat.reduceAdd, Nat.reduceSub, Array.replicate_succ, Array.replicate_zero, List.push_toArray, List.append_toArray, List.nil_append, List.cons_append])
    co_go T (Since.rely T) hF (co_quiet T)
    co_apply wpC_loop T (SInv R w a m (ordX a m)) (OMu m 6) 200 1000
    · exact ⟨m.toNat, _, _, _, _, _, _, _, _, _, _, _, _, _, _, _, _, _, _, _, _, _, _, _, _, by omega, by omega, o0, o1, rfl, hF, rfl⟩
    · simp [OMu]; omega
    · rintro A w2 ⟨n, q, k, v2, v3, v4, v7, v8, v9, v10, v11, v12, v13, v14, v15, v16, v17, v18, v19, v20, v21, v22, v23, v24, v25, hk, hk1, q0, q1, hres, hF, rfl⟩
      by_cases hkm : k ≤ m
      · obtain ⟨n, rfl⟩ : ∃ n', n = n' + 1 := ⟨n - 1, by omega⟩
        obtain ⟨p0, p1⟩ := emod_bd (q * (a % m)) m hm
        have hmul : IntKind.i64.wrap (q * (a % m)) = q * (a % m) := by
          have h1 : 0 ≤ q * (a % m) := Int.mul_nonneg q0 f0
          have h2 : q * (a % m) ≤ 1000 * 1000 := Int.mul_le_mul (by omega) (by omega) f0 (by omega)
          rw [IntKind.wrap_i64]; omega
        have hrem : (q * (a % m)).tmod m = q * (a % m) % m := Int.tmod_eq_emod_of_nonneg (Int.mul_nonneg q0 f0)
        have hk2 : IntKind.i64.wrap (k + 1) = k + 1 := by rw [IntKind.wrap_i64]; omega
        by_cases hq : q * (a % m) % m = 1 % m
        · have hr : k = ordX a m := by rw [← hres]; simp [ordN, hq]
          co_apply wpC_more
          · co_go T (Since.rely T) hF (co_quiet T)
            co_apply wpC_cond T (t := true)
            · first | (simp [Act.eval]; done) | (simp [Act.eval]; omega)
            simp only [if_true]
            co_apply wpC_skip T
            co_then
            co_apply wpC_seq T (n₂ := 0)
            co_go T (Since.rely T) hF (co_quiet T)
            co_apply opsC_pure T hF rfl (by rfl) rfl
            · walk_nrm
              exact k_l1Rest T _ _ hm hm2 _
            intro w1 hF
            walk_nrm
            co_go T (Since.rely T) hF (co_quiet T)
            co_apply wpC_cond T (t := true)
            · first | (simp [Act.eval]; done) | (simp [Act.eval]; omega)
            simp only [if_true]
            co_go T (Since.rely T) hF (co_quiet T)
            exact ⟨rfl, _, resultsC_tmp (by rfl) _, by simp, hF⟩
          · decide
        · co_apply wpC_more
          · co_go T (Since.rely T) hF (co_quiet T)
            co_apply wpC_cond T (t := true)
            · first | (simp [Act.eval]; done) | (simp [Act.eval]; omega)
            simp only [if_true]
            co_go T (Since.rely T) hF (co_quiet T)
            co_apply opsC_pure T hF rfl (by rfl) rfl
            · walk_nrm
              exact k_l1Rest T _ _ hm hm2 _
            intro w1 hF
            walk_nrm
            co_go T (Since.rely T) hF (co_quiet T)
            co_apply wpC_cond T (t := false)
            · first | (simp [Act.eval]; done) | (simp [Act.eval]; omega)
            simp only [if_false, Bool.false_eq_true]
            co_go T (Since.rely T) hF (co_quiet T)
            exact ⟨⟨n, _, _, _, _, _, _, _, _, _, _, _, _, _, _, _, _, _, _, _, _, _, _, _, _, by omega, by omega, p0, p1, by rw [← hres]; simp [ordN, hq], hF, rfl⟩, by simp [OMu]; omega⟩
          · decide
      · obtain rfl : n = 0 := by omega
        simp only [ordN] at hres
        co_apply wpC_more
        · co_apply wpC_seq T (n₂ := 0)
          co_go T (Since.rely T) hF (co_quiet T)
          co_apply wpC_cond T (t := false)
          · first | (simp [Act.eval]; done) | (simp [Act.eval]; omega)
          simp only [if_false, Bool.false_eq_true]
          co_go T (Since.rely T) hF (co_quiet T)
          exact ⟨rfl, _, resultsC_tmp (by rfl) _, by simp [← hres], hF⟩
        · decide
  · decide

/-- what SolveOrder answers -/
def ordB (a m : Int) : Bool := (numB a && modB m) && decide (ordX a m ≠ 0)
def ordV (a m : Int) : Int := bif numB a && modB m then ordX a m else 0

set_option maxRecDepth 20000 in
theorem k_specOrder (T : Terms R D) (a m : Int) (w : World) :
    CallsC Try.prog main R D 11 #[.int .i64 a, .int .i64 m] 400000 w fun v w' => v = .tuple #[.int .i64 (ordV a m), .bool (ordB a m)] ∧ Since R w w' := by
  have hF : Since R w w := .refl w
  have hn : nmsB m a 0 = (numB a && modB m) := by simp [nmsB, numB, Bool.and_comm]
  cases h : (numB a && modB m) with
  | false =>
    co_apply callsC_more
    · (co_apply callsC_of_wpC Try.func11 (by rfl) rfl; simp only [Try.ntmps11, List.size_toArray, List.length_cons, List.length_nil, Nat.reduceAdd, Nat.reduceSub, Array.replicate_succ, Array.replicate_zero, List.push_toArray, List.append_toArray, List.nil_append, List.cons_append])
      co_apply wpC_seq T
      co_reg T
      co_op (Since.rely T) hF (co_quiet T)
      co_op (Since.rely T) hF (co_quiet T)
      co_apply opsC_nil T
      co_then
      co_apply wpC_seq T (n₂ := 0)
      co_go T (Since.rely T) hF (co_quiet T)
      co_apply opsC_pure T hF rfl (by rfl) rfl
      · walk_nrm
        exact k_l6sNumbers T _ _ _ _
      intro w1 hF
      rw [hn, h]
      walk_nrm
      co_go T (Since.rely T) hF (co_quiet T)
      co_apply wpC_cond T (t := true)
      · first | (simp [Act.eval]; done) | (simp [Act.eval]; omega)
      simp only [if_true]
      co_go T (Since.rely T) hF (co_quiet T)
      exact ⟨rfl, _, resultsC_tmp2 (by rfl) _, by simp [ordV, ordB, h], hF⟩
    · decide
  | true =>
    obtain ⟨ha, hm⟩ : numB a = true ∧ modB m = true := by simpa using h
    have hm := modB_iff.1 hm
    have hb := ordX_bd a m hm.1
    co_apply callsC_more
    · (co_apply callsC_of_wpC Try.func11 (by rfl) rfl; simp only [Try.ntmps11, List.size_toArray, List.length_cons, List.length_nil, Nat.reduceAdd, Nat.reduceSub, Array.replicate_succ, Array.replicate_zero, List.push_toArray, List.append_toArray, List.nil_append, List.cons_append])
      co_go T (Since.rely T) hF (co_quiet T)
      co_apply opsC_pure T hF rfl (by rfl) rfl
      · walk_nrm
        exact k_l6sNumbers T _ _ _ _
      intro w1 hF
      rw [hn, h]
      walk_nrm
      co_go T (Since.rely T) hF (co_quiet T)
      co_apply wpC_cond T (t := false)
      · first | (simp [Act.eval]; done) | (simp [Act.eval]; omega)
      simp only [if_false, Bool.false_eq_true]
      co_go T (Since.rely T) hF (co_quiet T)
      co_apply opsC_pure T hF rfl (by rfl) rfl
      · walk_nrm
        exact k_l6sOrder T _ _ hm.1 hm.2 _
      intro w1 hF
      walk_nrm
      co_go T (Since.rely T) hF (co_quiet T)
      refine ⟨rfl, _, resultsC_tmp2 (by rfl) _, ?_, hF⟩
      have e : decide (0 < ordX a m) = decide (ordX a m ≠ 0) := decide_eq_decide.2 (by omega)
      simp only [ordV, ordB, h, cond_true, Bool.true_and]
      simp [e]
    · decide
end
end Go.Proofs.Ytfgipjgjehjijaa
