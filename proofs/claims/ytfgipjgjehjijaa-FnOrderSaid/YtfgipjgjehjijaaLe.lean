/- SolvePower in company (own text). -/
import Derived.Test.YtfgipjgjehjijaaLx
import Derived.Test.YtfgipjgjehjijaaMathY
namespace Go.Proofs.Ytfgipjgjehjijaa
open Go Go.RowKit Go.Conc

theorem pow_start2 {a m : Int} (k : Nat) : powK (1 % m) (a % m) m (a ^ k % m) k := by
  unfold powK
  rw [Int.mul_emod, pow_emod, ← Int.mul_emod, Int.mul_emod, Int.emod_emod, ← Int.mul_emod, Int.one_mul]
section
variable {main : Bool} {R : World → World → Prop} {D : World → World → Array Event → Prop}
def PInv (R : World → World → Prop) (w₀ : World) (a m res : Int) (A : Act) (w : World) : Prop :=
  ∃ (K : Nat) (o s : Int) (v3 v4 v5 v9 v10 v11 v12 v13 v14 v15 v16 v17 v18 v19 v20 v21 v22 v23 v24 v25 v26 v27 v28 v29 v30 v31 : Value), (K : Int) ≤ 1000000 ∧ 0 ≤ o ∧ o < m ∧ 0 ≤ s ∧ s < m ∧ powK o s m res K ∧ Since R w₀ w ∧
    A = { tmps := #[.int .i64 a, .int .i64 K, .int .i64 m, v3, v4, v5, .int .i64 0, .int .i64 o, .int .i64 s, v9, v10, v11, v12, v13, v14, v15, v16, v17, v18, v19, v20, v21, v22, v23, v24, v25, v26, v27, v28, v29, v30, v31], defers := [] }
def PMu (A : Act) (_ : World) : Nat := match A.tmps.getD 1 undef with | .int _ k => k.toNat | _ => 0

theorem pw_wrap {m x y : Int} (m2 : m ≤ 1000) (x0 : 0 ≤ x) (x1 : x < m) (y0 : 0 ≤ y) (y1 : y < m) : IntKind.i64.wrap (x * y) = x * y := by
  have h1 : 0 ≤ x * y := Int.mul_nonneg x0 y0
  have h2 : x * y ≤ 1000 * 1000 := Int.mul_le_mul (by omega) (by omega) y0 (by omega)
  rw [IntKind.wrap_i64]; omega

set_option maxRecDepth 20000 in
set_option maxHeartbeats 2000000 in
theorem k_powerOf (T : Terms R D) (a k m : Int) (m1 : 1 ≤ m) (m2 : m ≤ 1000) (k1 : 0 ≤ k) (k2 : k ≤ 1000000) (w : World) :
    CallsC Try.prog main R D 28 #[.int .i64 a, .int .i64 k, .int .i64 m] 500000000 w fun v w' => v = .int .i64 (a ^ k.toNat % m) ∧ Since R w w' := by
  have hF : Since R w w := .refl w
  obtain ⟨o0, o1⟩ := emod_bd 1 m m1
  obtain ⟨a0, a1⟩ := emod_bd a m m1
  have HP := pow_start2 (a := a) (m := m) k.toNat
  generalize hR : a ^ k.toNat % m = res at *
  clear hR
  co_apply callsC_more
  · (co_apply callsC_of_wpC Try.func28 (by rfl) rfl; simp only [Try.ntmps28, List.size_toArray, List.length_cons, List.length_nil, Nat.reduceAdd, Nat.reduceSub, Array.replicate_succ, Array.replicate_zero, List.push_toArray, List.append_toArray, List.nil_append, List.cons_append])
    co_apply wpC_seq T
    co_reg T
    co_op (Since.rely T) hF (co_quiet T)
    co_apply opsC_nil T
    co_then
    co_apply wpC_seq T
    co_reg T
    co_op (Since.rely T) hF (co_quiet T)
    co_apply opsC_pure T hF rfl (by rfl) rfl
    · walk_nrm
      exact k_restOf T _ _ m1 m2 _
    intro w1 hF
    walk_nrm
    co_op (Since.rely T) hF (co_quiet T)
    co_op (Since.rely T) hF (co_quiet T)
    co_apply opsC_pure T hF rfl (by rfl) rfl
    · walk_nrm
      exact k_restOf T _ _ m1 m2 _
    intro w1 hF
    walk_nrm
    co_go T (Since.rely T) hF (co_quiet T)
    co_apply wpC_loop T (PInv R w a m res) PMu 400 1000001
    · exact ⟨k.toNat, _, _, _, _, _, _, _, _, _, _, _, _, _, _, _, _, _, _, _, _, _, _, _, _, _, _, _, _, by omega, o0, o1, a0, a1, HP, hF, by rw [Int.toNat_of_nonneg k1]⟩
    · simp [PMu]; omega
    · rintro A w2 ⟨K, o, s, v3, v4, v5, v9, v10, v11, v12, v13, v14, v15, v16, v17, v18, v19, v20, v21, v22, v23, v24, v25, v26, v27, v28, v29, v30, v31, hK, o0, o1, s0, s1, hP, hF, rfl⟩
      by_cases hk : K = 0
      · have hz := pow_zero' (by rw [hk] at hP; exact hP) o0 o1
        have hd : decide ((0 : Int) < (K : Int)) = false := by simp; omega
        co_apply wpC_more
        · co_apply wpC_seq T (n₂ := 0)
          co_go T (Since.rely T) hF (co_quiet T)
          co_apply wpC_cond T (t := false)
          · first | (simp [Act.eval]; done) | (simp [Act.eval]; omega)
          simp only [if_false, Bool.false_eq_true]
          co_go T (Since.rely T) hF (co_quiet T)
          exact ⟨rfl, _, resultsC_tmp (by rfl) _, by simp, hF⟩
        · decide
      · have hd : decide ((0 : Int) < (K : Int)) = true := by simp; omega
        have p0 := pw_wrap m2 o0 o1 s0 s1
        have q0 := pw_wrap m2 s0 s1 s0 s1
        obtain ⟨t0, t1⟩ := emod_bd (s * s) m m1
        obtain ⟨r0, r1⟩ := emod_bd (o * s) m m1
        obtain ⟨j, hj⟩ : ∃ j, K = 2 * j ∨ K = 2 * j + 1 := ⟨K / 2, by omega⟩
        have e1 : (K : Int).tmod 2 = (K : Int) % 2 := Int.tmod_eq_emod_of_nonneg (by omega)
        have e2 : (K : Int).tdiv 2 = (K : Int) / 2 := Int.tdiv_eq_ediv_of_nonneg (by omega)
        have e3 : (K : Int) / 2 = (j : Int) := by omega
        have e5 : IntKind.i64.wrap (j : Int) = (j : Int) := by rw [IntKind.wrap_i64]; omega
        have hjK : j < K := by omega
        rcases hj with hj | hj
        · have hP' := pow_even (by rw [hj] at hP; exact hP)
          have e4 : (K : Int) % 2 = 0 := by omega
          clear hj hP
          co_apply wpC_more
          · co_go T (Since.rely T) hF (co_quiet T)
            co_apply wpC_cond T (t := true)
            · first | (simp [Act.eval]; done) | (simp [Act.eval]; omega)
            simp only [if_true]
            co_go T (Since.rely T) hF (co_quiet T)
            co_apply wpC_cond T (t := false)
            · first | (simp [Act.eval]; done) | (simp [Act.eval]; omega)
            simp only [if_false, Bool.false_eq_true]
            co_go T (Since.rely T) hF (co_quiet T)
            co_apply opsC_pure T hF rfl (by rfl) rfl
            · walk_nrm
              exact k_restOf T _ _ m1 m2 _
            intro w1 hF
            walk_nrm
            co_go T (Since.rely T) hF (co_quiet T)
            exact ⟨⟨j, _, _, _, _, _, _, _, _, _, _, _, _, _, _, _, _, _, _, _, _, _, _, _, _, _, _, _, _, by omega, o0, o1, t0, t1, hP', hF, rfl⟩, by simp [PMu]; omega⟩
          · decide
        · have hP' := pow_odd (by rw [hj] at hP; exact hP)
          have e4 : (K : Int) % 2 = 1 := by omega
          clear hj hP
          co_apply wpC_more
          · co_go T (Since.rely T) hF (co_quiet T)
            co_apply wpC_cond T (t := true)
            · first | (simp [Act.eval]; done) | (simp [Act.eval]; omega)
            simp only [if_true]
            co_go T (Since.rely T) hF (co_quiet T)
            co_apply wpC_cond T (t := true)
            · first | (simp [Act.eval]; done) | (simp [Act.eval]; omega)
            simp only [if_true]
            co_go T (Since.rely T) hF (co_quiet T)
            co_apply opsC_pure T hF rfl (by rfl) rfl
            · walk_nrm
              exact k_restOf T _ _ m1 m2 _
            intro w1 hF
            walk_nrm
            co_go T (Since.rely T) hF (co_quiet T)
            co_apply opsC_pure T hF rfl (by rfl) rfl
            · walk_nrm
              exact k_restOf T _ _ m1 m2 _
            intro w1 hF
            walk_nrm
            co_go T (Since.rely T) hF (co_quiet T)
            exact ⟨⟨j, _, _, _, _, _, _, _, _, _, _, _, _, _, _, _, _, _, _, _, _, _, _, _, _, _, _, _, _, by omega, r0, r1, t0, t1, hP', hF, rfl⟩, by simp [PMu]; omega⟩
          · decide
  · decide

set_option maxRecDepth 20000 in
set_option maxHeartbeats 2000000 in
/-- SolvePower at a modulus and a power in range. -/
theorem k_SolvePower (T : Terms R D) (a k m : Int) (hb : (numB a && modB m) = true) (k1 : 0 ≤ k) (k2 : k ≤ 1000000) (w : World) :
    CallsC Try.prog main R D 13 #[.int .i64 a, .int .i64 k, .int .i64 m] 500001000 w fun v w' => v = .tuple #[.int .i64 (a ^ k.toNat % m), .bool true] ∧ Since R w w' := by
  have hF : Since R w w := .refl w
  obtain ⟨_, hmod⟩ : numB a = true ∧ modB m = true := by simpa using hb
  obtain ⟨m1, m2⟩ := modB_iff.1 hmod
  have d1 : decide (k < 0) = false := by simp; omega
  have d2 : decide ((1000000 : Int) < k) = false := by simp; omega
  co_apply callsC_more
  · (co_apply callsC_of_wpC Try.func13 (by rfl) rfl; simp only [Try.ntmps13, List.size_toArray, List.length_cons, List.length_nil, Nat.reduceAdd, Nat.reduceSub, Array.replicate_succ, Array.replicate_zero, List.push_toArray, List.append_toArray, List.nil_append, List.cons_append])
    co_apply wpC_seq T
    co_reg T
    co_op (Since.rely T) hF (co_quiet T)
    co_op (Since.rely T) hF (co_quiet T)
    co_apply opsC_nil T
    co_then
    co_apply wpC_seq T
    co_apply wpC_seq T
    co_reg T
    co_op (Since.rely T) hF (co_quiet T)
    co_op (Since.rely T) hF (co_quiet T)
    co_apply opsC_pure T hF rfl (by rfl) rfl
    · walk_nrm
      exact k_inLine T a m _
    intro w1 hF
    rw [hb]
    walk_nrm
    repeat co_op (Since.rely T) hF (co_quiet T)
    co_apply opsC_nil T
    co_then
    co_apply wpC_cond T (t := false)
    · first | (simp [Act.eval]; done) | (simp [Act.eval]; omega)
    simp only [if_false, Bool.false_eq_true]
    co_apply wpC_skip T
    co_then
    co_apply wpC_seq T
    co_reg T
    co_op (Since.rely T) hF (co_quiet T)
    co_op (Since.rely T) hF (co_quiet T)
    co_op (Since.rely T) hF (co_quiet T)
    co_apply opsC_pure T hF rfl (by rfl) rfl
    · walk_nrm
      exact k_powerOf T a k m m1 m2 k1 k2 _
    intro w1 hF
    walk_nrm
    co_go T (Since.rely T) hF (co_quiet T)
    exact ⟨rfl, _, resultsC_tmp2 (by rfl) _, rfl, hF⟩
  · decide
end
end Go.Proofs.Ytfgipjgjehjijaa
