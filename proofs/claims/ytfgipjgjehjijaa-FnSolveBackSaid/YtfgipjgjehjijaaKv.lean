/- The model of SolveRoot in company: common divisors, how many units (own text). -/
import Derived.Test.YtfgipjgjehjijaaKj
import Derived.Test.YtfgipjgjehjijaaE1
namespace Go.Proofs.Ytfgipjgjehjijaa
open Go Go.RowKit Go.Conc

section
variable {main : Bool} {R : World → World → Prop} {D : World → World → Array Event → Prop}

def GInv (R : World → World → Prop) (w₀ : World) (res : Int) (A : Act) (w : World) : Prop :=
  ∃ (p q : Int) (v2 v3 v4 v5 v6 v7 v8 v9 v10 v11 v12 v13 : Value), 0 ≤ p ∧ p ≤ 1000 ∧ 0 ≤ q ∧ q ≤ 1000 ∧ gcdI p q = res ∧ Since R w₀ w ∧
    A = { tmps := #[.int .i64 p, .int .i64 q, v2, v3, v4, v5, v6, v7, v8, v9, v10, v11, v12, v13], defers := [] }
def GMu (s : Nat) (A : Act) (_ : World) : Nat := match A.tmps.getD s undef with | .int _ k => k.toNat | _ => 0

set_option maxRecDepth 20000 in
set_option maxHeartbeats 1000000 in
theorem k_l1Gcd (T : Terms R D) (a b : Int) (ha : 0 ≤ a) (ha2 : a ≤ 1000) (hb : 0 ≤ b) (hb2 : b ≤ 1000) (w : World) :
    CallsC Try.prog main R D 34 #[.int .i64 a, .int .i64 b] 102000 w fun v w' => v = .int .i64 (gcdI a b) ∧ Since R w w' := by
  have hF : Since R w w := .refl w
  co_apply callsC_more
  · (co_apply callsC_of_wpC Try.func34 (by rfl) rfl; simp only [Try.ntmps34, List.size_toArray, List.length_cons, List.length_nil, Nat.reduceAdd, Nat.reduceSub, Array.replicate_succ, Array.replicate_zero, List.push_toArray, List.append_toArray, List.nil_append, List.cons_append])
    co_go T (Since.rely T) hF (co_quiet T)
    co_apply wpC_loop T (GInv R w (gcdI a b)) (GMu 1) 100 1000
    · exact ⟨a, b, _, _, _, _, _, _, _, _, _, _, _, _, ha, ha2, hb, hb2, rfl, hF, rfl⟩
    · simp [GMu]; omega
    · rintro A w2 ⟨p, q, v2, v3, v4, v5, v6, v7, v8, v9, v10, v11, v12, v13, p0, p1, q0, q1, hres, hF, rfl⟩
      by_cases hq : q = 0
      · have hq2 : p = gcdI a b := by rw [← hres, hq, gcdI_zero p0]
        have hqb : (q != 0) = false := by simp [hq]
        co_apply wpC_more
        · co_apply wpC_seq T (n₂ := 0)
          co_go T (Since.rely T) hF (co_quiet T)
          co_apply wpC_cond T (t := false)
          · first | (simp [Act.eval]; done) | (simp [Act.eval]; omega)
          simp only [if_false, Bool.false_eq_true]
          co_go T (Since.rely T) hF (co_quiet T)
          exact ⟨rfl, _, resultsC_tmp (by rfl) _, by simp [← hq2], hF⟩
        · decide
      · have hqb : (q != 0) = true := by simpa using hq
        obtain ⟨r0, r1⟩ := emod_bd p q (by omega)
        have hrem : p.tmod q = p % q := Int.tmod_eq_emod_of_nonneg p0
        co_apply wpC_more
        · co_go T (Since.rely T) hF (co_quiet T)
          co_apply wpC_cond T (t := true)
          · first | (simp [Act.eval]; done) | (simp [Act.eval]; omega)
          simp only [if_true]
          co_go T (Since.rely T) hF (co_quiet T)
          exact ⟨⟨q, p % q, _, _, _, _, _, _, _, _, _, _, _, _, by omega, by omega, r0, by omega, by rw [gcdI_step p0 (by omega)]; exact hres, hF, rfl⟩, by simp [GMu]; omega⟩
        · decide
  · decide

/-- how many from 1 to k have no common divisor with m -/
def unK (m : Int) : Nat → Int
  | 0 => 0
  | k + 1 => unK m k + if gcdI ((k : Int) + 1) m = 1 then 1 else 0
theorem unK_bd (m : Int) : ∀ k : Nat, 0 ≤ unK m k ∧ unK m k ≤ k
  | 0 => by simp [unK]
  | k + 1 => by
    have := unK_bd m k
    simp only [unK]
    split <;> omega
def unQ (m : Int) : Int := unK m m.toNat

def UInv (R : World → World → Prop) (w₀ : World) (m : Int) (A : Act) (w : World) : Prop :=
  ∃ (k : Nat) (u x : Int) (v1 v2 v5 v6 v7 v8 v9 v10 v11 v12 v13 v14 v15 v16 : Value), (k : Int) ≤ m ∧ u = unK m k ∧ x = (k : Int) + 1 ∧ Since R w₀ w ∧
    A = { tmps := #[.int .i64 m, v1, v2, .int .i64 u, .int .i64 x, v5, v6, v7, v8, v9, v10, v11, v12, v13, v14, v15, v16], defers := [] }

set_option maxRecDepth 20000 in
set_option maxHeartbeats 1000000 in
theorem k_l6sUnits (T : Terms R D) (m : Int) (hm : 1 ≤ m) (hm2 : m ≤ 1000) (w : World) :
    CallsC Try.prog main R D 33 #[.int .i64 m] 103000000 w fun v w' => v = .int .i64 (unQ m) ∧ Since R w w' := by
  have hF : Since R w w := .refl w
  co_apply callsC_more
  · (co_apply callsC_of_wpC Try.func33 (by rfl) rfl; simp only [Try.ntmps33, List.size_toArray, List.length_cons, List.length_nil, Nat.reduceAdd, Nat.reduceSub, Array.replicate_succ, Array.replicate_zero, List.push_toArray, List.append_toArray, List.nil_append, List.cons_append])
    co_go T (Since.rely T) hF (co_quiet T)
    co_apply wpC_loop T (UInv R w m) (OMu m 4) 102200 1000
    · exact ⟨0, _, _, _, _, _, _, _, _, _, _, _, _, _, _, _, _, by omega, rfl, rfl, hF, rfl⟩
    · simp [OMu]; omega
    · rintro A w2 ⟨k, u, x, v1, v2, v5, v6, v7, v8, v9, v10, v11, v12, v13, v14, v15, v16, hk, rfl, rfl, hF, rfl⟩
      obtain ⟨u0, u1⟩ := unK_bd m k
      by_cases hkm : (k : Int) + 1 ≤ m
      · have hk2 : IntKind.i64.wrap ((k : Int) + 1 + 1) = (k : Int) + 1 + 1 := by rw [IntKind.wrap_i64]; omega
        by_cases hg : gcdI ((k : Int) + 1) m = 1
        · have hgb : (gcdI ((k : Int) + 1) m == 1) = true := by simpa using hg
          have hu : IntKind.i64.wrap (unK m k + 1) = unK m k + 1 := by rw [IntKind.wrap_i64]; omega
          have hu2 : unK m (k + 1) = unK m k + 1 := by simp only [unK, if_pos hg]
          co_apply wpC_more
          · co_go T (Since.rely T) hF (co_quiet T)
            co_apply wpC_cond T (t := true)
            · first | (simp [Act.eval]; done) | (simp [Act.eval]; omega)
            simp only [if_true]
            co_go T (Since.rely T) hF (co_quiet T)
            co_apply opsC_pure T hF rfl (by rfl) rfl
            · walk_nrm
              exact k_l1Gcd T _ _ (by omega) (by omega) (by omega) hm2 _
            intro w1 hF
            walk_nrm
            co_go T (Since.rely T) hF (co_quiet T)
            co_apply wpC_cond T (t := true)
            · first | (simp [Act.eval]; done) | (simp [Act.eval]; exact hg)
            simp only [if_true]
            co_go T (Since.rely T) hF (co_quiet T)
            exact ⟨⟨k + 1, _, _, _, _, _, _, _, _, _, _, _, _, _, _, _, _, by omega, hu2.symm, by omega, hF, rfl⟩, by simp [OMu]; omega⟩
          · decide
        · have hgb : (gcdI ((k : Int) + 1) m == 1) = false := by simpa using hg
          have hu2 : unK m (k + 1) = unK m k := by simp only [unK, if_neg hg]; omega
          co_apply wpC_more
          · co_go T (Since.rely T) hF (co_quiet T)
            co_apply wpC_cond T (t := true)
            · first | (simp [Act.eval]; done) | (simp [Act.eval]; omega)
            simp only [if_true]
            co_go T (Since.rely T) hF (co_quiet T)
            co_apply opsC_pure T hF rfl (by rfl) rfl
            · walk_nrm
              exact k_l1Gcd T _ _ (by omega) (by omega) (by omega) hm2 _
            intro w1 hF
            walk_nrm
            co_go T (Since.rely T) hF (co_quiet T)
            co_apply wpC_cond T (t := false)
            · first | (simp [Act.eval]; done) | (simp [Act.eval]; exact hg)
            simp only [if_false, Bool.false_eq_true]
            co_go T (Since.rely T) hF (co_quiet T)
            exact ⟨⟨k + 1, _, _, _, _, _, _, _, _, _, _, _, _, _, _, _, _, by omega, hu2.symm, by omega, hF, rfl⟩, by simp [OMu]; omega⟩
          · decide
      · have hke : k = m.toNat := by omega

        co_apply wpC_more
        · co_apply wpC_seq T (n₂ := 0)
          co_go T (Since.rely T) hF (co_quiet T)
          co_apply wpC_cond T (t := false)
          · first | (simp [Act.eval]; done) | (simp [Act.eval]; omega)
          simp only [if_false, Bool.false_eq_true]
          co_go T (Since.rely T) hF (co_quiet T)
          exact ⟨rfl, _, resultsC_tmp (by rfl) _, by simp [unQ], hF⟩
        · decide
  · decide
end
end Go.Proofs.Ytfgipjgjehjijaa
