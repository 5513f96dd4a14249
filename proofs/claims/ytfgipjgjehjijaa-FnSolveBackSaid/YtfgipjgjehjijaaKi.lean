/- Pure functions in company: remainders, ranges (own text). -/
import Derived.Test.YtfgipjgjehjijaaC1
import Derived.Test.YtfgipjgjehjijaaMathY
import Derived.Conc.CompanyWords
namespace Go.Proofs.Ytfgipjgjehjijaa
open Go Go.RowKit Go.Conc

section
variable {main : Bool} {R : World → World → Prop} {D : World → World → Array Event → Prop}

theorem callsC_more {P : Program} {f : FuncId} {args : Array Value} {n n' : Nat} {w : World} {Post : Value → World → Prop} (h : CallsC P main R D f args n w Post) (hn : n ≤ n') : CallsC P main R D f args n' w Post := by
  obtain ⟨fn, c, h1, h2, h3, h4⟩ := h
  exact ⟨fn, c, h1, h2, h3, wpC_more h4 hn⟩
theorem since_trans (T : Terms R D) {a b c : World} (h : Since R a b) (k : Since R b c) : Since R a c := by
  rcases k with rfl | k
  · exact h
  · exact Since.rely T h k
/-- Through a call that leaves the world as the others do. -/
theorem opsC_pure (T : Terms R D) {P : Program} {fn : FuncId} {Q : Exit → Act → World → Prop} {a : Act} {w w0 : World} {ops : Array Oper} {i : Nat} {rest : List Nat} {o : Oper} {f : FuncId} {args : Array Operand} {ats : Array TypeId} {nf n : Nat} {x : Value}
    (hF : Since R w0 w) (ho : ops[i]? = some o) (hw : Region.wanted o (yielded ops a.tmps) = true) (hop : o.op = .call { callee := .value (.func f), args, argTypes := ats })
    (hcall : CallsC P main R D f (args.map a.eval) nf w fun v w' => v = x ∧ Since R w w') (hnext : ∀ w', Since R w0 w' → OpsC P main R D fn ops rest n Q (a.put o.dst x) w') : OpsC P main R D fn ops (i :: rest) (n + nf + 3) Q a w :=
  opsC_call T ho hw hop hcall fun v w' ⟨e, hS⟩ => by subst e; exact hnext w' (since_trans T hF hS)

set_option maxRecDepth 20000 in
theorem k_restOf (T : Terms R D) (x m : Int) (hm : 1 ≤ m) (hm2 : m ≤ 1000) (w : World) : CallsC Try.prog main R D 37 #[.int .i64 x, .int .i64 m] 60 w fun v w' => v = .int .i64 (x % m) ∧ Since R w w' := by
  have hb := tmod_bd x m hm
  have hm0 : ¬ m = 0 := by omega
  obtain ⟨o0, o1⟩ := emod_bd x m hm
  have hF : Since R w w := .refl w
  by_cases h : x.tmod m < 0
  · have he := tmod_ng x m hm h
    have hw : IntKind.i64.wrap (x % m) = x % m := by rw [IntKind.wrap_i64]; omega
    co_apply callsC_more
    · (co_apply callsC_of_wpC Try.func37 (by rfl) rfl; simp only [Try.ntmps37, List.size_toArray, List.length_cons, List.length_nil, Nat.reduceAdd, Nat.reduceSub, Array.replicate_succ, Array.replicate_zero, List.push_toArray, List.append_toArray, List.nil_append, List.cons_append])
      co_go T (Since.rely T) hF (co_quiet T)
      co_apply wpC_cond T (t := true)
      · simp [Act.eval]
      simp only [if_true]
      co_go T (Since.rely T) hF (co_quiet T)
      exact ⟨rfl, _, resultsC_tmp (by rfl) _, by simp, hF⟩
    · decide
  · have he := tmod_nn x m hm (by omega)
    co_apply callsC_more
    · (co_apply callsC_of_wpC Try.func37 (by rfl) rfl; simp only [Try.ntmps37, List.size_toArray, List.length_cons, List.length_nil, Nat.reduceAdd, Nat.reduceSub, Array.replicate_succ, Array.replicate_zero, List.push_toArray, List.append_toArray, List.nil_append, List.cons_append])
      co_go T (Since.rely T) hF (co_quiet T)
      co_apply wpC_cond T (t := false)
      · simp [Act.eval]; omega
      simp only [if_false, Bool.false_eq_true]
      co_go T (Since.rely T) hF (co_quiet T)
      exact ⟨rfl, _, resultsC_tmp (by rfl) _, by simp, hF⟩
    · decide

set_option maxRecDepth 20000 in
theorem k_inModuli (T : Terms R D) (m : Int) (w : World) : CallsC Try.prog main R D 24 #[.int .i64 m] 40 w fun v w' => v = .bool (modB m) ∧ Since R w w' := by
  have hF : Since R w w := .refl w
  by_cases h : 1 ≤ m
  · co_apply callsC_more
    · (co_apply callsC_of_wpC Try.func24 (by rfl) rfl; simp only [Try.ntmps24, List.size_toArray, List.length_cons, List.length_nil, Nat.reduceAdd, Nat.reduceSub, Array.replicate_succ, Array.replicate_zero, List.push_toArray, List.append_toArray, List.nil_append, List.cons_append])
      co_go T (Since.rely T) hF (co_quiet T)
      exact ⟨rfl, _, resultsC_tmp (by rfl) _, by simp [modB, h], hF⟩
    · decide
  · have h' : m < 1 := by omega
    co_apply callsC_more
    · (co_apply callsC_of_wpC Try.func24 (by rfl) rfl; simp only [Try.ntmps24, List.size_toArray, List.length_cons, List.length_nil, Nat.reduceAdd, Nat.reduceSub, Array.replicate_succ, Array.replicate_zero, List.push_toArray, List.append_toArray, List.nil_append, List.cons_append])
      co_go T (Since.rely T) hF (co_quiet T)
      co_apply opsC_unwanted T rfl (by rfl)
      walk_nrm
      co_apply opsC_unwanted T rfl (by rfl)
      walk_nrm
      co_go T (Since.rely T) hF (co_quiet T)
      exact ⟨rfl, _, resultsC_tmp (by rfl) _, by simp [modB, h], hF⟩
    · decide

set_option maxRecDepth 20000 in
theorem k_inNumbers (T : Terms R D) (m : Int) (w : World) : CallsC Try.prog main R D 36 #[.int .i64 m] 40 w fun v w' => v = .bool (numB m) ∧ Since R w w' := by
  have hF : Since R w w := .refl w
  by_cases h : -1000000 ≤ m
  · co_apply callsC_more
    · (co_apply callsC_of_wpC Try.func36 (by rfl) rfl; simp only [Try.ntmps36, List.size_toArray, List.length_cons, List.length_nil, Nat.reduceAdd, Nat.reduceSub, Array.replicate_succ, Array.replicate_zero, List.push_toArray, List.append_toArray, List.nil_append, List.cons_append])
      co_go T (Since.rely T) hF (co_quiet T)
      exact ⟨rfl, _, resultsC_tmp (by rfl) _, by simp [numB, h], hF⟩
    · decide
  · have h' : m < -1000000 := by omega
    co_apply callsC_more
    · (co_apply callsC_of_wpC Try.func36 (by rfl) rfl; simp only [Try.ntmps36, List.size_toArray, List.length_cons, List.length_nil, Nat.reduceAdd, Nat.reduceSub, Array.replicate_succ, Array.replicate_zero, List.push_toArray, List.append_toArray, List.nil_append, List.cons_append])
      co_go T (Since.rely T) hF (co_quiet T)
      co_apply opsC_unwanted T rfl (by rfl)
      walk_nrm
      co_apply opsC_unwanted T rfl (by rfl)
      walk_nrm
      co_go T (Since.rely T) hF (co_quiet T)
      exact ⟨rfl, _, resultsC_tmp (by rfl) _, by simp [numB, h], hF⟩
    · decide

set_option maxRecDepth 20000 in
theorem k_inLine (T : Terms R D) (a m : Int) (w : World) : CallsC Try.prog main R D 20 #[.int .i64 a, .int .i64 m] 200 w fun v w' => v = .bool (numB a && modB m) ∧ Since R w w' := by
  have hF : Since R w w := .refl w
  cases h : numB a with
  | true =>
    co_apply callsC_more
    · (co_apply callsC_of_wpC Try.func20 (by rfl) rfl; simp only [Try.ntmps20, List.size_toArray, List.length_cons, List.length_nil, Nat.reduceAdd, Nat.reduceSub, Array.replicate_succ, Array.replicate_zero, List.push_toArray, List.append_toArray, List.nil_append, List.cons_append])
      co_go T (Since.rely T) hF (co_quiet T)
      co_apply opsC_pure T hF rfl (by rfl) rfl
      · walk_nrm
        exact k_inNumbers T _ _
      intro w1 hF
      rw [h]
      walk_nrm
      co_go T (Since.rely T) hF (co_quiet T)
      co_apply opsC_pure T hF rfl (by rfl) rfl
      · walk_nrm
        exact k_inModuli T _ _
      intro w1 hF
      walk_nrm
      co_go T (Since.rely T) hF (co_quiet T)
      exact ⟨rfl, _, resultsC_tmp (by rfl) _, by simp, hF⟩
    · decide
  | false =>
    co_apply callsC_more
    · (co_apply callsC_of_wpC Try.func20 (by rfl) rfl; simp only [Try.ntmps20, List.size_toArray, List.length_cons, List.length_nil, Nat.reduceAdd, Nat.reduceSub, Array.replicate_succ, Array.replicate_zero, List.push_toArray, List.append_toArray, List.nil_append, List.cons_append])
      co_go T (Since.rely T) hF (co_quiet T)
      co_apply opsC_pure T hF rfl (by rfl) rfl
      · walk_nrm
        exact k_inNumbers T _ _
      intro w1 hF
      rw [h]
      walk_nrm
      co_go T (Since.rely T) hF (co_quiet T)
      co_apply opsC_unwanted T rfl (by rfl)
      walk_nrm
      co_apply opsC_unwanted T rfl (by rfl)
      walk_nrm
      co_go T (Since.rely T) hF (co_quiet T)
      exact ⟨rfl, _, resultsC_tmp (by rfl) _, by simp, hF⟩
    · decide

set_option maxRecDepth 20000 in
theorem k_l6In (T : Terms R D) (n a b : Int) (w : World) : CallsC Try.prog main R D 32 #[.int .i64 n, .int .i64 a, .int .i64 b] 40 w fun v w' => v = .bool (l6B n a b) ∧ Since R w w' := by
  have hF : Since R w w := .refl w
  by_cases h : a ≤ n
  · co_apply callsC_more
    · (co_apply callsC_of_wpC Try.func32 (by rfl) rfl; simp only [Try.ntmps32, List.size_toArray, List.length_cons, List.length_nil, Nat.reduceAdd, Nat.reduceSub, Array.replicate_succ, Array.replicate_zero, List.push_toArray, List.append_toArray, List.nil_append, List.cons_append])
      co_go T (Since.rely T) hF (co_quiet T)
      exact ⟨rfl, _, resultsC_tmp (by rfl) _, by simp [l6B, h], hF⟩
    · decide
  · have h' : n < a := by omega
    co_apply callsC_more
    · (co_apply callsC_of_wpC Try.func32 (by rfl) rfl; simp only [Try.ntmps32, List.size_toArray, List.length_cons, List.length_nil, Nat.reduceAdd, Nat.reduceSub, Array.replicate_succ, Array.replicate_zero, List.push_toArray, List.append_toArray, List.nil_append, List.cons_append])
      co_go T (Since.rely T) hF (co_quiet T)
      co_apply opsC_unwanted T rfl (by rfl)
      walk_nrm
      co_apply opsC_unwanted T rfl (by rfl)
      walk_nrm
      co_apply opsC_unwanted T rfl (by rfl)
      walk_nrm
      co_go T (Since.rely T) hF (co_quiet T)
      exact ⟨rfl, _, resultsC_tmp (by rfl) _, by simp [l6B, h], hF⟩
    · decide

set_option maxRecDepth 20000 in
theorem k_l1Number (T : Terms R D) (m : Int) (w : World) : CallsC Try.prog main R D 45 #[.int .i64 m] 80 w fun v w' => v = .bool (numB m) ∧ Since R w w' := by
  have hF : Since R w w := .refl w
  co_apply callsC_more
  · (co_apply callsC_of_wpC Try.func45 (by rfl) rfl; simp only [Try.ntmps45, List.size_toArray, List.length_cons, List.length_nil, Nat.reduceAdd, Nat.reduceSub, Array.replicate_succ, Array.replicate_zero, List.push_toArray, List.append_toArray, List.nil_append, List.cons_append])
    co_go T (Since.rely T) hF (co_quiet T)
    co_apply opsC_pure T hF rfl (by rfl) rfl
    · walk_nrm
      exact k_l6In T _ _ _ _
    intro w1 hF
    walk_nrm
    co_go T (Since.rely T) hF (co_quiet T)
    exact ⟨rfl, _, resultsC_tmp (by rfl) _, by simp [l6B, numB], hF⟩
  · decide

set_option maxRecDepth 20000 in
theorem k_l1Rest (T : Terms R D) (x m : Int) (hm : 1 ≤ m) (hm2 : m ≤ 1000) (w : World) : CallsC Try.prog main R D 46 #[.int .i64 x, .int .i64 m] 40 w fun v w' => v = .int .i64 (x % m) ∧ Since R w w' := by
  have hb := tmod_bd x m hm
  have hm0 : ¬ m = 0 := by omega
  have he : (x.tmod m + m).tmod m = x % m := by rw [Int.tmod_eq_emod_of_nonneg (by omega)]; exact tmod_add_emod x m hm
  have hw : IntKind.i64.wrap (x.tmod m + m) = x.tmod m + m := by rw [IntKind.wrap_i64]; omega
  have hF : Since R w w := .refl w
  co_apply callsC_more
  · (co_apply callsC_of_wpC Try.func46 (by rfl) rfl; simp only [Try.ntmps46, List.size_toArray, List.length_cons, List.length_nil, Nat.reduceAdd, Nat.reduceSub, Array.replicate_succ, Array.replicate_zero, List.push_toArray, List.append_toArray, List.nil_append, List.cons_append])
    co_go T (Since.rely T) hF (co_quiet T)
    exact ⟨rfl, _, resultsC_tmp (by rfl) _, by simp, hF⟩
  · decide

set_option maxRecDepth 20000 in
theorem k_l6sNumbers (T : Terms R D) (m a b : Int) (w : World) : CallsC Try.prog main R D 22 #[.int .i64 m, .int .i64 a, .int .i64 b] 400 w fun v w' => v = .bool (nmsB m a b) ∧ Since R w w' := by
  have hF : Since R w w := .refl w
  cases h : l6B m 1 1000 with
  | true =>
    cases h2 : numB a with
    | true =>
      co_apply callsC_more
      · (co_apply callsC_of_wpC Try.func22 (by rfl) rfl; simp only [Try.ntmps22, List.size_toArray, List.length_cons, List.length_nil, Nat.reduceAdd, Nat.reduceSub, Array.replicate_succ, Array.replicate_zero, List.push_toArray, List.append_toArray, List.nil_append, List.cons_append])
        co_go T (Since.rely T) hF (co_quiet T)
        co_apply opsC_pure T hF rfl (by rfl) rfl
        · walk_nrm
          exact k_l6In T _ _ _ _
        intro w1 hF
        rw [h]
        walk_nrm
        co_go T (Since.rely T) hF (co_quiet T)
        co_apply opsC_pure T hF rfl (by rfl) rfl
        · walk_nrm
          exact k_l1Number T _ _
        intro w1 hF
        rw [h2]
        walk_nrm
        co_go T (Since.rely T) hF (co_quiet T)
        co_apply opsC_pure T hF rfl (by rfl) rfl
        · walk_nrm
          exact k_l1Number T _ _
        intro w1 hF
        walk_nrm
        co_go T (Since.rely T) hF (co_quiet T)
        exact ⟨rfl, _, resultsC_tmp (by rfl) _, by simp [nmsB, show modB m = true from h, h2], hF⟩
      · decide
    | false =>
      co_apply callsC_more
      · (co_apply callsC_of_wpC Try.func22 (by rfl) rfl; simp only [Try.ntmps22, List.size_toArray, List.length_cons, List.length_nil, Nat.reduceAdd, Nat.reduceSub, Array.replicate_succ, Array.replicate_zero, List.push_toArray, List.append_toArray, List.nil_append, List.cons_append])
        co_go T (Since.rely T) hF (co_quiet T)
        co_apply opsC_pure T hF rfl (by rfl) rfl
        · walk_nrm
          exact k_l6In T _ _ _ _
        intro w1 hF
        rw [h]
        walk_nrm
        co_go T (Since.rely T) hF (co_quiet T)
        co_apply opsC_pure T hF rfl (by rfl) rfl
        · walk_nrm
          exact k_l1Number T _ _
        intro w1 hF
        rw [h2]
        walk_nrm
        co_go T (Since.rely T) hF (co_quiet T)
        repeat (co_apply opsC_unwanted T rfl (by rfl); walk_nrm)
        co_go T (Since.rely T) hF (co_quiet T)
        exact ⟨rfl, _, resultsC_tmp (by rfl) _, by simp [nmsB, show modB m = true from h, h2], hF⟩
      · decide
  | false =>
    co_apply callsC_more
    · (co_apply callsC_of_wpC Try.func22 (by rfl) rfl; simp only [Try.ntmps22, List.size_toArray, List.length_cons, List.length_nil, Nat.reduceAdd, Nat.reduceSub, Array.replicate_succ, Array.replicate_zero, List.push_toArray, List.append_toArray, List.nil_append, List.cons_append])
      co_go T (Since.rely T) hF (co_quiet T)
      co_apply opsC_pure T hF rfl (by rfl) rfl
      · walk_nrm
        exact k_l6In T _ _ _ _
      intro w1 hF
      rw [h]
      walk_nrm
      co_go T (Since.rely T) hF (co_quiet T)
      repeat (co_apply opsC_unwanted T rfl (by rfl); walk_nrm)
      co_go T (Since.rely T) hF (co_quiet T)
      repeat (co_apply opsC_unwanted T rfl (by rfl); walk_nrm)
      co_go T (Since.rely T) hF (co_quiet T)
      exact ⟨rfl, _, resultsC_tmp (by rfl) _, by simp [nmsB, show modB m = false from h], hF⟩
    · decide
end
end Go.Proofs.Ytfgipjgjehjijaa
