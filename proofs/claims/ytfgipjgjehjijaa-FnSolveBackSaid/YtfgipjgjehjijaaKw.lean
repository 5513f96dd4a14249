/- The model of SolveRoot in company: the search (own text). -/
import Derived.Test.YtfgipjgjehjijaaKv
namespace Go.Proofs.Ytfgipjgjehjijaa
open Go Go.RowKit Go.Conc

/-- the first of n numbers from x on, prime to m, whose order is u -/
def rootA (m u : Int) : Nat → Int → Int × Bool
  | 0, _ => (0, false)
  | n + 1, x => if gcdI x m = 1 ∧ ordX x m = u then (x, true) else rootA m u n (x + 1)
/-- what SolveRoot answers -/
def rootR (m : Int) : Int × Bool := if 1 ≤ m ∧ m ≤ 1000 then rootA m (unQ m) m.toNat 1 else (0, false)

section
variable {main : Bool} {R : World → World → Prop} {D : World → World → Array Event → Prop}

def RInv (R : World → World → Prop) (w₀ : World) (m : Int) (res : Int × Bool) (A : Act) (w : World) : Prop :=
  ∃ (n : Nat) (u x : Int) (v1 v6 v7 v8 v9 v10 v11 v12 v13 v14 v15 v16 v17 v18 v19 v20 v21 v22 v23 v24 v25 v26 v27 : Value), x + n = m + 1 ∧ 1 ≤ x ∧ u = unQ m ∧ rootA m (unQ m) n x = res ∧ Since R w₀ w ∧
    A = { tmps := #[.int .i64 m, v1, .int .i64 0, .bool false, .int .i64 u, .int .i64 x, v6, v7, v8, v9, v10, v11, v12, v13, v14, v15, v16, v17, v18, v19, v20, v21, v22, v23, v24, v25, v26, v27], defers := [] }

set_option maxRecDepth 20000 in
set_option maxHeartbeats 2000000 in
theorem k_specRoot (T : Terms R D) (m : Int) (w : World) :
    CallsC Try.prog main R D 16 #[.int .i64 m] 600000000 w fun v w' => v = .tuple #[.int .i64 (rootR m).1, .bool (rootR m).2] ∧ Since R w w' := by
  have hF : Since R w w := .refl w
  by_cases hmm : 1 ≤ m ∧ m ≤ 1000
  · obtain ⟨hm, hm2⟩ := hmm
    have hl : l6B m 1 1000 = true := by simp [l6B]; omega
    have hR : rootA m (unQ m) m.toNat 1 = rootR m := by simp [rootR, hm, hm2]
    co_apply callsC_more
    · (co_apply callsC_of_wpC Try.func16 (by rfl) rfl; simp only [Try.ntmps16, List.size_toArray, List.length_cons, List.length_nil, Nat.reduceAdd, Nat.reduceSub, Array.replicate_succ, Array.replicate_zero, List.push_toArray, List.append_toArray, List.nil_append, List.cons_append])
      co_go T (Since.rely T) hF (co_quiet T)
      co_apply opsC_pure T hF rfl (by rfl) rfl
      · walk_nrm
        exact k_l6In T _ _ _ _
      intro w1 hF
      rw [hl]
      walk_nrm
      co_go T (Since.rely T) hF (co_quiet T)
      co_apply wpC_cond T (t := false)
      · first | (simp [Act.eval]; done) | (simp [Act.eval]; omega)
      simp only [if_false, Bool.false_eq_true]
      co_go T (Since.rely T) hF (co_quiet T)
      co_apply opsC_pure T hF rfl (by rfl) rfl
      · walk_nrm
        exact k_l6sUnits T _ hm hm2 _
      intro w1 hF
      walk_nrm
      co_go T (Since.rely T) hF (co_quiet T)
      co_apply wpC_loop T (RInv R w m (rootR m)) (OMu m 5) 403000 1000
      · exact ⟨m.toNat, _, _, _, _, _, _, _, _, _, _, _, _, _, _, _, _, _, _, _, _, _, _, _, _, _, by omega, by omega, rfl, hR, hF, rfl⟩
      · simp [OMu]; omega
      · rintro A w2 ⟨n, u, x, v1, v6, v7, v8, v9, v10, v11, v12, v13, v14, v15, v16, v17, v18, v19, v20, v21, v22, v23, v24, v25, v26, v27, hx, hx1, rfl, hres, hF, rfl⟩
        by_cases hxm : x ≤ m
        · obtain ⟨n, rfl⟩ : ∃ n', n = n' + 1 := ⟨n - 1, by omega⟩
          have hk2 : IntKind.i64.wrap (x + 1) = x + 1 := by rw [IntKind.wrap_i64]; omega
          simp only [rootA] at hres
          by_cases hg : gcdI x m = 1
          · have hgb : (gcdI x m == 1) = true := by simpa using hg
            by_cases ho : ordX x m = unQ m
            · have hob : (ordX x m == unQ m) = true := by simpa using ho
              rw [if_pos ⟨hg, ho⟩] at hres
              co_apply wpC_more
              · co_go T (Since.rely T) hF (co_quiet T)
                co_apply wpC_cond T (t := true)
                · first | (simp [Act.eval]; done) | (simp [Act.eval]; omega)
                simp only [if_true]
                co_apply wpC_skip T
                co_then
                co_apply wpC_seq T (n₂ := 0)
                co_go T (Since.rely T) hF (co_quiet T)
                co_apply opsC_pure T hF rfl (by rfl) rfl
                · walk_nrm
                  exact k_l1Gcd T _ _ (by omega) (by omega) (by omega) hm2 _
                intro w1 hF
                rw [hg]
                walk_nrm
                co_go T (Since.rely T) hF (co_quiet T)
                co_apply opsC_pure T hF rfl (by rfl) rfl
                · walk_nrm
                  exact k_l6sOrder T _ _ hm hm2 _
                intro w1 hF
                rw [ho]
                walk_nrm
                co_go T (Since.rely T) hF (co_quiet T)
                co_apply wpC_cond T (t := true)
                · first | (simp [Act.eval]; done) | (simp [Act.eval]; omega)
                simp only [if_true]
                co_go T (Since.rely T) hF (co_quiet T)
                exact ⟨rfl, _, resultsC_tmp2 (by rfl) _, by simp [← hres], hF⟩
              · decide
            · have hob : (ordX x m == unQ m) = false := by simpa using ho
              rw [if_neg (fun h => ho h.2)] at hres
              co_apply wpC_more
              · co_go T (Since.rely T) hF (co_quiet T)
                co_apply wpC_cond T (t := true)
                · first | (simp [Act.eval]; done) | (simp [Act.eval]; omega)
                simp only [if_true]
                co_go T (Since.rely T) hF (co_quiet T)
                co_apply opsC_pure T hF rfl (by rfl) rfl
                · walk_nrm
                  exact k_l1Gcd T _ _ (by omega) (by omega) (by omega) hm2 _
                intro w1 hF
                rw [hg]
                walk_nrm
                co_go T (Since.rely T) hF (co_quiet T)
                co_apply opsC_pure T hF rfl (by rfl) rfl
                · walk_nrm
                  exact k_l6sOrder T _ _ hm hm2 _
                intro w1 hF
                walk_nrm
                co_go T (Since.rely T) hF (co_quiet T)
                co_apply wpC_cond T (t := false)
                · first | (simp [Act.eval]; done) | (simp [Act.eval]; exact ho)
                simp only [if_false, Bool.false_eq_true]
                co_go T (Since.rely T) hF (co_quiet T)
                exact ⟨⟨n, _, _, _, _, _, _, _, _, _, _, _, _, _, _, _, _, _, _, _, _, _, _, _, _, _, by omega, by omega, rfl, hres, hF, rfl⟩, by simp [OMu]; omega⟩
              · decide
          · have hgb : (gcdI x m == 1) = false := by simpa using hg
            rw [if_neg (fun h => hg h.1)] at hres
            co_apply wpC_more
            · co_go T (Since.rely T) hF (co_quiet T)
              co_apply wpC_cond T (t := true)
              · first | (simp [Act.eval]; done) | (simp [Act.eval]; omega)
              simp only [if_true]
              co_go T (Since.rely T) hF (co_quiet T)
              co_apply opsC_pure T hF rfl (by rfl) rfl
              · walk_nrm
                exact k_l1Gcd T _ _ (by omega) (by omega) (by omega) hm2 _
              intro w1 hF
              walk_nrm
              co_go T (Since.rely T) hF (co_quiet T)
              repeat (co_apply opsC_unwanted T rfl (by rfl); walk_nrm)
              co_go T (Since.rely T) hF (co_quiet T)
              co_apply wpC_cond T (t := false)
              · first | (simp [Act.eval]; done) | (simp [Act.eval]; exact hg)
              simp only [if_false, Bool.false_eq_true]
              co_go T (Since.rely T) hF (co_quiet T)
              exact ⟨⟨n, _, _, _, _, _, _, _, _, _, _, _, _, _, _, _, _, _, _, _, _, _, _, _, _, _, by omega, by omega, rfl, hres, hF, rfl⟩, by simp [OMu]; omega⟩
            · decide
        · obtain rfl : n = 0 := by omega
          simp only [rootA] at hres
          co_apply wpC_more
          · co_apply wpC_seq T (n₂ := 100)
            co_go T (Since.rely T) hF (co_quiet T)
            co_apply wpC_cond T (t := false)
            · first | (simp [Act.eval]; done) | (simp [Act.eval]; omega)
            simp only [if_false, Bool.false_eq_true]
            co_go T (Since.rely T) hF (co_quiet T)
            exact ⟨rfl, _, resultsC_tmp2 (by rfl) _, by simp [← hres], hF⟩
          · decide
    · decide
  · have hl : l6B m 1 1000 = false := by simp [l6B]; omega
    have hR : rootR m = (0, false) := by simp only [rootR, if_neg hmm]
    co_apply callsC_more
    · (co_apply callsC_of_wpC Try.func16 (by rfl) rfl; simp only [Try.ntmps16, List.size_toArray, List.length_cons, List.length_nil, Nat.reduceAdd, Nat.reduceSub, Array.replicate_succ, Array.replicate_zero, List.push_toArray, List.append_toArray, List.nil_append, List.cons_append])
      co_apply wpC_seq T
      co_reg T
      co_op (Since.rely T) hF (co_quiet T)
      co_op (Since.rely T) hF (co_quiet T)
      co_apply opsC_nil T
      co_then
      co_apply wpC_seq T (n₂ := 0)
      co_go T (Since.rely T) hF (co_quiet T)
      co_apply opsC_pure T hF rfl (by rfl) rfl
      · walk_nrm
        exact k_l6In T _ _ _ _
      intro w1 hF
      rw [hl]
      walk_nrm
      co_go T (Since.rely T) hF (co_quiet T)
      co_apply wpC_cond T (t := true)
      · first | (simp [Act.eval]; done) | (simp [Act.eval]; omega)
      simp only [if_true]
      co_go T (Since.rely T) hF (co_quiet T)
      exact ⟨rfl, _, resultsC_tmp2 (by rfl) _, by simp [hR], hF⟩
    · decide
end
end Go.Proofs.Ytfgipjgjehjijaa
