/- commonDivisor beside others: a region whose order is drawn (own text). -/
import Derived.Test.YtjofmchipkfnmaaKz
import Derived.Test.YtjofmchipkfnmaaKv
import Derived.Conc.CompanyMem
namespace Go.Proofs.Ytjofmchipkfnmaa
open Go Go.RowKit Go.Conc

section
variable {Sh : Loc → Prop} {B : Nat}
theorem draw_b : LetsDraw (DE (EvL Sh B)) := fun w e he => by simp at he
theorem drawAt (w : World) : AtRel w { w with drawn := w.drawn + 1 } := ⟨w.drawn + 1, rfl⟩
def DInv (w₀ : World) (res : Int) (A : Act) (w : World) : Prop :=
  ∃ (p q : Int) (v2 v3 v4 v5 v6 v7 v8 v9 v10 v11 : Value), 0 ≤ p ∧ p ≤ 1000 ∧ 0 ≤ q ∧ q ≤ 1000 ∧ gcdI p q = res ∧ Since AtRel w₀ w ∧
    A = { tmps := #[.int .i64 p, .int .i64 q, v2, v3, v4, v5, v6, v7, v8, v9, v10, v11], defers := [] }

theorem DInv.rely {w₀ : World} {res : Int} {A : Act} {w w₁ : World} (h : DInv w₀ res A w) (r : AtRel w w₁) : DInv w₀ res A w₁ := by
  obtain ⟨p, q, v2, v3, v4, v5, v6, v7, v8, v9, v10, v11, h1, h2, h3, h4, h5, h6, h7⟩ := h
  exact ⟨p, q, v2, v3, v4, v5, v6, v7, v8, v9, v10, v11, h1, h2, h3, h4, h5, Since.rely (D := DE (EvL (fun _ => False) 0)) terms_b h6 r, h7⟩
set_option maxRecDepth 20000 in
set_option maxHeartbeats 1000000 in
theorem k_commonDivisor (a b : Int) (ha : 0 ≤ a) (ha2 : a ≤ 1000) (hb : 0 ≤ b) (hb2 : b ≤ 1000) (w : World) :
    CallsC Try.prog true AtRel (DE (EvL Sh B)) 29 #[.int .i64 a, .int .i64 b] 102000 w fun v w' => v = .int .i64 (gcdI a b) ∧ Since AtRel w w' := by
  have T : Terms AtRel (DE (EvL Sh B)) := terms_b
  have hF : Since AtRel w w := .refl w
  co_apply callsC_more
  · (co_apply callsC_of_wpC Try.func29 (by rfl) rfl; simp only [Try.ntmps29, List.size_toArray, List.length_cons, List.length_nil, Nat.reduceAdd, Nat.reduceSub, Array.replicate_succ, Array.replicate_zero, List.push_toArray, List.append_toArray, List.nil_append, List.cons_append])
    co_go T (Since.rely T) hF (co_quiet T)
    co_apply wpC_loop T (DInv w (gcdI a b)) (GMu 1) 100 1000
    · exact ⟨a, b, _, _, _, _, _, _, _, _, _, _, ha, ha2, hb, hb2, rfl, hF, rfl⟩
    · simp [GMu]; omega
    · rintro A w2 ⟨p, q, v2, v3, v4, v5, v6, v7, v8, v9, v10, v11, p0, p1, q0, q1, hres, hF, rfl⟩
      by_cases hq : q = 0
      · have hq2 : p = gcdI a b := by rw [← hres, hq, gcdI_zero p0]
        have hqb : (q != 0) = false := by simp [hq]
        co_apply wpC_more
        · co_apply wpC_seq T (n₂ := 0)
          co_go T (Since.rely T) hF (co_quiet T)
          co_apply wpC_cond T (t := false)
          · first | (simp [Act.eval]; done) | (simp [Act.eval]; omega)
          simp only [if_false, Bool.false_eq_true]
          co_go T (Since.rely T) hF (co_quiet T)
          exact ⟨rfl, _, resultsC_tmp (by rfl) _, by simp [← hq2], hF⟩
        · decide
      · have hqb : (q != 0) = true := by simpa using hq
        obtain ⟨r0, r1⟩ := emod_bd p q (by omega)
        have hrem : p.tmod q = p % q := Int.tmod_eq_emod_of_nonneg p0
        co_apply wpC_more
        · co_go T (Since.rely T) hF (co_quiet T)
          co_apply wpC_cond T (t := true)
          · first | (simp [Act.eval]; done) | (simp [Act.eval]; omega)
          simp only [if_true]
          co_go T (Since.rely T) hF (co_quiet T)
          co_held T draw_b drawAt (Since AtRel w) (Since.rely T) hF
          (co_applyP anyCH_take T (fun _ _ h r => (Since.rely T) h r) (fun _ _ _ h r => ⟨DInv.rely (And.left h) r, And.right h⟩) (i := 0) rfl (by first | kernel_rfl | decide +kernel) (by first | kernel_rfl | decide +kernel) (by first | kernel_rfl | decide +kernel)
             (.inl ⟨by rfl, fun _ hw => ⟨run_eq_of ?run1, ?guar1⟩⟩) hF ?rest1
           case run1 =>
             intro K hK
             go_simp
             exact hK
           case guar1 =>
             (co_quiet T)
           try walk_nrm)
          (co_applyP anyCH_take T (fun _ _ h r => (Since.rely T) h r) (fun _ _ _ h r => ⟨DInv.rely (And.left h) r, And.right h⟩) (i := 1) rfl (by first | kernel_rfl | decide +kernel) (by first | kernel_rfl | decide +kernel) (by first | kernel_rfl | decide +kernel)
             (.inl ⟨by rfl, fun _ hw => ⟨run_eq_of ?run2, ?guar2⟩⟩) hF ?rest2
           case run2 =>
             intro K hK
             go_simp
             exact hK
           case guar2 =>
             (co_quiet T)
           try walk_nrm)
          (co_applyP anyCH_take T (fun _ _ h r => (Since.rely T) h r) (fun _ _ _ h r => ⟨DInv.rely (And.left h) r, And.right h⟩) (i := 2) rfl (by first | kernel_rfl | decide +kernel) (by first | kernel_rfl | decide +kernel) (by first | kernel_rfl | decide +kernel)
             (.inl ⟨by rfl, fun _ hw => ⟨run_eq_of ?run3, ?guar3⟩⟩) hF ?rest3
           case run3 =>
             intro K hK
             go_simp
             exact hK
           case guar3 =>
             (co_quiet T)
           try walk_nrm)
          (co_applyP anyCH_take T (fun _ _ h r => (Since.rely T) h r) (fun _ _ _ h r => ⟨DInv.rely (And.left h) r, And.right h⟩) (i := 3) rfl (by first | kernel_rfl | decide +kernel) (by first | kernel_rfl | decide +kernel) (by first | kernel_rfl | decide +kernel)
             (.inl ⟨by rfl, fun _ hw => ⟨run_eq_of ?run4, ?guar4⟩⟩) hF ?rest4
           case run4 =>
             intro K hK
             go_simp
             exact hK
           case guar4 =>
             (co_still T)
           try walk_nrm)
          (co_applyP anyCH_take T (fun _ _ h r => (Since.rely T) h r) (fun _ _ _ h r => ⟨DInv.rely (And.left h) r, And.right h⟩) (i := 4) rfl (by first | kernel_rfl | decide +kernel) (by first | kernel_rfl | decide +kernel) (by first | kernel_rfl | decide +kernel)
             (.inl ⟨by rfl, fun _ hw => ⟨run_eq_of ?run5, ?guar5⟩⟩) hF ?rest5
           case run5 =>
             intro K hK
             go_simp
             exact hK
           case guar5 =>
             (co_quiet T)
           try walk_nrm)
          (co_applyP anyCH_take T (fun _ _ h r => (Since.rely T) h r) (fun _ _ _ h r => ⟨DInv.rely (And.left h) r, And.right h⟩) (i := 5) rfl (by first | kernel_rfl | decide +kernel) (by first | kernel_rfl | decide +kernel) (by first | kernel_rfl | decide +kernel)
             (.inl ⟨by rfl, fun _ hw => ⟨run_eq_of ?run6, ?guar6⟩⟩) hF ?rest6
           case run6 =>
             intro K hK
             go_simp
             exact hK
           case guar6 =>
             (co_quiet T)
           try walk_nrm)
          co_done
          exact ⟨⟨q, p % q, _, _, _, _, _, _, _, _, _, _, by omega, by omega, r0, by omega, by rw [gcdI_step p0 (by omega)]; exact hres, hF, rfl⟩, by simp [GMu]; omega⟩
        · decide
  · decide
end
end Go.Proofs.Ytjofmchipkfnmaa
