/- Moved systems: their periods, and what they cover. -/
import Derived.Test.YtgdpebnnmklbjaaMathD
import Derived.Test.YtgdpebnnmklbjaaS3
namespace Go.Proofs.Ytgdpebnnmklbjaa
theorem movL_per {x : Int} {zs : List Cl} (h : allB zs = true) (p : Int) : perO p (movL x zs) = perO p zs := by
  induction zs generalizing p with
  | nil => rfl
  | cons c t ih =>
    obtain ⟨hc, ht⟩ : inB c.1 c.2 = true ∧ allB t = true := by simpa [allB] using h
    obtain ⟨m1, m2, _, _⟩ := inB_iff.1 hc
    have hc' : inB ((c.1 + x) % c.2) c.2 = true := inB_iff.2 ⟨m1, m2, Int.emod_nonneg _ (by omega), Int.emod_lt_of_pos _ (by omega)⟩
    have e : movL x (c :: t) = ((c.1 + x) % c.2, c.2) :: movL x t := rfl
    rw [e]
    unfold perO
    simp only [hc, hc', true_and]
    split
    · exact ih ht _
    · rfl
theorem movL_sys {x : Int} {zs : List Cl} (h : sysB zs = true) : sysB (movL x zs) = true ∧ perI (movL x zs) = perI zs := by
  obtain ⟨l1, l2, ha, ho, _, _⟩ := sysB_facts h
  have e := movL_per (x := x) ha 1
  refine ⟨?_, by unfold perI; rw [e]⟩
  unfold sysB
  rw [movL_length, e, ho]
  simp [l1, l2]
theorem movL_at (x : Int) (zs : List Cl) (k : Nat) (h : k < zs.length) : rAt (movL x zs) k = (rAt zs k + x) % mAt zs k ∧ mAt (movL x zs) k = mAt zs k := by
  simp [rAt, mAt, movL, h]
theorem movL_cnt {x : Int} {zs : List Cl} (ha : allB zs = true) (y : Int) (k : Nat) (hk : k ≤ zs.length) : cntK (movL x zs) y k = cntK zs (y - x) k := by
  induction k with
  | zero => rfl
  | succ k ih =>
    obtain ⟨m1, _, r1, r2⟩ := inB_iff.1 (allB_at ha k (by omega))
    obtain ⟨e1, e2⟩ := movL_at x zs k (by omega)
    simp only [cntK]
    rw [ih (by omega), e1, e2]
    congr 1
    have : (y % mAt zs k = (rAt zs k + x) % mAt zs k) ↔ ((y - x) % mAt zs k = rAt zs k) := by
      generalize mAt zs k = m at *
      generalize rAt zs k = r at *
      constructor
      · intro h
        have h2 : (y - x) % m = (r + x - x) % m := by rw [Int.sub_emod, h, ← Int.sub_emod]
        rw [h2, Int.add_sub_cancel, Int.emod_eq_of_lt r1 r2]
      · intro h
        have h2 : (y - x + x) % m = (r + x) % m := by rw [Int.add_emod, h, Int.add_emod r x]; rw [Int.emod_eq_of_lt r1 r2]
        rwa [Int.sub_add_cancel] at h2
    by_cases hy : y % mAt zs k = (rAt zs k + x) % mAt zs k
    · rw [if_pos hy, if_pos (this.1 hy)]
    · rw [if_neg hy, if_neg (fun hh => hy (this.2 hh))]
theorem cnt_mod {zs : List Cl} (h : sysB zs = true) (y : Int) : cntN zs y = cntN zs (y % perI zs) := by
  have hk : ∀ k, k ≤ zs.length → cntK zs y k = cntK zs (y % perI zs) k := by
    intro k
    induction k with
    | zero => intro _; rfl
    | succ k ih =>
      intro hk
      simp only [cntK]
      rw [ih (by omega), Int.emod_emod_of_dvd y (sys_dvd h k (by omega))]
  exact hk _ (Nat.le_refl _)
theorem movL_at_nat {x : Int} {zs : List Cl} (h : sysB zs = true) (y : Int) : ∃ z : Nat, (z : Int) < perI zs ∧ cntN (movL x zs) y = cntN zs z := by
  obtain ⟨_, _, ha, _, P1, _⟩ := sysB_facts h
  have h0 := Int.emod_nonneg (y - x) (show perI zs ≠ 0 by omega)
  have h1 := Int.emod_lt_of_pos (y - x) (show 0 < perI zs by omega)
  refine ⟨((y - x) % perI zs).toNat, by omega, ?_⟩
  have e : cntN (movL x zs) y = cntN zs (y - x) := by
    unfold cntN
    rw [movL_length]
    exact movL_cnt ha y _ (Nat.le_refl _)
  rw [e, cnt_mod h, Int.toNat_of_nonneg h0]
theorem movL_al {x : Int} {zs : List Cl} (h : sysB zs = true) (ha : alB zs = true) : alB (movL x zs) = true := by
  obtain ⟨P, hP⟩ := per_nat h
  obtain ⟨h2, e⟩ := movL_sys (x := x) h
  refine (al_iff h2 P (e.trans hP)).2 fun y _ => ?_
  obtain ⟨z, hz, e2⟩ := movL_at_nat (x := x) h y
  rw [e2]
  exact (al_iff h P hP).1 ha z (by omega)
theorem movL_apr {x : Int} {zs : List Cl} (h : sysB zs = true) (ha : aprB zs = true) : aprB (movL x zs) = true := by
  obtain ⟨P, hP⟩ := per_nat h
  obtain ⟨h2, e⟩ := movL_sys (x := x) h
  refine (apr_iff h2 P (e.trans hP)).2 fun y _ => ?_
  obtain ⟨z, hz, e2⟩ := movL_at_nat (x := x) h y
  rw [e2]
  exact (apr_iff h P hP).1 ha z (by omega)
theorem exa_facts {zs : List Cl} (h : exaB zs = true) : sysB zs = true ∧ alB zs = true ∧ aprB zs = true := by
  unfold exaB at h
  obtain ⟨h1, h2⟩ := Bool.and_eq_true_iff.1 h
  have h3 : sysB zs = true := by
    unfold alB at h1
    exact (Bool.and_eq_true_iff.1 h1).1
  exact ⟨h3, h1, by unfold aprB; rw [h3, h2]; rfl⟩
theorem movL_exa {x : Int} {zs : List Cl} (h : exaB zs = true) : exaB (movL x zs) = true := by
  obtain ⟨h1, h2, h3⟩ := exa_facts h
  have h4 := movL_apr (x := x) h1 h3
  unfold aprB at h4
  unfold exaB
  rw [movL_al h1 h2, (Bool.and_eq_true_iff.1 h4).2]
  rfl
theorem exa_share {zs : List Cl} (h : exaB zs = true) : shrI zs = perI zs := by
  obtain ⟨h1, h2, h3⟩ := exa_facts h
  exact Int.le_antisymm (apr_share h1 h3) (al_share h1 h2)
end Go.Proofs.Ytgdpebnnmklbjaa
