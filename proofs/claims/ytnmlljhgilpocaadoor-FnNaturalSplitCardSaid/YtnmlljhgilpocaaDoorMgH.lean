/- A class split into its parts: the same numbers, as often. -/
import Derived.Test.YtnmlljhgilpocaaDoorMathG
import Derived.Test.YtnmlljhgilpocaaDoorMathA
import Derived.Test.YtnmlljhgilpocaaDoorMathD
import Derived.Test.YtnmlljhgilpocaaDoorMgF
import Derived.Test.YtnmlljhgilpocaaDoorS4
import Derived.Test.YtnmlljhgilpocaaDoorS3
import Derived.Test.YtnmlljhgilpocaaDoorMgA
namespace Go.Proofs.YtnmlljhgilpocaaDoor
open Go.RowKit
theorem cntN_countP (zs : List Cl) (x : Int) : cntN zs x = ((zs.countP fun c => x % c.2 == c.1 : Nat) : Int) := by
  have key : ∀ k, k ≤ zs.length → cntK zs x k = (((zs.take k).countP fun c => x % c.2 == c.1 : Nat) : Int) := by
    intro k
    induction k with
    | zero => intro _; simp [cntK]
    | succ k ih =>
      intro hk
      have i := ih (by omega)
      have hkk : k < zs.length := by omega
      rw [List.take_succ_eq_append_getElem hkk, List.countP_append]
      simp only [cntK]
      rw [i]
      have e1 : mAt zs k = zs[k].2 := by simp [mAt, hkk]
      have e2 : rAt zs k = zs[k].1 := by simp [rAt, hkk]
      rw [e1, e2]
      by_cases h : x % zs[k].2 = zs[k].1
      · simp [h]
      · have hb : (x % zs[k].2 == zs[k].1) = false := by simpa using h
        simp [h, hb]
  have := key zs.length (Nat.le_refl _)
  rw [List.take_length] at this
  exact this
theorem countP_one {p : Nat → Bool} {i0 : Nat} (h : ∀ i, p i = true ↔ i = i0) : ∀ K, (List.range K).countP p = if i0 < K then 1 else 0 := by
  intro K
  induction K with
  | zero => simp
  | succ K ih =>
    rw [List.range_succ, List.countP_append, ih]
    by_cases e : K = i0
    · subst e
      have : p K = true := (h K).2 rfl
      simp [this]
    · have : p K = false := by
        cases hp : p K
        · rfl
        · exact absurd ((h K).1 hp) e
      simp only [List.countP_cons, List.countP_nil, this, Bool.false_eq_true, if_false, Nat.add_zero]
      by_cases h1 : i0 < K
      · rw [if_pos h1, if_pos (by omega)]
      · rw [if_neg h1, if_neg (by omega)]
theorem part_iff {r m x : Int} {K : Nat} (h0 : 0 ≤ r) (h1 : r < m) (hK : 1 ≤ K) (i : Nat) : (x % (m * (K : Int)) == r + (i : Int) * m) = true ↔ x % m = r ∧ (i : Int) = x % (m * (K : Int)) / m := by
  have hm : 0 < m := by omega
  have hmK : 0 < m * (K : Int) := Int.mul_pos hm (by omega)
  have hy : x % (m * (K : Int)) % m = x % m := Int.emod_emod_of_dvd x (Int.dvd_mul_right _ _)
  have hdm := Int.emod_add_mul_ediv (x % (m * (K : Int))) m
  rw [beq_iff_eq]
  generalize x % (m * (K : Int)) = y at *
  constructor
  · intro h
    have e1 : y % m = r := by rw [h, Int.add_mul_emod_self_right]; exact Int.emod_eq_of_lt h0 h1
    have e2 : y / m = i := by rw [h, Int.add_mul_ediv_right _ _ (by omega), Int.ediv_eq_zero_of_lt h0 h1, Int.zero_add]
    exact ⟨by rw [← hy]; exact e1, e2.symm⟩
  · rintro ⟨e1, e2⟩
    rw [e2, Int.mul_comm]
    rw [hy, e1] at hdm
    exact hdm.symm
theorem parL_count {r m : Int} {K : Nat} (h0 : 0 ≤ r) (h1 : r < m) (hK : 1 ≤ K) (x : Int) : ((parL r m (K : Int)).countP fun c => x % c.2 == c.1) = if x % m = r then 1 else 0 := by
  unfold parL
  rw [List.countP_map, Int.toNat_natCast]
  have hm : 0 < m := by omega
  have hmK : 0 < m * (K : Int) := Int.mul_pos hm (by omega)
  have hb := emod_bd x (m * (K : Int)) (by omega)
  by_cases hx : x % m = r
  · obtain ⟨i0, hi0⟩ := Int.eq_ofNat_of_zero_le (Int.ediv_nonneg hb.1 (show 0 ≤ m by omega))
    have hlt : i0 < K := by
      have : x % (m * (K : Int)) / m < K := Int.ediv_lt_of_lt_mul hm (by have := hb.2; rw [Int.mul_comm (K : Int) m]; exact this)
      omega
    rw [if_pos hx]
    have := countP_one (p := (fun c : Cl => x % c.2 == c.1) ∘ fun (i : Nat) => (r + (i : Int) * m, m * (K : Int))) (i0 := i0) (fun i => by
      show (x % (m * (K : Int)) == r + (i : Int) * m) = true ↔ _
      rw [part_iff h0 h1 hK i, hi0]
      constructor
      · rintro ⟨_, e⟩; omega
      · rintro rfl; exact ⟨hx, rfl⟩) K
    rw [this, if_pos hlt]
  · rw [if_neg hx, List.countP_eq_zero]
    intro i _
    show ¬ (x % (m * (K : Int)) == r + (i : Int) * m) = true
    rw [part_iff h0 h1 hK i]
    rintro ⟨e, _⟩
    exact hx e
/-- class i of a list split into k parts -/
def sptL (zs : List Cl) (i : Nat) (k : Int) : List Cl := zs.take i ++ parL (rAt zs i) (mAt zs i) k ++ zs.drop (i + 1)
theorem spt_cnt {zs : List Cl} {i : Nat} {K : Nat} (hi : i < zs.length) (h0 : 0 ≤ rAt zs i) (h1 : rAt zs i < mAt zs i) (hK : 1 ≤ K) (x : Int) : cntN (sptL zs i (K : Int)) x = cntN zs x := by
  rw [cntN_countP, cntN_countP]
  unfold sptL
  have e : zs = zs.take i ++ [zs[i]] ++ zs.drop (i + 1) := by
    rw [← List.take_succ_eq_append_getElem hi, List.take_append_drop]
  rw [List.countP_append, List.countP_append, parL_count h0 h1 hK]
  have h2 : zs.countP (fun c => x % c.2 == c.1) = (zs.take i).countP (fun c => x % c.2 == c.1) + [zs[i]].countP (fun c => x % c.2 == c.1) + (zs.drop (i + 1)).countP (fun c => x % c.2 == c.1) := by
    rw [← List.countP_append, ← List.countP_append, ← e]
  rw [h2]
  have e1 : mAt zs i = zs[i].2 := by simp [mAt, hi]
  have e2 : rAt zs i = zs[i].1 := by simp [rAt, hi]
  rw [e1, e2]
  by_cases h : x % zs[i].2 = zs[i].1
  · simp [h]
  · have hb : (x % zs[i].2 == zs[i].1) = false := by simpa using h
    simp [h, hb]
theorem spt_length {zs : List Cl} {i : Nat} {K : Nat} (hi : i < zs.length) : (sptL zs i (K : Int)).length = zs.length + K - 1 := by
  unfold sptL
  rw [List.length_append, List.length_append, List.length_take, List.length_drop, parL_length, Int.toNat_natCast]
  omega
theorem cnt_modF {zs : List Cl} (h : sysB zs = true) (y : Int) : cntN zs y = cntN zs (y % perI zs) := by
  have hk : ∀ k, k ≤ zs.length → cntK zs y k = cntK zs (y % perI zs) k := by
    intro k
    induction k with
    | zero => intro _; rfl
    | succ k ih =>
      intro hk
      simp only [cntK]
      rw [ih (by omega), Int.emod_emod_of_dvd y (sys_dvd h k (by omega))]
  exact hk _ (Nat.le_refl _)
theorem apa_int {zs : List Cl} (hs : sysB zs = true) : apaB zs = true ↔ ∀ y : Int, cntN zs y ≤ 1 := by
  rw [apa_times hs]
  obtain ⟨_, _, _, _, P1, _⟩ := sysB_facts hs
  constructor
  · intro h y
    rw [cnt_modF hs y]
    have hb := emod_bd y (perI zs) P1
    obtain ⟨x, hx⟩ := Int.eq_ofNat_of_zero_le hb.1
    rw [hx]
    exact h x (by omega)
  · intro h x _
    exact h x
theorem spt_sam {zs : List Cl} {i : Nat} {K : Nat} (hs : sysB zs = true) (hy : sysB (sptL zs i (K : Int)) = true) (hi : i < zs.length) (hK : 1 ≤ K) :
    samB (sptL zs i (K : Int)) zs = true ∧ apaB (sptL zs i (K : Int)) = apaB zs := by
  obtain ⟨_, _, ha, _⟩ := sysB_facts hs
  obtain ⟨m1, m2, r1, r2⟩ := inB_iff.1 (allB_at ha i hi)
  have hc := fun x => spt_cnt (zs := zs) (i := i) (K := K) hi r1 r2 hK x
  have hD := Div.sys hy
  have hD0 := Div.sys hs
  have hmem : ∀ c ∈ zs, inB c.1 c.2 = true ∧ c.2 ∣ perI (sptL zs i (K : Int)) := by
    intro c hcm
    refine ⟨(hD0.2.2 c hcm).1, ?_⟩
    obtain ⟨j, hj, rfl⟩ := List.mem_iff_getElem.1 hcm
    by_cases e : j = i
    · subst e
      have hp : (rAt zs j + ((0 : Nat) : Int) * mAt zs j, mAt zs j * (K : Int)) ∈ sptL zs j (K : Int) := by
        unfold sptL parL
        refine List.mem_append_left _ (List.mem_append_right _ (List.mem_map.2 ⟨0, List.mem_range.2 (by rw [Int.toNat_natCast]; omega), rfl⟩))
      have hd := (hD.2.2 _ hp).2
      have e1 : mAt zs j = zs[j].2 := by simp [mAt, hj]
      rw [← e1]
      exact Int.dvd_trans (Int.dvd_mul_right _ _) hd
    · refine (hD.2.2 _ ?_).2
      unfold sptL
      rcases Nat.lt_or_ge j i with h | h
      · refine List.mem_append_left _ (List.mem_append_left _ ?_)
        rw [List.mem_iff_getElem]
        exact ⟨j, by rw [List.length_take]; omega, by simp⟩
      · refine List.mem_append_right _ ?_
        rw [List.mem_iff_getElem]
        exact ⟨j - (i + 1), by rw [List.length_drop]; omega, by simp [show i + 1 + (j - (i + 1)) = j by omega]⟩
  have hD2 : Div (perI (sptL zs i (K : Int))) zs := ⟨hD.1, hD.2.1, hmem⟩
  refine ⟨sam_of hy hs hD2.per.1 (fun x => by rw [covB_cnt, covB_cnt, hc x]), ?_⟩
  rw [Bool.eq_iff_iff, apa_int hy, apa_int hs]
  constructor
  · intro h y; rw [← hc y]; exact h y
  · intro h y; rw [hc y]; exact h y
/-- it covers all just if it has no hole below a number that is at least its period -/
theorem al_belowF {zs : List Cl} (hs : sysB zs = true) (M : Nat) (hM : perI zs ≤ M) : alB zs = true ↔ holK zs M = [] := by
  obtain ⟨P, hP⟩ := per_nat hs
  obtain ⟨_, _, _, _, P1, _⟩ := sysB_facts hs
  rw [al_iff hs P hP, holK_nil]
  constructor
  · intro h x _
    rw [cnt_modF hs, hP]
    have h0 := Int.emod_nonneg (x : Int) (show (P : Int) ≠ 0 by omega)
    have h1 := Int.emod_lt_of_pos (x : Int) (show 0 < (P : Int) by omega)
    have := h ((x : Int) % (P : Int)).toNat (by omega)
    rwa [Int.toNat_of_nonneg h0] at this
  · exact fun h x hx => h x (by omega)
theorem lcm_turnF {a b : Int} (ha : 1 ≤ a) (hb : 1 ≤ b) : lcmI a b = lcmI b a := by
  have h1 := dvd_lcmI (show 0 ≤ a by omega) (show 0 ≤ b by omega)
  have h2 := dvd_lcmI (show 0 ≤ b by omega) (show 0 ≤ a by omega)
  have p1 := (lcmI_pos ha hb).1
  have p2 := (lcmI_pos hb ha).1
  have d1 := lcmI_dvd (show 0 ≤ a by omega) (show 0 ≤ b by omega) h2.2 h2.1
  have d2 := lcmI_dvd (show 0 ≤ b by omega) (show 0 ≤ a by omega) h1.2 h1.1
  have := Int.le_of_dvd (by omega) d1
  have := Int.le_of_dvd (by omega) d2
  omega
theorem sam_factsF {zs ys : List Cl} (h : samB zs ys = true) : samB ys zs = true ∧ alB zs = alB ys := by
  unfold samB at h
  obtain ⟨h1, h2⟩ := Bool.and_eq_true_iff.1 h
  unfold comB at h1
  obtain ⟨h3, h4⟩ := Bool.and_eq_true_iff.1 h1
  obtain ⟨hs, hy⟩ := Bool.and_eq_true_iff.1 h3
  obtain ⟨_, _, _, _, P1, _⟩ := sysB_facts hs
  obtain ⟨_, _, _, _, Q1, _⟩ := sysB_facts hy
  have hc := lcm_turnF P1 Q1
  have hl := lcmI_pos P1 Q1
  have he : holK zs (comI zs ys).toNat = holK ys (comI zs ys).toNat := by simpa using h2
  constructor
  · unfold samB comB comI
    rw [hy, hs, ← hc, h4]
    unfold comI at he
    simp [he]
  · have hM : ((comI zs ys).toNat : Int) = lcmI (perI zs) (perI ys) := by unfold comI; omega
    rw [Bool.eq_iff_iff, al_belowF hs (comI zs ys).toNat (by omega), al_belowF hy (comI zs ys).toNat (by omega), he]
theorem split_facts {zs : List Cl} {i k : Int} (h1 : sysB zs = true) (h2 : 0 ≤ i ∧ i < (zs.length : Int)) (h3 : parB (rAt zs i.toNat) (mAt zs i.toNat) k = true) (h4 : sysB (sptL zs i.toNat k) = true) :
    ((sptL zs i.toNat k).length : Int) = (zs.length : Int) + k - 1 ∧ samB zs (sptL zs i.toNat k) = true ∧ exaB (sptL zs i.toNat k) = exaB zs := by
  have hk : 1 ≤ k := by
    unfold parB at h3
    simp only [Bool.and_eq_true, decide_eq_true_eq] at h3
    omega
  obtain ⟨K, rfl⟩ := Int.eq_ofNat_of_zero_le (show 0 ≤ k by omega)
  have hi : i.toNat < zs.length := by omega
  have hl := spt_length (zs := zs) (i := i.toNat) (K := K) hi
  obtain ⟨a1, a2⟩ := spt_sam h1 h4 hi (by omega)
  obtain ⟨b1, b2⟩ := sam_factsF a1
  refine ⟨by omega, b1, ?_⟩
  unfold exaB
  rw [a2, b2]
end Go.Proofs.YtnmlljhgilpocaaDoor
namespace Go.Proofs.YtnmlljhgilpocaaDoor
theorem movL_per {x : Int} {zs : List Cl} (h : allB zs = true) (p : Int) : perO p (movL x zs) = perO p zs := by
  induction zs generalizing p with
  | nil => rfl
  | cons c t ih =>
    obtain ⟨hc, ht⟩ : inB c.1 c.2 = true ∧ allB t = true := by simpa [allB] using h
    obtain ⟨m1, m2, _, _⟩ := inB_iff.1 hc
    have hc' : inB ((c.1 + x) % c.2) c.2 = true := inB_iff.2 ⟨m1, m2, Int.emod_nonneg _ (by omega), Int.emod_lt_of_pos _ (by omega)⟩
    have e : movL x (c :: t) = ((c.1 + x) % c.2, c.2) :: movL x t := rfl
    rw [e]
    unfold perO
    simp only [hc, hc', true_and]
    split
    · exact ih ht _
    · rfl
theorem movL_sys {x : Int} {zs : List Cl} (h : sysB zs = true) : sysB (movL x zs) = true ∧ perI (movL x zs) = perI zs := by
  obtain ⟨l1, l2, ha, ho, _, _⟩ := sysB_facts h
  have e := movL_per (x := x) ha 1
  refine ⟨?_, by unfold perI; rw [e]⟩
  unfold sysB
  rw [movL_length, e, ho]
  simp [l1, l2]
theorem movL_at (x : Int) (zs : List Cl) (k : Nat) (h : k < zs.length) : rAt (movL x zs) k = (rAt zs k + x) % mAt zs k ∧ mAt (movL x zs) k = mAt zs k := by
  simp [rAt, mAt, movL, h]
theorem movL_cnt {x : Int} {zs : List Cl} (ha : allB zs = true) (y : Int) (k : Nat) (hk : k ≤ zs.length) : cntK (movL x zs) y k = cntK zs (y - x) k := by
  induction k with
  | zero => rfl
  | succ k ih =>
    obtain ⟨m1, _, r1, r2⟩ := inB_iff.1 (allB_at ha k (by omega))
    obtain ⟨e1, e2⟩ := movL_at x zs k (by omega)
    simp only [cntK]
    rw [ih (by omega), e1, e2]
    congr 1
    have : (y % mAt zs k = (rAt zs k + x) % mAt zs k) ↔ ((y - x) % mAt zs k = rAt zs k) := by
      generalize mAt zs k = m at *
      generalize rAt zs k = r at *
      constructor
      · intro h
        have h2 : (y - x) % m = (r + x - x) % m := by rw [Int.sub_emod, h, ← Int.sub_emod]
        rw [h2, Int.add_sub_cancel, Int.emod_eq_of_lt r1 r2]
      · intro h
        have h2 : (y - x + x) % m = (r + x) % m := by rw [Int.add_emod, h, Int.add_emod r x]; rw [Int.emod_eq_of_lt r1 r2]
        rwa [Int.sub_add_cancel] at h2
    by_cases hy : y % mAt zs k = (rAt zs k + x) % mAt zs k
    · rw [if_pos hy, if_pos (this.1 hy)]
    · rw [if_neg hy, if_neg (fun hh => hy (this.2 hh))]
theorem cnt_mod {zs : List Cl} (h : sysB zs = true) (y : Int) : cntN zs y = cntN zs (y % perI zs) := by
  have hk : ∀ k, k ≤ zs.length → cntK zs y k = cntK zs (y % perI zs) k := by
    intro k
    induction k with
    | zero => intro _; rfl
    | succ k ih =>
      intro hk
      simp only [cntK]
      rw [ih (by omega), Int.emod_emod_of_dvd y (sys_dvd h k (by omega))]
  exact hk _ (Nat.le_refl _)
theorem movL_at_nat {x : Int} {zs : List Cl} (h : sysB zs = true) (y : Int) : ∃ z : Nat, (z : Int) < perI zs ∧ cntN (movL x zs) y = cntN zs z := by
  obtain ⟨_, _, ha, _, P1, _⟩ := sysB_facts h
  have h0 := Int.emod_nonneg (y - x) (show perI zs ≠ 0 by omega)
  have h1 := Int.emod_lt_of_pos (y - x) (show 0 < perI zs by omega)
  refine ⟨((y - x) % perI zs).toNat, by omega, ?_⟩
  have e : cntN (movL x zs) y = cntN zs (y - x) := by
    unfold cntN
    rw [movL_length]
    exact movL_cnt ha y _ (Nat.le_refl _)
  rw [e, cnt_mod h, Int.toNat_of_nonneg h0]
theorem movL_al {x : Int} {zs : List Cl} (h : sysB zs = true) (ha : alB zs = true) : alB (movL x zs) = true := by
  obtain ⟨P, hP⟩ := per_nat h
  obtain ⟨h2, e⟩ := movL_sys (x := x) h
  refine (al_iff h2 P (e.trans hP)).2 fun y _ => ?_
  obtain ⟨z, hz, e2⟩ := movL_at_nat (x := x) h y
  rw [e2]
  exact (al_iff h P hP).1 ha z (by omega)
theorem movL_apr {x : Int} {zs : List Cl} (h : sysB zs = true) (ha : aprB zs = true) : aprB (movL x zs) = true := by
  obtain ⟨P, hP⟩ := per_nat h
  obtain ⟨h2, e⟩ := movL_sys (x := x) h
  refine (apr_iff h2 P (e.trans hP)).2 fun y _ => ?_
  obtain ⟨z, hz, e2⟩ := movL_at_nat (x := x) h y
  rw [e2]
  exact (apr_iff h P hP).1 ha z (by omega)
theorem exa_facts {zs : List Cl} (h : exaB zs = true) : sysB zs = true ∧ alB zs = true ∧ aprB zs = true := by
  unfold exaB at h
  obtain ⟨h1, h2⟩ := Bool.and_eq_true_iff.1 h
  have h3 : sysB zs = true := by
    unfold alB at h1
    exact (Bool.and_eq_true_iff.1 h1).1
  exact ⟨h3, h1, by unfold aprB; rw [h3, h2]; rfl⟩
theorem movL_exa {x : Int} {zs : List Cl} (h : exaB zs = true) : exaB (movL x zs) = true := by
  obtain ⟨h1, h2, h3⟩ := exa_facts h
  have h4 := movL_apr (x := x) h1 h3
  unfold aprB at h4
  unfold exaB
  rw [movL_al h1 h2, (Bool.and_eq_true_iff.1 h4).2]
  rfl
theorem exa_share {zs : List Cl} (h : exaB zs = true) : shrI zs = perI zs := by
  obtain ⟨h1, h2, h3⟩ := exa_facts h
  exact Int.le_antisymm (apr_share h1 h3) (al_share h1 h2)
end Go.Proofs.YtnmlljhgilpocaaDoor
namespace Go.Proofs.YtnmlljhgilpocaaDoor
open Go.RowKit
theorem gcdL_perm {s t : List Cl} (h : List.Perm s t) : gcdL s = gcdL t :=
  Nat.dvd_antisymm (dvd_gcdL fun _ hc => gcdL_dvd (h.mem_iff.2 hc)) (dvd_gcdL fun _ hc => gcdL_dvd (h.mem_iff.1 hc))
theorem pt_perm {d r : Int} {s t : List Cl} (h : List.Perm s t) : List.Perm (pt d r s) (pt d r t) := (h.filter _).map _
theorem natF_perm : ∀ (f : Nat) (s t : List Cl), List.Perm s t → natF f s = natF f t := by
  intro f
  induction f with
  | zero => intro s t _; rfl
  | succ f ih =>
    intro s t h
    simp only [natF]
    rw [h.length_eq, gcdL_perm h]
    by_cases hl : t.length = 1
    · obtain ⟨c, hc⟩ := List.length_eq_one_iff.1 hl
      subst hc
      rw [List.perm_singleton.1 h]
    · have : (t.length == 1) = false := by simpa using hl
      rw [this, cond_false, cond_false]
      congr 1
      exact all_cg fun r _ => ih _ _ (pt_perm h)
theorem nat_perm {s t : List Cl} (h : List.Perm s t) : nat s = nat t := natF_perm _ _ _ h
/-- all numbers moved on by one -/
def mv1 (s : List Cl) : List Cl := s.map fun c => ((c.1 + 1) % c.2, c.2)
theorem mv1_gcd (s : List Cl) : gcdL (mv1 s) = gcdL s := by
  refine Nat.dvd_antisymm (dvd_gcdL fun c hc => ?_) (dvd_gcdL fun c hc => ?_)
  · exact gcdL_dvd (s := mv1 s) (c := ((c.1 + 1) % c.2, c.2)) (List.mem_map.2 ⟨c, hc, rfl⟩)
  · obtain ⟨x, hx, rfl⟩ := List.mem_map.1 hc
    show gcdL s ∣ x.2.toNat
    exact gcdL_dvd hx
theorem pt_mv1 {n d : Nat} {r : Nat} (hd : 2 ≤ d) (hr : r < d) : ∀ (s : List Cl), Vl n s → (∀ c ∈ s, (d : Int) ∣ c.2) → pt d r (mv1 s) = if r = 0 then mv1 (pt d ((d - 1 : Nat) : Int) s) else pt d ((r - 1 : Nat) : Int) s := by
  intro s
  induction s with
  | nil => intro _ _; by_cases h : r = 0 <;> simp [h, pt, mv1]
  | cons c s ih =>
    intro hv hm
    have ih' := ih (fun x hx => hv x (List.mem_cons_of_mem _ hx)) (fun x hx => hm x (List.mem_cons_of_mem _ hx))
    obtain ⟨v1, v2, _⟩ := hv c List.mem_cons_self
    obtain ⟨q, hq⟩ := hm c List.mem_cons_self
    have hd0 : (0 : Int) < d := by omega
    have h1 := Int.emod_nonneg c.1 (show (d : Int) ≠ 0 by omega)
    have h2 := Int.emod_lt_of_pos c.1 hd0
    have e1 := Int.mul_ediv_add_emod c.1 d
    -- the rest of the moved one by d
    have hmm : (c.1 + 1) % c.2 % d = (c.1 + 1) % d := Int.emod_emod_of_dvd _ (hm c List.mem_cons_self)
    have hM : mv1 (c :: s) = ((c.1 + 1) % c.2, c.2) :: mv1 s := rfl
    rw [hM]
    by_cases hr0 : r = 0
    · subst hr0
      rw [if_pos rfl] at ih' ⊢
      by_cases a : c.1 % d = ((d - 1 : Nat) : Int)
      · have hmod : (c.1 + 1) % d = 0 := by
          have : c.1 + 1 = d * (c.1 / d + 1) := by rw [Int.mul_add, Int.mul_one]; omega
          rw [this, Int.mul_emod_right]
        have ha : ((c.1 + 1) % c.2 % (d : Int) == ((0 : Nat) : Int)) = true := by rw [hmm, hmod]; rfl
        have hb : (c.1 % (d : Int) == ((d - 1 : Nat) : Int)) = true := by simpa using a
        have hc1 : (c.1 - ((d - 1 : Nat) : Int)) / d = c.1 / d := by rw [← a]; exact sub_mod_div _ _ hd0
        have hc2 : c.2 / d = q := by rw [hq, Int.mul_ediv_cancel_left _ (by omega)]
        have hc3 : ((c.1 + 1) % c.2 - ((0 : Nat) : Int)) / d = (c.1 / d + 1) % q := by
          have e2 : c.1 + 1 = d * (c.1 / d + 1) := by rw [Int.mul_add, Int.mul_one]; omega
          rw [e2, hq, Int.mul_emod_mul_of_pos _ _ hd0]
          simp only [Int.ofNat_zero, Int.sub_zero]
          rw [Int.mul_ediv_cancel_left _ (by omega)]
        simp only [pt, List.filter_cons, ha, hb, if_true, List.map_cons] at ih' ⊢
        rw [ih']
        simp only [mv1, List.map_cons]
        rw [hc1, hc2, hc3]
      · have hmod : ¬ (c.1 + 1) % d = 0 := by
          intro h
          apply a
          have : c.1 % d + 1 < d ∨ c.1 % d + 1 = d := by omega
          rcases this with h3 | h3
          · have e2 : c.1 + 1 = (c.1 % d + 1) + d * (c.1 / d) := by omega
            rw [e2, Int.add_mul_emod_self_left, Int.emod_eq_of_lt (by omega) h3] at h
            omega
          · omega
        have ha : ((c.1 + 1) % c.2 % (d : Int) == ((0 : Nat) : Int)) = false := by rw [hmm]; simpa using hmod
        have hb : (c.1 % (d : Int) == ((d - 1 : Nat) : Int)) = false := by simpa using a
        simp only [pt, List.filter_cons, ha, hb] at ih' ⊢
        simpa using ih'
    · rw [if_neg hr0] at ih' ⊢
      by_cases a : c.1 % d = ((r - 1 : Nat) : Int)
      · have e2 : c.1 + 1 = (r : Int) + d * (c.1 / d) := by omega
        have hmod : (c.1 + 1) % d = r := by rw [e2, Int.add_mul_emod_self_left, Int.emod_eq_of_lt (by omega) (by omega)]
        have hlt : c.1 + 1 < c.2 := by
          rcases (show c.1 + 1 < c.2 ∨ c.1 + 1 = c.2 by omega) with h | h
          · exact h
          · rw [h, hq, Int.mul_emod_right] at hmod
            omega
        have hs1 : (c.1 + 1) % c.2 = c.1 + 1 := Int.emod_eq_of_lt (by omega) hlt
        have ha : ((c.1 + 1) % c.2 % (d : Int) == (r : Int)) = true := by rw [hmm, hmod]; simp
        have hb : (c.1 % (d : Int) == ((r - 1 : Nat) : Int)) = true := by simpa using a
        have hc1 : ((c.1 + 1) % c.2 - (r : Int)) / d = (c.1 - ((r - 1 : Nat) : Int)) / d := by
          rw [hs1]
          congr 1
          omega
        simp only [pt, List.filter_cons, ha, hb, if_true, List.map_cons] at ih' ⊢
        rw [ih', hc1]
      · have hmod : ¬ (c.1 + 1) % d = r := by
          intro h
          apply a
          have : c.1 % d + 1 < d ∨ c.1 % d + 1 = d := by omega
          rcases this with h3 | h3
          · have e2 : c.1 + 1 = (c.1 % d + 1) + d * (c.1 / d) := by omega
            rw [e2, Int.add_mul_emod_self_left, Int.emod_eq_of_lt (by omega) h3] at h
            omega
          · have e2 : c.1 + 1 = d * (c.1 / d + 1) := by rw [Int.mul_add, Int.mul_one]; omega
            rw [e2, Int.mul_emod_right] at h
            omega
        have ha : ((c.1 + 1) % c.2 % (d : Int) == (r : Int)) = false := by rw [hmm]; simpa using hmod
        have hb : (c.1 % (d : Int) == ((r - 1 : Nat) : Int)) = false := by simpa using a
        simp only [pt, List.filter_cons, ha, hb] at ih' ⊢
        simpa using ih'
theorem all_turn {F : Nat → Bool} {p : Nat} (hp : 1 ≤ p) : ((List.range p).all fun r => if r = 0 then F (p - 1) else F (r - 1)) = (List.range p).all F := by
  rw [Bool.eq_iff_iff]
  simp only [List.all_eq_true, List.mem_range]
  constructor
  · intro h u hu
    by_cases e : u = p - 1
    · have := h 0 (by omega)
      rw [if_pos rfl] at this
      rw [e]; exact this
    · have := h (u + 1) (by omega)
      rw [if_neg (by omega)] at this
      simpa using this
  · intro h r hr
    by_cases e : r = 0
    · rw [if_pos e]; exact h _ (by omega)
    · rw [if_neg e]; exact h _ (by omega)
theorem mv1_vl {n : Nat} {s : List Cl} (hv : Vl n s) : Vl n (mv1 s) := by
  intro c hc
  obtain ⟨x, hx, rfl⟩ := List.mem_map.1 hc
  obtain ⟨h1, h2, h3⟩ := hv x hx
  exact ⟨Int.emod_nonneg _ (by omega), Int.emod_lt_of_pos _ (by omega), h3⟩
theorem natF_mv1 : ∀ (f : Nat) (s : List Cl), Vl f s → natF f (mv1 s) = natF f s := by
  intro f
  induction f with
  | zero => intro s _; rfl
  | succ f ih =>
    intro s hv
    simp only [natF, mv1_gcd]
    have hl : (mv1 s).length = s.length := by simp [mv1]
    rw [hl]
    by_cases h1 : s.length = 1
    · obtain ⟨c, hc⟩ := List.length_eq_one_iff.1 h1
      subst hc
      simp [mv1, mAt]
    · have : (s.length == 1) = false := by simpa using h1
      rw [this, cond_false, cond_false]
      cases hg : decide (gcdL s ≤ 1)
      · simp only [cond_false]
        have hg' : 2 ≤ gcdL s := by simp at hg; omega
        obtain ⟨p1, p2, p3⟩ := lpd_facts (n := f + 1) hg'
        have hm : ∀ c ∈ s, ((lpd (gcdL s) : Nat) : Int) ∣ c.2 := fun c hc => p3 c hc (hv c hc)
        rw [← all_turn (F := fun r => natF f (pt (lpd (gcdL s)) (r : Int) s)) (by omega)]
        refine all_cg fun r hr => ?_
        rw [pt_mv1 p1 (List.mem_range.1 hr) s hv hm]
        by_cases h0 : r = 0
        · rw [if_pos h0, if_pos h0]
          exact ih _ (pt_vl p1 hv hm)
        · rw [if_neg h0, if_neg h0]
      · rfl
theorem nat_mv1 {s : List Cl} (hv : Vl 1000 s) : nat (mv1 s) = nat s := natF_mv1 _ s hv
/-- how many classes have a number, seen from its own residue class -/
theorem pt_count {n d : Nat} (hd : 1 ≤ d) (x : Int) : ∀ (s : List Cl), Vl n s → (∀ c ∈ s, (d : Int) ∣ c.2) → (pt d (x % d) s).countP (fun c => (x / d) % c.2 == c.1) = s.countP fun c => x % c.2 == c.1 := by
  intro s
  induction s with
  | nil => intro _ _; rfl
  | cons c s ih =>
    intro hv hm
    have ih' := ih (fun x hx => hv x (List.mem_cons_of_mem _ hx)) (fun x hx => hm x (List.mem_cons_of_mem _ hx))
    obtain ⟨v1, v2, _⟩ := hv c List.mem_cons_self
    obtain ⟨q, hq⟩ := hm c List.mem_cons_self
    have hd0 : (0 : Int) < d := by omega
    have hq0 : 0 < q := by
      rcases Int.lt_trichotomy q 0 with h | h | h
      · have := Int.mul_neg_of_pos_of_neg hd0 h; omega
      · subst h; simp at hq; omega
      · exact h
    have hqn : q = ((q.toNat : Nat) : Int) := by omega
    have hD : x % c.2 = x % d + d * (x / d % q) := by
      rw [hq, hqn, ← Int.natCast_mul]
      exact dig2 x hd (by omega)
    have e1 := Int.mul_ediv_add_emod c.1 d
    have hc2 : c.2 / d = q := by rw [hq, Int.mul_ediv_cancel_left _ (by omega)]
    rw [List.countP_cons]
    by_cases a : c.1 % d = x % d
    · have ha : (c.1 % (d : Int) == x % (d : Int)) = true := by simpa using a
      have hc1 : (c.1 - x % d) / d = c.1 / d := by rw [← a]; exact sub_mod_div _ _ hd0
      have he : (x / d % (c.2 / d) == (c.1 - x % d) / d) = (x % c.2 == c.1) := by
        rw [hc1, hc2, hD, Bool.eq_iff_iff]
        simp only [beq_iff_eq]
        constructor
        · intro h; rw [h]; omega
        · intro h
          have : (d : Int) * (x / d % q) = d * (c.1 / d) := by omega
          exact Int.eq_of_mul_eq_mul_left (by omega) this
      simp only [pt, List.filter_cons, ha, if_true, List.map_cons, List.countP_cons, he] at ih' ⊢
      rw [ih']
    · have ha : (c.1 % (d : Int) == x % (d : Int)) = false := by simpa using a
      have he : (x % c.2 == c.1) = false := by
        rw [hD]
        simp only [beq_eq_false_iff_ne, ne_eq]
        intro h
        apply a
        rw [← h, Int.add_mul_emod_self_left, Int.emod_emod]
      simp only [pt, List.filter_cons, ha, he] at ih' ⊢
      simpa using ih'
/-- natural lists have each number once -/
theorem natF_once : ∀ (f : Nat) (s : List Cl), Vl f s → natF f s = true → ∀ x : Int, s.countP (fun c => x % c.2 == c.1) = 1 := by
  intro f
  induction f with
  | zero => intro s _ h; simp [natF] at h
  | succ f ih =>
    intro s hv h x
    simp only [natF] at h
    by_cases h1 : s.length = 1
    · obtain ⟨c, hc⟩ := List.length_eq_one_iff.1 h1
      subst hc
      have hc := hv c (by simp)
      have : c.2 = 1 := by simpa [mAt] using h
      simp [this]
      omega
    · have : (s.length == 1) = false := by simpa using h1
      rw [this, cond_false] at h
      cases hg : decide (gcdL s ≤ 1)
      · rw [hg, cond_false] at h
        have hg' : 2 ≤ gcdL s := by simp at hg; omega
        obtain ⟨p1, p2, p3⟩ := lpd_facts (n := f + 1) hg'
        have hm : ∀ c ∈ s, ((lpd (gcdL s) : Nat) : Int) ∣ c.2 := fun c hc => p3 c hc (hv c hc)
        generalize lpd (gcdL s) = p at *
        have h2 := Int.emod_nonneg x (show (p : Int) ≠ 0 by omega)
        have h3 := Int.emod_lt_of_pos x (show (0 : Int) < p by omega)
        have hr := List.all_eq_true.1 h (x % p).toNat (List.mem_range.2 (by omega))
        rw [Int.toNat_of_nonneg h2] at hr
        rw [← pt_count (by omega) x s hv hm]
        exact ih _ (pt_vl p1 hv hm) hr (x / p)
      · rw [hg] at h; cases h
theorem nat_once {s : List Cl} (hv : Vl 1000 s) (h : nat s = true) (x : Int) : cntN s x = 1 := by
  rw [cntN_countP, natF_once 1000 s hv h x]
  rfl
theorem allB_vl {s : List Cl} (h : allB s = true) : Vl 1000 s := by
  intro c hc
  have := List.all_eq_true.1 h c hc
  obtain ⟨h1, h2, h3, h4⟩ := inB_iff.1 this
  exact ⟨h3, h4, h2⟩
end Go.Proofs.YtnmlljhgilpocaaDoor
