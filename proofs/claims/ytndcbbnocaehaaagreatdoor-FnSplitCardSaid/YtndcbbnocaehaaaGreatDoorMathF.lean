/- A class split into its parts: the same numbers, as often. -/
import Derived.Test.YtndcbbnocaehaaaGreatDoorMathG
import Derived.Test.YtndcbbnocaehaaaGreatDoorMathA
import Derived.Test.YtndcbbnocaehaaaGreatDoorMathD
import Derived.Test.YtndcbbnocaehaaaGreatDoorS15
import Derived.Test.YtndcbbnocaehaaaGreatDoorS4
namespace Go.Proofs.YtndcbbnocaehaaaGreatDoor
open Go.RowKit
theorem cntN_countP (zs : List Cl) (x : Int) : cntN zs x = ((zs.countP fun c => x % c.2 == c.1 : Nat) : Int) := by
  have key : ∀ k, k ≤ zs.length → cntK zs x k = (((zs.take k).countP fun c => x % c.2 == c.1 : Nat) : Int) := by
    intro k
    induction k with
    | zero => intro _; simp [cntK]
    | succ k ih =>
      intro hk
      have i := ih (by omega)
      have hkk : k < zs.length := by omega
      rw [List.take_succ_eq_append_getElem hkk, List.countP_append]
      simp only [cntK]
      rw [i]
      have e1 : mAt zs k = zs[k].2 := by simp [mAt, hkk]
      have e2 : rAt zs k = zs[k].1 := by simp [rAt, hkk]
      rw [e1, e2]
      by_cases h : x % zs[k].2 = zs[k].1
      · simp [h]
      · have hb : (x % zs[k].2 == zs[k].1) = false := by simpa using h
        simp [h, hb]
  have := key zs.length (Nat.le_refl _)
  rw [List.take_length] at this
  exact this
theorem countP_one {p : Nat → Bool} {i0 : Nat} (h : ∀ i, p i = true ↔ i = i0) : ∀ K, (List.range K).countP p = if i0 < K then 1 else 0 := by
  intro K
  induction K with
  | zero => simp
  | succ K ih =>
    rw [List.range_succ, List.countP_append, ih]
    by_cases e : K = i0
    · subst e
      have : p K = true := (h K).2 rfl
      simp [this]
    · have : p K = false := by
        cases hp : p K
        · rfl
        · exact absurd ((h K).1 hp) e
      simp only [List.countP_cons, List.countP_nil, this, Bool.false_eq_true, if_false, Nat.add_zero]
      by_cases h1 : i0 < K
      · rw [if_pos h1, if_pos (by omega)]
      · rw [if_neg h1, if_neg (by omega)]
theorem part_iff {r m x : Int} {K : Nat} (h0 : 0 ≤ r) (h1 : r < m) (hK : 1 ≤ K) (i : Nat) : (x % (m * (K : Int)) == r + (i : Int) * m) = true ↔ x % m = r ∧ (i : Int) = x % (m * (K : Int)) / m := by
  have hm : 0 < m := by omega
  have hmK : 0 < m * (K : Int) := Int.mul_pos hm (by omega)
  have hy : x % (m * (K : Int)) % m = x % m := Int.emod_emod_of_dvd x (Int.dvd_mul_right _ _)
  have hdm := Int.emod_add_mul_ediv (x % (m * (K : Int))) m
  rw [beq_iff_eq]
  generalize x % (m * (K : Int)) = y at *
  constructor
  · intro h
    have e1 : y % m = r := by rw [h, Int.add_mul_emod_self_right]; exact Int.emod_eq_of_lt h0 h1
    have e2 : y / m = i := by rw [h, Int.add_mul_ediv_right _ _ (by omega), Int.ediv_eq_zero_of_lt h0 h1, Int.zero_add]
    exact ⟨by rw [← hy]; exact e1, e2.symm⟩
  · rintro ⟨e1, e2⟩
    rw [e2, Int.mul_comm]
    rw [hy, e1] at hdm
    exact hdm.symm
theorem parL_count {r m : Int} {K : Nat} (h0 : 0 ≤ r) (h1 : r < m) (hK : 1 ≤ K) (x : Int) : ((parL r m (K : Int)).countP fun c => x % c.2 == c.1) = if x % m = r then 1 else 0 := by
  unfold parL
  rw [List.countP_map, Int.toNat_natCast]
  have hm : 0 < m := by omega
  have hmK : 0 < m * (K : Int) := Int.mul_pos hm (by omega)
  have hb := emod_bd x (m * (K : Int)) (by omega)
  by_cases hx : x % m = r
  · obtain ⟨i0, hi0⟩ := Int.eq_ofNat_of_zero_le (Int.ediv_nonneg hb.1 (show 0 ≤ m by omega))
    have hlt : i0 < K := by
      have : x % (m * (K : Int)) / m < K := Int.ediv_lt_of_lt_mul hm (by have := hb.2; rw [Int.mul_comm (K : Int) m]; exact this)
      omega
    rw [if_pos hx]
    have := countP_one (p := (fun c : Cl => x % c.2 == c.1) ∘ fun (i : Nat) => (r + (i : Int) * m, m * (K : Int))) (i0 := i0) (fun i => by
      show (x % (m * (K : Int)) == r + (i : Int) * m) = true ↔ _
      rw [part_iff h0 h1 hK i, hi0]
      constructor
      · rintro ⟨_, e⟩; omega
      · rintro rfl; exact ⟨hx, rfl⟩) K
    rw [this, if_pos hlt]
  · rw [if_neg hx, List.countP_eq_zero]
    intro i _
    show ¬ (x % (m * (K : Int)) == r + (i : Int) * m) = true
    rw [part_iff h0 h1 hK i]
    rintro ⟨e, _⟩
    exact hx e
/-- class i of a list split into k parts -/
def sptL (zs : List Cl) (i : Nat) (k : Int) : List Cl := zs.take i ++ parL (rAt zs i) (mAt zs i) k ++ zs.drop (i + 1)
theorem spt_cnt {zs : List Cl} {i : Nat} {K : Nat} (hi : i < zs.length) (h0 : 0 ≤ rAt zs i) (h1 : rAt zs i < mAt zs i) (hK : 1 ≤ K) (x : Int) : cntN (sptL zs i (K : Int)) x = cntN zs x := by
  rw [cntN_countP, cntN_countP]
  unfold sptL
  have e : zs = zs.take i ++ [zs[i]] ++ zs.drop (i + 1) := by
    rw [← List.take_succ_eq_append_getElem hi, List.take_append_drop]
  rw [List.countP_append, List.countP_append, parL_count h0 h1 hK]
  have h2 : zs.countP (fun c => x % c.2 == c.1) = (zs.take i).countP (fun c => x % c.2 == c.1) + [zs[i]].countP (fun c => x % c.2 == c.1) + (zs.drop (i + 1)).countP (fun c => x % c.2 == c.1) := by
    rw [← List.countP_append, ← List.countP_append, ← e]
  rw [h2]
  have e1 : mAt zs i = zs[i].2 := by simp [mAt, hi]
  have e2 : rAt zs i = zs[i].1 := by simp [rAt, hi]
  rw [e1, e2]
  by_cases h : x % zs[i].2 = zs[i].1
  · simp [h]
  · have hb : (x % zs[i].2 == zs[i].1) = false := by simpa using h
    simp [h, hb]
theorem spt_length {zs : List Cl} {i : Nat} {K : Nat} (hi : i < zs.length) : (sptL zs i (K : Int)).length = zs.length + K - 1 := by
  unfold sptL
  rw [List.length_append, List.length_append, List.length_take, List.length_drop, parL_length, Int.toNat_natCast]
  omega
theorem cnt_modF {zs : List Cl} (h : sysB zs = true) (y : Int) : cntN zs y = cntN zs (y % perI zs) := by
  have hk : ∀ k, k ≤ zs.length → cntK zs y k = cntK zs (y % perI zs) k := by
    intro k
    induction k with
    | zero => intro _; rfl
    | succ k ih =>
      intro hk
      simp only [cntK]
      rw [ih (by omega), Int.emod_emod_of_dvd y (sys_dvd h k (by omega))]
  exact hk _ (Nat.le_refl _)
theorem apa_int {zs : List Cl} (hs : sysB zs = true) : apaB zs = true ↔ ∀ y : Int, cntN zs y ≤ 1 := by
  rw [apa_times hs]
  obtain ⟨_, _, _, _, P1, _⟩ := sysB_facts hs
  constructor
  · intro h y
    rw [cnt_modF hs y]
    have hb := emod_bd y (perI zs) P1
    obtain ⟨x, hx⟩ := Int.eq_ofNat_of_zero_le hb.1
    rw [hx]
    exact h x (by omega)
  · intro h x _
    exact h x
theorem spt_sam {zs : List Cl} {i : Nat} {K : Nat} (hs : sysB zs = true) (hy : sysB (sptL zs i (K : Int)) = true) (hi : i < zs.length) (hK : 1 ≤ K) :
    samB (sptL zs i (K : Int)) zs = true ∧ apaB (sptL zs i (K : Int)) = apaB zs := by
  obtain ⟨_, _, ha, _⟩ := sysB_facts hs
  obtain ⟨m1, m2, r1, r2⟩ := inB_iff.1 (allB_at ha i hi)
  have hc := fun x => spt_cnt (zs := zs) (i := i) (K := K) hi r1 r2 hK x
  have hD := Div.sys hy
  have hD0 := Div.sys hs
  have hmem : ∀ c ∈ zs, inB c.1 c.2 = true ∧ c.2 ∣ perI (sptL zs i (K : Int)) := by
    intro c hcm
    refine ⟨(hD0.2.2 c hcm).1, ?_⟩
    obtain ⟨j, hj, rfl⟩ := List.mem_iff_getElem.1 hcm
    by_cases e : j = i
    · subst e
      have hp : (rAt zs j + ((0 : Nat) : Int) * mAt zs j, mAt zs j * (K : Int)) ∈ sptL zs j (K : Int) := by
        unfold sptL parL
        refine List.mem_append_left _ (List.mem_append_right _ (List.mem_map.2 ⟨0, List.mem_range.2 (by rw [Int.toNat_natCast]; omega), rfl⟩))
      have hd := (hD.2.2 _ hp).2
      have e1 : mAt zs j = zs[j].2 := by simp [mAt, hj]
      rw [← e1]
      exact Int.dvd_trans (Int.dvd_mul_right _ _) hd
    · refine (hD.2.2 _ ?_).2
      unfold sptL
      rcases Nat.lt_or_ge j i with h | h
      · refine List.mem_append_left _ (List.mem_append_left _ ?_)
        rw [List.mem_iff_getElem]
        exact ⟨j, by rw [List.length_take]; omega, by simp⟩
      · refine List.mem_append_right _ ?_
        rw [List.mem_iff_getElem]
        exact ⟨j - (i + 1), by rw [List.length_drop]; omega, by simp [show i + 1 + (j - (i + 1)) = j by omega]⟩
  have hD2 : Div (perI (sptL zs i (K : Int))) zs := ⟨hD.1, hD.2.1, hmem⟩
  refine ⟨sam_of hy hs hD2.per.1 (fun x => by rw [covB_cnt, covB_cnt, hc x]), ?_⟩
  rw [Bool.eq_iff_iff, apa_int hy, apa_int hs]
  constructor
  · intro h y; rw [← hc y]; exact h y
  · intro h y; rw [hc y]; exact h y
/-- it covers all just if it has no hole below a number that is at least its period -/
theorem al_belowF {zs : List Cl} (hs : sysB zs = true) (M : Nat) (hM : perI zs ≤ M) : alB zs = true ↔ holK zs M = [] := by
  obtain ⟨P, hP⟩ := per_nat hs
  obtain ⟨_, _, _, _, P1, _⟩ := sysB_facts hs
  rw [al_iff hs P hP, holK_nil]
  constructor
  · intro h x _
    rw [cnt_modF hs, hP]
    have h0 := Int.emod_nonneg (x : Int) (show (P : Int) ≠ 0 by omega)
    have h1 := Int.emod_lt_of_pos (x : Int) (show 0 < (P : Int) by omega)
    have := h ((x : Int) % (P : Int)).toNat (by omega)
    rwa [Int.toNat_of_nonneg h0] at this
  · exact fun h x hx => h x (by omega)
theorem lcm_turnF {a b : Int} (ha : 1 ≤ a) (hb : 1 ≤ b) : lcmI a b = lcmI b a := by
  have h1 := dvd_lcmI (show 0 ≤ a by omega) (show 0 ≤ b by omega)
  have h2 := dvd_lcmI (show 0 ≤ b by omega) (show 0 ≤ a by omega)
  have p1 := (lcmI_pos ha hb).1
  have p2 := (lcmI_pos hb ha).1
  have d1 := lcmI_dvd (show 0 ≤ a by omega) (show 0 ≤ b by omega) h2.2 h2.1
  have d2 := lcmI_dvd (show 0 ≤ b by omega) (show 0 ≤ a by omega) h1.2 h1.1
  have := Int.le_of_dvd (by omega) d1
  have := Int.le_of_dvd (by omega) d2
  omega
theorem sam_factsF {zs ys : List Cl} (h : samB zs ys = true) : samB ys zs = true ∧ alB zs = alB ys := by
  unfold samB at h
  obtain ⟨h1, h2⟩ := Bool.and_eq_true_iff.1 h
  unfold comB at h1
  obtain ⟨h3, h4⟩ := Bool.and_eq_true_iff.1 h1
  obtain ⟨hs, hy⟩ := Bool.and_eq_true_iff.1 h3
  obtain ⟨_, _, _, _, P1, _⟩ := sysB_facts hs
  obtain ⟨_, _, _, _, Q1, _⟩ := sysB_facts hy
  have hc := lcm_turnF P1 Q1
  have hl := lcmI_pos P1 Q1
  have he : holK zs (comI zs ys).toNat = holK ys (comI zs ys).toNat := by simpa using h2
  constructor
  · unfold samB comB comI
    rw [hy, hs, ← hc, h4]
    unfold comI at he
    simp [he]
  · have hM : ((comI zs ys).toNat : Int) = lcmI (perI zs) (perI ys) := by unfold comI; omega
    rw [Bool.eq_iff_iff, al_belowF hs (comI zs ys).toNat (by omega), al_belowF hy (comI zs ys).toNat (by omega), he]
theorem split_facts {zs : List Cl} {i k : Int} (h1 : sysB zs = true) (h2 : 0 ≤ i ∧ i < (zs.length : Int)) (h3 : parB (rAt zs i.toNat) (mAt zs i.toNat) k = true) (h4 : sysB (sptL zs i.toNat k) = true) :
    ((sptL zs i.toNat k).length : Int) = (zs.length : Int) + k - 1 ∧ samB zs (sptL zs i.toNat k) = true ∧ exaB (sptL zs i.toNat k) = exaB zs := by
  have hk : 1 ≤ k := by
    unfold parB at h3
    simp only [Bool.and_eq_true, decide_eq_true_eq] at h3
    omega
  obtain ⟨K, rfl⟩ := Int.eq_ofNat_of_zero_le (show 0 ≤ k by omega)
  have hi : i.toNat < zs.length := by omega
  have hl := spt_length (zs := zs) (i := i.toNat) (K := K) hi
  obtain ⟨a1, a2⟩ := spt_sam h1 h4 hi (by omega)
  obtain ⟨b1, b2⟩ := sam_factsF a1
  refine ⟨by omega, b1, ?_⟩
  unfold exaB
  rw [a2, b2]
end Go.Proofs.YtndcbbnocaehaaaGreatDoor
