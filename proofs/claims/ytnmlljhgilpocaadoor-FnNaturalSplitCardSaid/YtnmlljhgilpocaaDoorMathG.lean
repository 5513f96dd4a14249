/- What is left when a spare class goes: the same cover. -/
import Derived.Test.YtnmlljhgilpocaaDoorMathD
import Derived.Test.YtnmlljhgilpocaaDoorMathE
import Derived.Test.YtnmlljhgilpocaaDoorMz2
import Derived.Test.YtnmlljhgilpocaaDoorMgF
import Derived.Test.YtnmlljhgilpocaaDoorMg3
namespace Go.Proofs.YtnmlljhgilpocaaDoor
open Go.RowKit
theorem cov_erase {zs : List Cl} {i : Nat} (hi : i < zs.length) (x : Int) : covB zs x = (covB (zs.eraseIdx i) x || (x % mAt zs i == rAt zs i)) := by
  have e : zs = zs.take i ++ (rAt zs i, mAt zs i) :: zs.drop (i + 1) := by rw [← drop_cl zs i hi, List.take_append_drop]
  rw [covB_any, covB_any, List.eraseIdx_eq_take_drop_succ, List.any_append]
  conv => lhs; rw [e, List.any_append, List.any_cons]
  cases (x % mAt zs i == rAt zs i) <;> cases (List.any (zs.take i) fun c => x % c.2 == c.1) <;> cases (List.any (zs.drop (i + 1)) fun c => x % c.2 == c.1) <;> rfl
theorem spare_cov {E : Int} {zs : List Cl} {i : Nat} (hD : Div E zs) (hi : i < zs.length) (h : spaB zs i E = true) (x : Int) : covB (zs.eraseIdx i) x = covB zs x := by
  rw [cov_erase hi]
  cases hm : (x % mAt zs i == rAt zs i)
  · simp
  · obtain ⟨hin, hdv⟩ := hD.at hi
    obtain ⟨m1, _, r1, _⟩ := inB_iff.1 hin
    have hk := (spaB_iff hin hD.2.1).1 h
    have hx0 : 0 ≤ x % E := Int.emod_nonneg x (by have := hD.1; omega)
    have hx1 : x % E < E := Int.emod_lt_of_pos x (by have := hD.1; omega)
    have hxm : x % E % mAt zs i = rAt zs i := by
      rw [Int.emod_emod_of_dvd x hdv]
      simpa using hm
    have hy : rAt zs i + (((x % E / mAt zs i).toNat : Nat) : Int) * mAt zs i = x % E := by
      have hd := Int.emod_add_mul_ediv (x % E) (mAt zs i)
      rw [hxm] at hd
      rw [Int.toNat_of_nonneg (Int.ediv_nonneg hx0 (by omega)), Int.mul_comm]
      exact hd
    have := hk (x % E / mAt zs i).toNat (by rw [hy]; exact hx1)
    rw [hy, cov_mod fun c hc => ((hD.erase i).2.2 c hc).2] at this
    rw [this]
    rfl
theorem cov_nil (x : Int) : covB [] x = false := rfl
theorem spare_left {E : Int} {zs : List Cl} {i : Nat} (hD : Div E zs) (hi : i < zs.length) (h : spaB zs i E = true) : 1 ≤ (zs.eraseIdx i).length := by
  cases hl : zs.eraseIdx i with
  | nil =>
    have h1 := spare_cov hD hi h (rAt zs i)
    obtain ⟨hin, _⟩ := hD.at hi
    obtain ⟨m1, _, r1, r2⟩ := inB_iff.1 hin
    rw [cov_erase hi, hl, cov_nil, Int.emod_eq_of_lt r1 r2] at h1
    simp at h1
  | cons c t => simp
theorem div_sys {E : Int} {zs : List Cl} (hD : Div E zs) (h : 1 ≤ zs.length ∧ zs.length ≤ 8) : sysB zs = true := by
  obtain ⟨q, hq, _⟩ := perO_sub hD.1 hD.2.1 hD.2.2 1 (by omega) (Int.one_dvd _)
  exact sysB_t h hq
theorem cnt_cov {zs ys : List Cl} {x : Int} (h : covB zs x = covB ys x) : (cntN zs x == 0) = (cntN ys x == 0) := by
  rw [covB_cnt, covB_cnt] at h
  revert h
  cases (cntN zs x == 0) <;> cases (cntN ys x == 0) <;> simp
theorem sam_of {zs ys : List Cl} (hs : sysB zs = true) (hy : sysB ys = true) (hd : perI ys ∣ perI zs) (hc : ∀ x, covB ys x = covB zs x) : samB zs ys = true := by
  obtain ⟨_, _, _, _, P1, P2⟩ := sysB_facts hs
  obtain ⟨_, _, _, _, Q1, _⟩ := sysB_facts hy
  have h1 := lcmI_dvd (show 0 ≤ perI zs by omega) (show 0 ≤ perI ys by omega) (Int.dvd_refl _) hd
  have h2 := Int.le_of_dvd (by omega) h1
  unfold samB comB
  rw [hs, hy, holK_same fun j _ => cnt_cov (hc j).symm]
  simp
  omega
theorem spare_sam {zs : List Cl} (hs : sysB zs = true) {i : Nat} (hi : i < zs.length) (h : spaB zs i (perI zs) = true) : sysB (zs.eraseIdx i) = true ∧ samB zs (zs.eraseIdx i) = true := by
  have hD := Div.sys hs
  obtain ⟨l1, l2, _⟩ := sysB_facts hs
  have h1 := spare_left hD hi h
  have h2 : (zs.eraseIdx i).length ≤ 8 := Nat.le_trans (List.length_eraseIdx_le _ _) l2
  have h3 := div_sys (hD.erase i) ⟨h1, h2⟩
  exact ⟨h3, sam_of hs h3 (hD.erase i).per.1 (spare_cov hD hi h)⟩
theorem spl_mem {zs : List Cl} {E : Int} (k : Nat) : ∀ y ∈ splK zs E k, ∃ i : Nat, i < k ∧ y = i ∧ spaB zs i E = true := by
  induction k with
  | zero => intro y hy; cases hy
  | succ k ih =>
    intro y hy
    simp only [splK] at hy
    cases he : spaB zs k E
    · rw [he, cond_false] at hy
      obtain ⟨i, h1, h2⟩ := ih y hy
      exact ⟨i, by omega, h2⟩
    · rw [he, cond_true] at hy
      rcases List.mem_append.1 hy with hy | hy
      · obtain ⟨i, h1, h2⟩ := ih y hy
        exact ⟨i, by omega, h2⟩
      · exact ⟨k, by omega, by simpa using hy, he⟩
end Go.Proofs.YtnmlljhgilpocaaDoor
