/- Parts of a system: their periods divide its own, so what is spare below one period is spare below the other; what is left when spare classes are left out. -/
import Derived.Test.YtgdpebnnmklbjaaMg3
import Derived.Test.YtgdpebnnmklbjaaMathA
namespace Go.Proofs.Ytgdpebnnmklbjaa
theorem perO_sub {E : Int} (h1 : 1 ≤ E) (h2 : E ≤ 1000) {zs : List Cl} (h : ∀ c ∈ zs, inB c.1 c.2 = true ∧ c.2 ∣ E) : ∀ p : Int, 1 ≤ p → p ∣ E → ∃ q, perO p zs = some q ∧ q ∣ E ∧ 1 ≤ q := by
  induction zs with
  | nil => exact fun p hp hd => ⟨p, rfl, hd, hp⟩
  | cons c t ih =>
    intro p hp hd
    obtain ⟨hi, hc⟩ := h c List.mem_cons_self
    obtain ⟨m1, _, _, _⟩ := inB_iff.1 hi
    have hl := lcmI_dvd (show 0 ≤ p by omega) (show 0 ≤ c.2 by omega) hd hc
    have hle := Int.le_of_dvd (by omega) hl
    obtain ⟨q, hq, hqd, hq1⟩ := ih (fun x hx => h x (List.mem_cons_of_mem _ hx)) (lcmI p c.2) (lcmI_pos hp m1).1 hl
    refine ⟨q, ?_, hqd, hq1⟩
    unfold perO
    rw [if_pos ⟨hi, by omega⟩]
    exact hq
/-- its moduli divide E -/
def Div (E : Int) (zs : List Cl) : Prop := 1 ≤ E ∧ E ≤ 1000 ∧ ∀ c ∈ zs, inB c.1 c.2 = true ∧ c.2 ∣ E
theorem Div.all {E : Int} {zs : List Cl} (h : Div E zs) : allB zs = true := List.all_eq_true.2 fun c hc => (h.2.2 c hc).1
theorem Div.per {E : Int} {zs : List Cl} (h : Div E zs) : perI zs ∣ E ∧ 1 ≤ perI zs ∧ perI zs ≤ 1000 ∧ ∀ c ∈ zs, c.2 ∣ perI zs := by
  obtain ⟨q, hq, hqd, hq1⟩ := perO_sub h.1 h.2.1 h.2.2 1 (by omega) (Int.one_dvd E)
  have e : perI zs = q := by simp [perI, hq]
  rw [e]
  refine ⟨hqd, hq1, ?_, (perO_dvd hq (by omega)).2⟩
  have := Int.le_of_dvd (by have := h.1; omega) hqd
  have := h.2.1
  omega
theorem Div.erase {E : Int} {zs : List Cl} (h : Div E zs) (i : Nat) : Div E (zs.eraseIdx i) := ⟨h.1, h.2.1, fun c hc => h.2.2 c (List.eraseIdx_subset hc)⟩
theorem Div.sys {zs : List Cl} (h : sysB zs = true) : Div (perI zs) zs := by
  obtain ⟨_, _, ha, ho, P1, P2⟩ := sysB_facts h
  exact ⟨P1, P2, fun c hc => ⟨List.all_eq_true.1 ha c hc, (perO_dvd ho (by omega)).2 c hc⟩⟩
theorem Div.at {E : Int} {zs : List Cl} (h : Div E zs) {i : Nat} (hi : i < zs.length) : inB (rAt zs i) (mAt zs i) = true ∧ mAt zs i ∣ E := by
  have := h.2.2 zs[i] (List.getElem_mem hi)
  simpa [rAt, mAt, hi] using this
theorem cov_mod {P x : Int} {zs : List Cl} (h : ∀ c ∈ zs, c.2 ∣ P) : covB zs (x % P) = covB zs x := by
  rw [covB_any, covB_any, Bool.eq_iff_iff]
  simp only [List.any_eq_true]
  constructor
  · rintro ⟨c, hc, h1⟩
    exact ⟨c, hc, by rwa [Int.emod_emod_of_dvd x (h c hc)] at h1⟩
  · rintro ⟨c, hc, h1⟩
    exact ⟨c, hc, by rwa [Int.emod_emod_of_dvd x (h c hc)]⟩
theorem spaB_of {E P : Int} {zs : List Cl} {i : Nat} (hE : Div E zs) (hP : Div P zs) (hPE : P ∣ E) (hi : i < zs.length) : spaB zs i E = spaB zs i P := by
  obtain ⟨hin, _⟩ := hE.at hi
  obtain ⟨_, hmP⟩ := hP.at hi
  obtain ⟨m1, _, r1, r2⟩ := inB_iff.1 hin
  have P1 := hP.1
  have hle := Int.le_of_dvd (by have := hE.1; omega) hPE
  rw [Bool.eq_iff_iff, spaB_iff hin hE.2.1, spaB_iff hin hP.2.1]
  constructor
  · exact fun H j hj => H j (by omega)
  · intro H j _
    have hx0 : 0 ≤ (rAt zs i + (j : Int) * mAt zs i) % P := Int.emod_nonneg _ (by omega)
    have hx1 : (rAt zs i + (j : Int) * mAt zs i) % P < P := Int.emod_lt_of_pos _ (by omega)
    have hxm : (rAt zs i + (j : Int) * mAt zs i) % P % mAt zs i = rAt zs i := by
      rw [Int.emod_emod_of_dvd _ hmP, Int.add_mul_emod_self_right, Int.emod_eq_of_lt r1 r2]
    rw [← cov_mod (P := P) (fun c hc => (hP.2.2 c (List.eraseIdx_subset hc)).2)]
    generalize (rAt zs i + (j : Int) * mAt zs i) % P = y at hx0 hx1 hxm
    have hd := Int.emod_add_mul_ediv y (mAt zs i)
    rw [hxm] at hd
    have hq : 0 ≤ y / mAt zs i := Int.ediv_nonneg hx0 (by omega)
    have hy : rAt zs i + (((y / mAt zs i).toNat : Nat) : Int) * mAt zs i = y := by
      rw [Int.toNat_of_nonneg hq, Int.mul_comm]; exact hd
    have := H (y / mAt zs i).toNat (by rw [hy]; exact hx1)
    rwa [hy] at this
theorem spaB_per {E : Int} {zs : List Cl} {i : Nat} (hE : Div E zs) (hi : i < zs.length) : spaB zs i (perI zs) = spaB zs i E := by
  obtain ⟨h1, h2, h3, h4⟩ := hE.per
  exact (spaB_of hE ⟨h2, h3, fun c hc => ⟨(hE.2.2 c hc).1, h4 c hc⟩⟩ h1 hi).symm
/-- the last of the first k places that is spare -/
def topS (zs : List Cl) (E : Int) : Nat → Option Nat
  | 0 => none
  | k + 1 => bif spaB zs k E then some k else topS zs E k
theorem topS_lt {zs : List Cl} {E : Int} {k i : Nat} (h : topS zs E k = some i) : i < k := by
  induction k with
  | zero => cases h
  | succ k ih =>
    simp only [topS] at h
    cases hs : spaB zs k E
    · rw [hs, cond_false] at h
      have := ih h
      omega
    · rw [hs, cond_true] at h
      cases h
      omega
def les : Nat → Int → List Cl → List Cl
  | 0, _, zs => zs
  | f + 1, E, zs => match topS zs E zs.length with
    | none => zs
    | some i => les f E (zs.eraseIdx i)
def lesL (E : Int) (zs : List Cl) : List Cl := les zs.length E zs
theorem lesL_none {E : Int} {zs : List Cl} (h : topS zs E zs.length = none) : lesL E zs = zs := by
  unfold lesL
  cases hl : zs.length with
  | zero => rfl
  | succ f =>
    rw [hl] at h
    simp only [les, hl, h]
theorem lesL_some {E : Int} {zs : List Cl} {i : Nat} (h : topS zs E zs.length = some i) : lesL E zs = lesL E (zs.eraseIdx i) := by
  have hi := topS_lt h
  unfold lesL
  rw [List.length_eraseIdx_of_lt hi]
  cases hl : zs.length with
  | zero => omega
  | succ f =>
    rw [hl] at h
    simp only [les, hl, h, Nat.add_sub_cancel]
theorem lesL_len (E : Int) (zs : List Cl) : (lesL E zs).length ≤ zs.length := by
  have : ∀ f (zs : List Cl), (les f E zs).length ≤ zs.length := by
    intro f
    induction f with
    | zero => intro zs; exact Nat.le_refl _
    | succ f ih =>
      intro zs
      simp only [les]
      split
      · exact Nat.le_refl _
      · refine Nat.le_trans (ih _) ?_
        exact List.length_eraseIdx_le _ _
  exact this _ _
theorem splK_none {zs : List Cl} {E : Int} {k : Nat} (h : topS zs E k = none) : splK zs E k = [] := by
  induction k with
  | zero => rfl
  | succ k ih =>
    simp only [topS] at h
    simp only [splK]
    cases hs : spaB zs k E
    · rw [hs, cond_false] at h
      rw [cond_false]
      exact ih h
    · rw [hs, cond_true] at h; cases h
theorem splK_some {zs : List Cl} {E : Int} {k i : Nat} (h : topS zs E k = some i) : ∃ l, splK zs E k = l ++ [(i : Int)] := by
  induction k with
  | zero => cases h
  | succ k ih =>
    simp only [topS] at h
    simp only [splK]
    cases hs : spaB zs k E
    · rw [hs, cond_false] at h
      rw [cond_false]
      exact ih h
    · rw [hs, cond_true] at h
      cases h
      exact ⟨_, rfl⟩
end Go.Proofs.Ytgdpebnnmklbjaa
