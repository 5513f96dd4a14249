/- What the promise laws of the systems draw: a list, and no reader stays. -/
import Derived.Test.YtonecelkkeakiaaGreatDoorD8
import Derived.Test.YtonecelkkeakiaaGreatDoorMz11
import Derived.Test.YtonecelkkeakiaaGreatDoorMathA
import Derived.Test.YtonecelkkeakiaaGreatDoorMz12
import Derived.Test.YtonecelkkeakiaaGreatDoorMz3
import Derived.Test.YtonecelkkeakiaaGreatDoorMz10
namespace Go.Proofs.YtonecelkkeakiaaGreatDoor
open Go.RowKit
def DrawnS (w : World) (e : Ending) (w' : World) : Prop := ∃ v zs, e = .returned v ∧ OwnC w' w.heap.size 41 v zs ∧ zs.length ≤ 9 ∧ Below w.heap.size w w'
theorem c_l91Some (s : Option Addr) (len cap : Nat) (w : World) (h : Code0 w s len cap) : Calls Tryz.prog 34 #[.slice s len cap] w (DrawnS w) := by
  go_enter Tryz.func34, Tryz.ntmps34
  go_wp2_with fail
  refine (c_l6Open s len cap _ h).mono ?_
  rintro e w2 ⟨B, s', len', hB, rfl, hR2, hb2⟩
  go_wp2_with fail
  refine (c_l91System hR2 (by omega)).mono ?_
  rintro e w3 ⟨v, zs, p', rfl, hO3, hl3, hR3, hp3, hQ3⟩
  have hb3 := hb2.trans (oth_below hQ3 hR2)
  have hO := hO3.low hb2.size
  clear hO3
  go_wp2_with fail
  go_ret
  exact ⟨_, zs, rfl, hO, hl3, hb3⟩
theorem c_DrawSystemShare (s : Option Addr) (len cap : Nat) (w : World) (h : Code0 w s len cap) : Calls Tryz.prog 13 #[.slice s len cap] w (DrawnS w) := by
  go_enter Tryz.func13, Tryz.ntmps13
  go_wp2_with fail
  refine (c_l91Some s len cap _ h).mono ?_
  rintro e w2 ⟨v, zs, rfl, hO, hl, hb⟩
  go_wp2_with fail
  go_ret
  exact ⟨_, zs, rfl, hO, hl, hb⟩
end Go.Proofs.YtonecelkkeakiaaGreatDoor
namespace Go.Proofs.YtonecelkkeakiaaGreatDoor
theorem perO_sub {E : Int} (h1 : 1 ≤ E) (h2 : E ≤ 1000) {zs : List Cl} (h : ∀ c ∈ zs, inB c.1 c.2 = true ∧ c.2 ∣ E) : ∀ p : Int, 1 ≤ p → p ∣ E → ∃ q, perO p zs = some q ∧ q ∣ E ∧ 1 ≤ q := by
  induction zs with
  | nil => exact fun p hp hd => ⟨p, rfl, hd, hp⟩
  | cons c t ih =>
    intro p hp hd
    obtain ⟨hi, hc⟩ := h c List.mem_cons_self
    obtain ⟨m1, _, _, _⟩ := inB_iff.1 hi
    have hl := lcmI_dvd (show 0 ≤ p by omega) (show 0 ≤ c.2 by omega) hd hc
    have hle := Int.le_of_dvd (by omega) hl
    obtain ⟨q, hq, hqd, hq1⟩ := ih (fun x hx => h x (List.mem_cons_of_mem _ hx)) (lcmI p c.2) (lcmI_pos hp m1).1 hl
    refine ⟨q, ?_, hqd, hq1⟩
    unfold perO
    rw [if_pos ⟨hi, by omega⟩]
    exact hq
/-- its moduli divide E -/
def Div (E : Int) (zs : List Cl) : Prop := 1 ≤ E ∧ E ≤ 1000 ∧ ∀ c ∈ zs, inB c.1 c.2 = true ∧ c.2 ∣ E
theorem Div.all {E : Int} {zs : List Cl} (h : Div E zs) : allB zs = true := List.all_eq_true.2 fun c hc => (h.2.2 c hc).1
theorem Div.per {E : Int} {zs : List Cl} (h : Div E zs) : perI zs ∣ E ∧ 1 ≤ perI zs ∧ perI zs ≤ 1000 ∧ ∀ c ∈ zs, c.2 ∣ perI zs := by
  obtain ⟨q, hq, hqd, hq1⟩ := perO_sub h.1 h.2.1 h.2.2 1 (by omega) (Int.one_dvd E)
  have e : perI zs = q := by simp [perI, hq]
  rw [e]
  refine ⟨hqd, hq1, ?_, (perO_dvd hq (by omega)).2⟩
  have := Int.le_of_dvd (by have := h.1; omega) hqd
  have := h.2.1
  omega
theorem Div.erase {E : Int} {zs : List Cl} (h : Div E zs) (i : Nat) : Div E (zs.eraseIdx i) := ⟨h.1, h.2.1, fun c hc => h.2.2 c (List.eraseIdx_subset hc)⟩
theorem Div.sys {zs : List Cl} (h : sysB zs = true) : Div (perI zs) zs := by
  obtain ⟨_, _, ha, ho, P1, P2⟩ := sysB_facts h
  exact ⟨P1, P2, fun c hc => ⟨List.all_eq_true.1 ha c hc, (perO_dvd ho (by omega)).2 c hc⟩⟩
theorem Div.at {E : Int} {zs : List Cl} (h : Div E zs) {i : Nat} (hi : i < zs.length) : inB (rAt zs i) (mAt zs i) = true ∧ mAt zs i ∣ E := by
  have := h.2.2 zs[i] (List.getElem_mem hi)
  simpa [rAt, mAt, hi] using this
theorem cov_mod {P x : Int} {zs : List Cl} (h : ∀ c ∈ zs, c.2 ∣ P) : covB zs (x % P) = covB zs x := by
  rw [covB_any, covB_any, Bool.eq_iff_iff]
  simp only [List.any_eq_true]
  constructor
  · rintro ⟨c, hc, h1⟩
    exact ⟨c, hc, by rwa [Int.emod_emod_of_dvd x (h c hc)] at h1⟩
  · rintro ⟨c, hc, h1⟩
    exact ⟨c, hc, by rwa [Int.emod_emod_of_dvd x (h c hc)]⟩
theorem spaB_of {E P : Int} {zs : List Cl} {i : Nat} (hE : Div E zs) (hP : Div P zs) (hPE : P ∣ E) (hi : i < zs.length) : spaB zs i E = spaB zs i P := by
  obtain ⟨hin, _⟩ := hE.at hi
  obtain ⟨_, hmP⟩ := hP.at hi
  obtain ⟨m1, _, r1, r2⟩ := inB_iff.1 hin
  have P1 := hP.1
  have hle := Int.le_of_dvd (by have := hE.1; omega) hPE
  rw [Bool.eq_iff_iff, spaB_iff hin hE.2.1, spaB_iff hin hP.2.1]
  constructor
  · exact fun H j hj => H j (by omega)
  · intro H j _
    have hx0 : 0 ≤ (rAt zs i + (j : Int) * mAt zs i) % P := Int.emod_nonneg _ (by omega)
    have hx1 : (rAt zs i + (j : Int) * mAt zs i) % P < P := Int.emod_lt_of_pos _ (by omega)
    have hxm : (rAt zs i + (j : Int) * mAt zs i) % P % mAt zs i = rAt zs i := by
      rw [Int.emod_emod_of_dvd _ hmP, Int.add_mul_emod_self_right, Int.emod_eq_of_lt r1 r2]
    rw [← cov_mod (P := P) (fun c hc => (hP.2.2 c (List.eraseIdx_subset hc)).2)]
    generalize (rAt zs i + (j : Int) * mAt zs i) % P = y at hx0 hx1 hxm
    have hd := Int.emod_add_mul_ediv y (mAt zs i)
    rw [hxm] at hd
    have hq : 0 ≤ y / mAt zs i := Int.ediv_nonneg hx0 (by omega)
    have hy : rAt zs i + (((y / mAt zs i).toNat : Nat) : Int) * mAt zs i = y := by
      rw [Int.toNat_of_nonneg hq, Int.mul_comm]; exact hd
    have := H (y / mAt zs i).toNat (by rw [hy]; exact hx1)
    rwa [hy] at this
theorem spaB_per {E : Int} {zs : List Cl} {i : Nat} (hE : Div E zs) (hi : i < zs.length) : spaB zs i (perI zs) = spaB zs i E := by
  obtain ⟨h1, h2, h3, h4⟩ := hE.per
  exact (spaB_of hE ⟨h2, h3, fun c hc => ⟨(hE.2.2 c hc).1, h4 c hc⟩⟩ h1 hi).symm
/-- the last of the first k places that is spare -/
def topS (zs : List Cl) (E : Int) : Nat → Option Nat
  | 0 => none
  | k + 1 => bif spaB zs k E then some k else topS zs E k
theorem topS_lt {zs : List Cl} {E : Int} {k i : Nat} (h : topS zs E k = some i) : i < k := by
  induction k with
  | zero => cases h
  | succ k ih =>
    simp only [topS] at h
    cases hs : spaB zs k E
    · rw [hs, cond_false] at h
      have := ih h
      omega
    · rw [hs, cond_true] at h
      cases h
      omega
def les : Nat → Int → List Cl → List Cl
  | 0, _, zs => zs
  | f + 1, E, zs => match topS zs E zs.length with
    | none => zs
    | some i => les f E (zs.eraseIdx i)
def lesL (E : Int) (zs : List Cl) : List Cl := les zs.length E zs
theorem lesL_none {E : Int} {zs : List Cl} (h : topS zs E zs.length = none) : lesL E zs = zs := by
  unfold lesL
  cases hl : zs.length with
  | zero => rfl
  | succ f =>
    rw [hl] at h
    simp only [les, hl, h]
theorem lesL_some {E : Int} {zs : List Cl} {i : Nat} (h : topS zs E zs.length = some i) : lesL E zs = lesL E (zs.eraseIdx i) := by
  have hi := topS_lt h
  unfold lesL
  rw [List.length_eraseIdx_of_lt hi]
  cases hl : zs.length with
  | zero => omega
  | succ f =>
    rw [hl] at h
    simp only [les, hl, h, Nat.add_sub_cancel]
theorem lesL_len (E : Int) (zs : List Cl) : (lesL E zs).length ≤ zs.length := by
  have : ∀ f (zs : List Cl), (les f E zs).length ≤ zs.length := by
    intro f
    induction f with
    | zero => intro zs; exact Nat.le_refl _
    | succ f ih =>
      intro zs
      simp only [les]
      split
      · exact Nat.le_refl _
      · refine Nat.le_trans (ih _) ?_
        exact List.length_eraseIdx_le _ _
  exact this _ _
theorem splK_none {zs : List Cl} {E : Int} {k : Nat} (h : topS zs E k = none) : splK zs E k = [] := by
  induction k with
  | zero => rfl
  | succ k ih =>
    simp only [topS] at h
    simp only [splK]
    cases hs : spaB zs k E
    · rw [hs, cond_false] at h
      rw [cond_false]
      exact ih h
    · rw [hs, cond_true] at h; cases h
theorem splK_some {zs : List Cl} {E : Int} {k i : Nat} (h : topS zs E k = some i) : ∃ l, splK zs E k = l ++ [(i : Int)] := by
  induction k with
  | zero => cases h
  | succ k ih =>
    simp only [topS] at h
    simp only [splK]
    cases hs : spaB zs k E
    · rw [hs, cond_false] at h
      rw [cond_false]
      exact ih h
    · rw [hs, cond_true] at h
      cases h
      exact ⟨_, rfl⟩
end Go.Proofs.YtonecelkkeakiaaGreatDoor
namespace Go.Proofs.YtonecelkkeakiaaGreatDoor
open Go.RowKit
theorem cov_erase {zs : List Cl} {i : Nat} (hi : i < zs.length) (x : Int) : covB zs x = (covB (zs.eraseIdx i) x || (x % mAt zs i == rAt zs i)) := by
  have e : zs = zs.take i ++ (rAt zs i, mAt zs i) :: zs.drop (i + 1) := by rw [← drop_cl zs i hi, List.take_append_drop]
  rw [covB_any, covB_any, List.eraseIdx_eq_take_drop_succ, List.any_append]
  conv => lhs; rw [e, List.any_append, List.any_cons]
  cases (x % mAt zs i == rAt zs i) <;> cases (List.any (zs.take i) fun c => x % c.2 == c.1) <;> cases (List.any (zs.drop (i + 1)) fun c => x % c.2 == c.1) <;> rfl
theorem spare_cov {E : Int} {zs : List Cl} {i : Nat} (hD : Div E zs) (hi : i < zs.length) (h : spaB zs i E = true) (x : Int) : covB (zs.eraseIdx i) x = covB zs x := by
  rw [cov_erase hi]
  cases hm : (x % mAt zs i == rAt zs i)
  · simp
  · obtain ⟨hin, hdv⟩ := hD.at hi
    obtain ⟨m1, _, r1, _⟩ := inB_iff.1 hin
    have hk := (spaB_iff hin hD.2.1).1 h
    have hx0 : 0 ≤ x % E := Int.emod_nonneg x (by have := hD.1; omega)
    have hx1 : x % E < E := Int.emod_lt_of_pos x (by have := hD.1; omega)
    have hxm : x % E % mAt zs i = rAt zs i := by
      rw [Int.emod_emod_of_dvd x hdv]
      simpa using hm
    have hy : rAt zs i + (((x % E / mAt zs i).toNat : Nat) : Int) * mAt zs i = x % E := by
      have hd := Int.emod_add_mul_ediv (x % E) (mAt zs i)
      rw [hxm] at hd
      rw [Int.toNat_of_nonneg (Int.ediv_nonneg hx0 (by omega)), Int.mul_comm]
      exact hd
    have := hk (x % E / mAt zs i).toNat (by rw [hy]; exact hx1)
    rw [hy, cov_mod fun c hc => ((hD.erase i).2.2 c hc).2] at this
    rw [this]
    rfl
theorem cov_nil (x : Int) : covB [] x = false := rfl
theorem spare_left {E : Int} {zs : List Cl} {i : Nat} (hD : Div E zs) (hi : i < zs.length) (h : spaB zs i E = true) : 1 ≤ (zs.eraseIdx i).length := by
  cases hl : zs.eraseIdx i with
  | nil =>
    have h1 := spare_cov hD hi h (rAt zs i)
    obtain ⟨hin, _⟩ := hD.at hi
    obtain ⟨m1, _, r1, r2⟩ := inB_iff.1 hin
    rw [cov_erase hi, hl, cov_nil, Int.emod_eq_of_lt r1 r2] at h1
    simp at h1
  | cons c t => simp
theorem div_sys {E : Int} {zs : List Cl} (hD : Div E zs) (h : 1 ≤ zs.length ∧ zs.length ≤ 8) : sysB zs = true := by
  obtain ⟨q, hq, _⟩ := perO_sub hD.1 hD.2.1 hD.2.2 1 (by omega) (Int.one_dvd _)
  exact sysB_t h hq
theorem cnt_cov {zs ys : List Cl} {x : Int} (h : covB zs x = covB ys x) : (cntN zs x == 0) = (cntN ys x == 0) := by
  rw [covB_cnt, covB_cnt] at h
  revert h
  cases (cntN zs x == 0) <;> cases (cntN ys x == 0) <;> simp
theorem sam_of {zs ys : List Cl} (hs : sysB zs = true) (hy : sysB ys = true) (hd : perI ys ∣ perI zs) (hc : ∀ x, covB ys x = covB zs x) : samB zs ys = true := by
  obtain ⟨_, _, _, _, P1, P2⟩ := sysB_facts hs
  obtain ⟨_, _, _, _, Q1, _⟩ := sysB_facts hy
  have h1 := lcmI_dvd (show 0 ≤ perI zs by omega) (show 0 ≤ perI ys by omega) (Int.dvd_refl _) hd
  have h2 := Int.le_of_dvd (by omega) h1
  unfold samB comB
  rw [hs, hy, holK_same fun j _ => cnt_cov (hc j).symm]
  simp
  omega
theorem spare_sam {zs : List Cl} (hs : sysB zs = true) {i : Nat} (hi : i < zs.length) (h : spaB zs i (perI zs) = true) : sysB (zs.eraseIdx i) = true ∧ samB zs (zs.eraseIdx i) = true := by
  have hD := Div.sys hs
  obtain ⟨l1, l2, _⟩ := sysB_facts hs
  have h1 := spare_left hD hi h
  have h2 : (zs.eraseIdx i).length ≤ 8 := Nat.le_trans (List.length_eraseIdx_le _ _) l2
  have h3 := div_sys (hD.erase i) ⟨h1, h2⟩
  exact ⟨h3, sam_of hs h3 (hD.erase i).per.1 (spare_cov hD hi h)⟩
theorem spl_mem {zs : List Cl} {E : Int} (k : Nat) : ∀ y ∈ splK zs E k, ∃ i : Nat, i < k ∧ y = i ∧ spaB zs i E = true := by
  induction k with
  | zero => intro y hy; cases hy
  | succ k ih =>
    intro y hy
    simp only [splK] at hy
    cases he : spaB zs k E
    · rw [he, cond_false] at hy
      obtain ⟨i, h1, h2⟩ := ih y hy
      exact ⟨i, by omega, h2⟩
    · rw [he, cond_true] at hy
      rcases List.mem_append.1 hy with hy | hy
      · obtain ⟨i, h1, h2⟩ := ih y hy
        exact ⟨i, by omega, h2⟩
      · exact ⟨k, by omega, by simpa using hy, he⟩
end Go.Proofs.YtonecelkkeakiaaGreatDoor
namespace Go.Proofs.YtonecelkkeakiaaGreatDoor
open Go.RowKit
theorem srt_sam {zs : List Cl} (hs : sysB zs = true) : sysB (srtL zs) = true ∧ samB zs (srtL zs) = true ∧ srtR (srtL zs) = srtL zs := by
  obtain ⟨l1, l2, _⟩ := sysB_facts hs
  have hD := Div.sys hs
  have hP := srtL_perm zs
  have hD2 : Div (perI zs) (srtL zs) := ⟨hD.1, hD.2.1, fun c hc => hD.2.2 c (hP.subset hc)⟩
  have hs2 := div_sys hD2 (by rw [srtL_length]; exact ⟨l1, l2⟩)
  refine ⟨hs2, sam_of hs hs2 hD2.per.1 (fun x => covB_perm hP x), ?_⟩
  rw [srtR_t hs2]
  exact (srtL_of (List.Perm.refl _) (srtL_asc zs)).symm
end Go.Proofs.YtonecelkkeakiaaGreatDoor
