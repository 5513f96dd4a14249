/- Numbers told by rests: each number by its rests alone. -/
import Derived.Test.YtnbejgbkabaleaaBg
namespace Go.Proofs.Ytnbejgbkabaleaa
open Go.RowKit
theorem two_unique {a b P M : Int} (hP : 1 ≤ P) (hM : 1 ≤ M) (hg : Nat.gcd P.toNat M.toNat = 1) (ha : 0 ≤ a ∧ a < P * M) (hb : 0 ≤ b ∧ b < P * M) (h1 : a % P = b % P) (h2 : a % M = b % M) : a = b := by
  have d1 : P ∣ a - b := Int.dvd_of_emod_eq_zero (Int.emod_eq_emod_iff_emod_sub_eq_zero.1 h1)
  have d2 : M ∣ a - b := Int.dvd_of_emod_eq_zero (Int.emod_eq_emod_iff_emod_sub_eq_zero.1 h2)
  obtain ⟨p, rfl⟩ := Int.eq_ofNat_of_zero_le (show 0 ≤ P by omega)
  obtain ⟨m, rfl⟩ := Int.eq_ofNat_of_zero_le (show 0 ≤ M by omega)
  simp only [Int.toNat_natCast] at hg
  have e1 := Int.natAbs_dvd_natAbs.2 d1
  have e2 := Int.natAbs_dvd_natAbs.2 d2
  simp only [Int.natAbs_natCast] at e1 e2
  have e3 : p * m ∣ (a - b).natAbs := Nat.Coprime.mul_dvd_of_dvd_of_dvd hg e1 e2
  have hlt : (a - b).natAbs < p * m := by
    have : ((p * m : Nat) : Int) = (p : Int) * m := Int.natCast_mul p m
    omega
  have := Nat.eq_zero_of_dvd_of_lt e3 hlt
  omega
theorem pZ_gcd1 {zs : List Int} (h : basB zs = true) (k : Nat) (hk : k < 4) : Nat.gcd (pZ zs k).toNat (mo zs k).toNat = 1 := by
  have := pZ_cop h k hk
  rw [at4_mo zs k hk] at this
  exact this
theorem num_unique {zs ys : List Int} (h : okZ zs ys = true) {x : Int} (h0 : 0 ≤ x) (h1 : x < sizZ zs) (hr : ∀ i, i < 4 → x % mo zs i = zA ys i) : numZ zs ys = x := by
  have hm := bas_mb (okZ_bas h)
  have key : ∀ k, k ≤ 4 → nuZ zs ys k = x % pZ zs k := by
    intro k
    induction k with
    | zero => intro _; show (0 : Int) = x % 1; rw [Int.emod_one]
    | succ k ih =>
      intro hk
      have i := ih (by omega)
      have hp := pZ_bd hm k (by omega)
      have hp2 := pZ_bd hm (k + 1) hk
      have hb := nuZ_bd h (k + 1) hk
      have hb0 := nuZ_bd h k (by omega)
      have hd := nuZ_dig h k (by omega)
      have he := emod_bd x (pZ zs (k + 1)) hp2.1
      have hs := pZ_succ zs k (by omega)
      rw [hs] at hb he
      refine two_unique hp.1 (hm k).1 (pZ_gcd1 (okZ_bas h) k (by omega)) hb (by rw [hs]; exact he) ?_ ?_
      · rw [nuZ_succ, Int.add_mul_emod_self_right, Int.emod_eq_of_lt hb0.1 hb0.2, i, hs, Int.emod_emod_of_dvd x (Int.dvd_mul_right _ _)]
      · rw [nuZ_succ, hd.2.1, hs, Int.emod_emod_of_dvd x (Int.dvd_mul_left _ _), hr k (by omega)]
  have := key 4 (by omega)
  show nuZ zs ys 4 = x
  rw [this]
  exact Int.emod_eq_of_lt h0 h1
theorem dvd_pZ (zs : List Int) (i j : Nat) (h : i < j) (hj : j ≤ 4) : mo zs i ∣ pZ zs j := by
  induction j with
  | zero => omega
  | succ j ih =>
    rw [pZ_succ zs j (by omega)]
    by_cases e : i = j
    · subst e; exact Int.dvd_mul_left _ _
    · exact Int.dvd_mul_of_dvd_left (ih (by omega) (by omega))
theorem num_rests {zs ys : List Int} (h : okZ zs ys = true) (i : Nat) (hi : i < 4) : numZ zs ys % mo zs i = zA ys i := by
  have key : ∀ j, i < j → j ≤ 4 → nuZ zs ys j % mo zs i = zA ys i := by
    intro j
    induction j with
    | zero => intro h _; omega
    | succ j ih =>
      intro h1 h2
      rw [nuZ_succ]
      by_cases e : i = j
      · subst e; exact (nuZ_dig h i hi).2.1
      · obtain ⟨c, hc⟩ := dvd_pZ zs i j (by omega) (by omega)
        rw [hc, Int.mul_left_comm, Int.add_mul_emod_self_left]
        exact ih (by omega) (by omega)
  exact key 4 hi (Nat.le_refl _)
theorem siz_dvd (zs : List Int) (i : Nat) (hi : i < 4) : mo zs i ∣ sizZ zs := dvd_pZ zs i 4 hi (by omega)
theorem zA_four (f : Nat → Int) (n : Nat) (hn : n ≤ 4) (i : Nat) : zA (four f n) i = bif decide (i < n) then f i else 0 := by
  by_cases h : i < n
  · rw [decide_eq_true h, cond_true]; exact four_get hn h
  · rw [decide_eq_false h, cond_false]; exact zA_out (by rw [four_len hn]; omega)
theorem four_zA {ys : List Int} {n : Nat} (h : ys.length = n) (hn : n ≤ 4) : four (zA ys) n = ys := by
  subst h
  match ys, hn with
  | [], _ => rfl
  | [_], _ => rfl
  | [_, _], _ => rfl
  | [_, _, _], _ => rfl
  | [_, _, _, _], _ => rfl
theorem four_congr {f g : Nat → Int} {n : Nat} (hn : n ≤ 4) (h : ∀ i, i < n → f i = g i) : four f n = four g n := by
  rcases (show n = 0 ∨ n = 1 ∨ n = 2 ∨ n = 3 ∨ n = 4 by omega) with rfl | rfl | rfl | rfl | rfl
  · rfl
  · simp [four, h 0]
  · simp [four, h 0, h 1]
  · simp [four, h 0, h 1, h 2]
  · simp [four, h 0, h 1, h 2, h 3]
/-- rests that a function tells, and their number -/
theorem four_ok {zs : List Int} (h : basB zs = true) {f : Nat → Int} (hf : ∀ i, i < zs.length → 0 ≤ f i ∧ f i < mo zs i) : okZ zs (four f zs.length) = true := by
  have hl := bas_len h
  refine (okZ_t h (four_len hl.2) fun i hi => ?_).symm
  rw [zA_four f _ hl.2, decide_eq_true hi, cond_true]
  exact hf i hi
theorem four_num {zs : List Int} (h : basB zs = true) {f : Nat → Int} {x : Int} (h0 : 0 ≤ x) (h1 : x < sizZ zs) (hf : ∀ i, i < zs.length → x % mo zs i = f i) : okZ zs (four f zs.length) = true ∧ numZ zs (four f zs.length) = x := by
  have hl := bas_len h
  have hm := bas_mb h
  have ho : okZ zs (four f zs.length) = true := four_ok h (fun i hi => by rw [← hf i hi]; exact emod_bd _ _ (hm i).1)
  refine ⟨ho, num_unique ho h0 h1 fun i hi => ?_⟩
  rw [zA_four f _ hl.2]
  by_cases hil : i < zs.length
  · rw [decide_eq_true hil, cond_true]; exact hf i hil
  · rw [decide_eq_false hil, cond_false, mo_out (zs := zs) (i := i) (by omega), Int.emod_one]
theorem rof_num {zs : List Int} {x : Int} (h : ofZ zs x = true) : okZ zs (rofL zs x) = true ∧ numZ zs (rofL zs x) = x := by
  unfold ofZ at h
  simp only [Bool.and_eq_true, decide_eq_true_eq] at h
  exact four_num h.1.1 h.1.2 h.2 fun i _ => rfl
theorem num_of {zs ys : List Int} (h : okZ zs ys = true) : ofZ zs (numZ zs ys) = true ∧ rofL zs (numZ zs ys) = ys := by
  have hn := numZ_bd h
  have hl := bas_len (okZ_bas h)
  refine ⟨by unfold ofZ; rw [okZ_bas h, decide_eq_true hn.1, decide_eq_true hn.2.1]; rfl, ?_⟩
  unfold rofL
  rw [four_congr hl.2 (g := zA ys) (fun i hi => num_rests h i (by omega))]
  exact four_zA (okZ_len h) hl.2
theorem emod_siz {zs : List Int} (x : Int) (i : Nat) (hi : i < 4) : x % sizZ zs % mo zs i = x % mo zs i := Int.emod_emod_of_dvd x (siz_dvd zs i hi)
theorem add_num {zs ys xs : List Int} (h : twoB zs ys xs = true) : okZ zs (four (fun i => (zA ys i + zA xs i) % mo zs i) zs.length) = true ∧ numZ zs (four (fun i => (zA ys i + zA xs i) % mo zs i) zs.length) = (numZ zs ys + numZ zs xs) % sizZ zs := by
  obtain ⟨h1, h2⟩ := twoB_parts h
  have hb := okZ_bas h1
  have hs := numZ_bd h1
  have he := emod_bd (numZ zs ys + numZ zs xs) (sizZ zs) (by omega)
  have hl := (bas_len hb).2
  refine four_num hb he.1 he.2 fun i hi => ?_
  rw [emod_siz _ i (by omega), Int.add_emod, num_rests h1 i (by omega), num_rests h2 i (by omega)]
theorem mul_num {zs ys xs : List Int} (h : twoB zs ys xs = true) : okZ zs (four (fun i => (zA ys i * zA xs i) % mo zs i) zs.length) = true ∧ numZ zs (four (fun i => (zA ys i * zA xs i) % mo zs i) zs.length) = (numZ zs ys * numZ zs xs) % sizZ zs := by
  obtain ⟨h1, h2⟩ := twoB_parts h
  have hb := okZ_bas h1
  have hs := numZ_bd h1
  have he := emod_bd (numZ zs ys * numZ zs xs) (sizZ zs) (by omega)
  have hl := (bas_len hb).2
  refine four_num hb he.1 he.2 fun i hi => ?_
  rw [emod_siz _ i (by omega), Int.mul_emod, num_rests h1 i (by omega), num_rests h2 i (by omega)]
theorem last_rest {zs : List Int} (h : basB zs = true) (i : Nat) (hi : i < 4) : (sizZ zs - 1) % mo zs i = mo zs i - 1 := by
  obtain ⟨c, hc⟩ := siz_dvd zs i hi
  have hm := bas_mb h i
  rw [hc, show mo zs i * c - 1 = (mo zs i - 1) + mo zs i * (c - 1) by rw [Int.mul_sub, Int.mul_one]; omega, Int.add_mul_emod_self_left]
  have := hm.1
  exact Int.emod_eq_of_lt (by omega) (by omega)
end Go.Proofs.Ytnbejgbkabaleaa
