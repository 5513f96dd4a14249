/- Meets of classes: what both systems cover. -/
import Derived.Test.YtfagjhccdbielaaMathM
import Derived.Test.YtfagjhccdbielaaMathH
import Derived.Test.YtfagjhccdbielaaS22
namespace Go.Proofs.Ytfagjhccdbielaa
open Go.RowKit
theorem met_cov {r m s n x : Int} (hc : inB r m = true) (hd : inB s n = true) (hl : lcmI m n ≤ 1000) : (metB m s n r = true → (x % lcmI m n == metX m s n r) = ((x % m == r) && (x % n == s))) ∧ (metB m s n r = false → ((x % m == r) && (x % n == s)) = false) := by
  obtain ⟨m1, _, _, _⟩ := inB_iff.1 hc
  obtain ⟨n1, _, _, _⟩ := inB_iff.1 hd
  have hp := (lcmI_pos m1 n1).1
  have hv := dvd_lcmI (show 0 ≤ m by omega) (show 0 ≤ n by omega)
  have y0 := Int.emod_nonneg x (show lcmI m n ≠ 0 by omega)
  have y1 := Int.emod_lt_of_pos x (show 0 < lcmI m n by omega)
  have em := Int.emod_emod_of_dvd x hv.1
  have en := Int.emod_emod_of_dvd x hv.2
  constructor
  · intro h
    have ht : mtB r m s n = true := by unfold mtB; rw [hc, hd, h]; rfl
    obtain ⟨_, _, _, _, X0, X1, Xm, Xn⟩ := metX_facts ht
    rw [Bool.eq_iff_iff]
    simp only [beq_iff_eq, Bool.and_eq_true]
    constructor
    · intro e
      rw [← em, ← en, e]
      exact ⟨Xm, Xn⟩
    · rintro ⟨e1, e2⟩
      exact met_unique m1 n1 y0 y1 X0 X1 (by rw [em, e1]) Xm (by rw [en, e2]) Xn
  · intro h
    cases hb : ((x % m == r) && (x % n == s))
    · rfl
    · simp only [beq_iff_eq, Bool.and_eq_true] at hb
      have := (met_iff (s := s) hc hl).2 ⟨x % lcmI m n, y0, y1, by rw [em, hb.1], by rw [en, hb.2]⟩
      rw [h] at this
      cases this
theorem covB_app (zs ys : List Cl) (x : Int) : covB (zs ++ ys) x = (covB zs x || covB ys x) := by rw [covB_any, covB_any, covB_any, List.any_append]
theorem mrow_cov {r m : Int} {ys : List Cl} {x : Int} (hc : inB r m = true) (ha : allB ys = true) (hl : ∀ j, j < ys.length → lcmI m (mAt ys j) ≤ 1000) (k : Nat) (hk : k ≤ ys.length) : covB (mrow (r, m) ys k) x = ((x % m == r) && covK ys x k) := by
  induction k with
  | zero => simp [mrow, covK]; rfl
  | succ k ih =>
    have hm := met_cov (x := x) hc (allB_at ha k (by omega)) (hl k (by omega))
    simp only [mrow, covK]
    cases hb : metB m (rAt ys k) (mAt ys k) r
    · have h2 := hm.2 hb
      rw [cond_false, ih (by omega)]
      revert h2
      cases (x % m == r) <;> cases (x % mAt ys k == rAt ys k) <;> cases covK ys x k <;> simp
    · have h2 := hm.1 hb
      rw [cond_true, covB_app, ih (by omega)]
      have e : covB [(metX m (rAt ys k) (mAt ys k) r, lcmI m (mAt ys k))] x = (x % lcmI m (mAt ys k) == metX m (rAt ys k) (mAt ys k) r) := by rw [covB_any]; simp
      rw [e, h2]
      cases (x % m == r) <;> cases (x % mAt ys k == rAt ys k) <;> cases covK ys x k <;> simp
theorem mall_cov {zs ys : List Cl} {x : Int} (ha : allB zs = true) (hb : allB ys = true) (hl : ∀ i, i < zs.length → ∀ j, j < ys.length → lcmI (mAt zs i) (mAt ys j) ≤ 1000) (k : Nat) (hk : k ≤ zs.length) : covB (mall zs ys k) x = (covK zs x k && covB ys x) := by
  induction k with
  | zero => simp [mall, covK]; rfl
  | succ k ih =>
    simp only [mall, covK]
    rw [covB_app, ih (by omega), mrow_cov (allB_at ha k (by omega)) hb (hl k (by omega)) _ (Nat.le_refl _)]
    have e : covK ys x ys.length = covB ys x := rfl
    rw [e]
    cases (x % mAt zs k == rAt zs k) <;> cases covK zs x k <;> cases covB ys x <;> rfl
theorem hme_cov {zs ys : List Cl} (h : hmeB zs ys = true) (x : Int) : covB (hmeL zs ys) x = (covB zs x && covB ys x) := by
  unfold hmeB at h
  obtain ⟨h1, _⟩ := Bool.and_eq_true_iff.1 h
  obtain ⟨hs, hy, c1, c2⟩ := com_bd h1
  obtain ⟨_, _, ha, _, P1, _⟩ := sysB_facts hs
  obtain ⟨_, _, hb, _, Q1, _⟩ := sysB_facts hy
  refine mall_cov ha hb (fun i hi j hj => ?_) _ (Nat.le_refl _)
  obtain ⟨m1, _, _, _⟩ := inB_iff.1 (allB_at ha i hi)
  obtain ⟨n1, _, _, _⟩ := inB_iff.1 (allB_at hb j hj)
  have d := dvd_lcmI (show 0 ≤ perI zs by omega) (show 0 ≤ perI ys by omega)
  have := Int.le_of_dvd (by unfold comI at c1; omega) (lcmI_dvd (show 0 ≤ mAt zs i by omega) (show 0 ≤ mAt ys j by omega) (Int.dvd_trans (sys_dvd hs i hi) d.1) (Int.dvd_trans (sys_dvd hy j hj) d.2))
  unfold comI at c2
  omega
end Go.Proofs.Ytfagjhccdbielaa
