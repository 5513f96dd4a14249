/- The period of two systems together, plain. -/
import Derived.Test.YtgdpebnnmklbjaaMathA
import Derived.Test.YtgdpebnnmklbjaaS14
namespace Go.Proofs.Ytgdpebnnmklbjaa
theorem perO_append (p : Int) (a b : List Cl) : perO p (a ++ b) = (perO p a).bind fun q => perO q b := by
  induction a generalizing p with
  | nil => rfl
  | cons c t ih =>
    simp only [List.cons_append, perO]
    split
    · exact ih _
    · rfl
theorem lcmI_assoc {a b c : Int} (ha : 1 ≤ a) (hb : 1 ≤ b) (hc : 1 ≤ c) : lcmI (lcmI a b) c = lcmI a (lcmI b c) := by
  obtain ⟨x, rfl⟩ := Int.eq_ofNat_of_zero_le (show 0 ≤ a by omega)
  obtain ⟨y, rfl⟩ := Int.eq_ofNat_of_zero_le (show 0 ≤ b by omega)
  obtain ⟨z, rfl⟩ := Int.eq_ofNat_of_zero_le (show 0 ≤ c by omega)
  rw [lcmI_nat, lcmI_nat, lcmI_nat, lcmI_nat, Nat.lcm_assoc]
theorem lcmI_mono {a b c : Int} (ha : 1 ≤ a) (hb : 1 ≤ b) (hc : 1 ≤ c) (h : b ∣ c) : lcmI a b ≤ lcmI a c := by
  have h1 := lcmI_pos ha hc
  exact Int.le_of_dvd (by omega) (lcmI_dvd (by omega) (by omega) (dvd_lcmI (by omega) (by omega)).1 (Int.dvd_trans h (dvd_lcmI (show 0 ≤ a by omega) (show 0 ≤ c by omega)).2))
theorem perO_lcm {p q Q : Int} {ys : List Cl} (hp : 1 ≤ p) (hq : 1 ≤ q) (h : perO q ys = some Q) (hl : lcmI p q ≤ 1000) : perO (lcmI p q) ys = if lcmI p Q ≤ 1000 then some (lcmI p Q) else none := by
  induction ys generalizing q with
  | nil =>
    cases h
    simp [perO, hl]
  | cons c t ih =>
    have h0 := h
    unfold perO at h
    split at h
    · rename_i h1
      obtain ⟨m1, m2, _, _⟩ := inB_iff.1 h1.1
      have hq2 := (lcmI_pos hq m1).1
      have e := lcmI_assoc hp hq m1
      unfold perO
      by_cases hx : lcmI p (lcmI q c.2) ≤ 1000
      · rw [if_pos ⟨h1.1, by rw [e]; exact hx⟩, e]
        exact ih hq2 h hx
      · rw [if_neg (fun hh => hx (by rw [← e]; exact hh.2))]
        have hd := (perO_dvd h hq2).1
        have hQ := (perO_bd h hq2 h1.2).1
        have := lcmI_mono hp hq2 hQ hd
        rw [if_neg (by omega)]
    · cases h
theorem lcmI_one {a : Int} (ha : 1 ≤ a) : lcmI a 1 = a := by
  obtain ⟨x, rfl⟩ := Int.eq_ofNat_of_zero_le (show 0 ≤ a by omega)
  rw [show (1 : Int) = ((1 : Nat) : Int) from rfl, lcmI_nat, Nat.lcm_one_right]
/-- both are systems, with a common period that is not too great -/
def comB (zs ys : List Cl) : Bool := sysB zs && sysB ys && decide (lcmI (perI zs) (perI ys) ≤ 1000)
def comI (zs ys : List Cl) : Int := lcmI (perI zs) (perI ys)
theorem per_both {zs ys : List Cl} (h : sysB zs = true) (k : sysB ys = true) : perI (zs ++ ys) = selI (comB zs ys) (comI zs ys) := by
  obtain ⟨_, _, _, ho, P1, P2⟩ := sysB_facts h
  obtain ⟨_, _, _, ko, Q1, Q2⟩ := sysB_facts k
  have e := perO_lcm P1 (show (1 : Int) ≤ 1 by omega) ko (by rw [lcmI_one P1]; exact P2)
  rw [lcmI_one P1] at e
  unfold perI
  rw [perO_append, ho]
  show ((perO (perI zs) ys)).getD 0 = _
  rw [e]
  by_cases hl : lcmI (perI zs) (perI ys) ≤ 1000
  · simp [hl, comB, h, k, selI, comI]
  · simp [hl, comB, selI]
theorem com_bd {zs ys : List Cl} (h : comB zs ys = true) : sysB zs = true ∧ sysB ys = true ∧ 1 ≤ comI zs ys ∧ comI zs ys ≤ 1000 := by
  unfold comB at h
  simp only [Bool.and_eq_true, decide_eq_true_eq] at h
  obtain ⟨_, _, _, _, P1, _⟩ := sysB_facts h.1.1
  obtain ⟨_, _, _, _, Q1, _⟩ := sysB_facts h.1.2
  exact ⟨h.1.1, h.1.2, (lcmI_pos P1 Q1).1, h.2⟩
def samB (zs ys : List Cl) : Bool := comB zs ys && (holK zs (comI zs ys).toNat == holK ys (comI zs ys).toNat)
theorem holK_same {zs ys : List Cl} {M : Nat} (h : ∀ j : Nat, j < M → (cntN zs j == 0) = (cntN ys j == 0)) : holK zs M = holK ys M := by
  induction M with
  | zero => rfl
  | succ M ih =>
    simp only [holK]
    rw [ih (fun j hj => h j (by omega)), h M (by omega)]
theorem holK_differ {zs ys : List Cl} {M k : Nat} (hk : k < M) (h : (cntN zs k == 0) ≠ (cntN ys k == 0)) : holK zs M ≠ holK ys M := by
  intro e
  have h1 := holK_mem zs M k
  have h2 := holK_mem ys M k
  rw [e, h2] at h1
  rw [covB_cnt, covB_cnt] at h1
  have hk' : (0 : Int) ≤ k ∧ (k : Int) < M := by omega
  cases ha : cntN zs k == 0 <;> cases hb : cntN ys k == 0 <;> simp_all
theorem allB_app {zs ys : List Cl} (h : allB zs = true) (k : allB ys = true) : allB (zs ++ ys) = true := by
  unfold allB at *
  rw [List.all_append, h, k]
  rfl
end Go.Proofs.Ytgdpebnnmklbjaa
