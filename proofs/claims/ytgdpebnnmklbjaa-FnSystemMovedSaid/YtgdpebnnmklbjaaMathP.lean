/- The period of a list of classes, plain: least common multiples one after another, none greater than 1000. -/
import Derived.Test.YtgdpebnnmklbjaaMathS
import Derived.Test.YtgdpebnnmklbjaaE2
namespace Go.Proofs.Ytgdpebnnmklbjaa
open Go.RowKit
theorem lcmI_nat (a b : Nat) : lcmI (a : Int) (b : Int) = ((a.lcm b : Nat) : Int) := by
  unfold lcmI gcdI
  simp only [Int.toNat_natCast]
  rw [← Int.natCast_ediv, ← Int.natCast_mul]
  congr 1
  rw [Nat.lcm, Nat.div_mul_right_comm (Nat.gcd_dvd_left a b)]
theorem lcmI_pos {a b : Int} (ha : 1 ≤ a) (hb : 1 ≤ b) : 1 ≤ lcmI a b ∧ a ≤ lcmI a b ∧ b ≤ lcmI a b := by
  obtain ⟨x, rfl⟩ := Int.eq_ofNat_of_zero_le (show 0 ≤ a by omega)
  obtain ⟨y, rfl⟩ := Int.eq_ofNat_of_zero_le (show 0 ≤ b by omega)
  rw [lcmI_nat]
  have hx : 0 < x := by omega
  have hy : 0 < y := by omega
  have h0 : 0 < x.lcm y := Nat.lcm_pos hx hy
  have h1 := Nat.le_of_dvd h0 (Nat.dvd_lcm_left x y)
  have h2 := Nat.le_of_dvd h0 (Nat.dvd_lcm_right x y)
  omega
def perO : Int → List Cl → Option Int
  | p, [] => some p
  | p, c :: t => if inB c.1 c.2 = true ∧ lcmI p c.2 ≤ 1000 then perO (lcmI p c.2) t else none
def allB (zs : List Cl) : Bool := zs.all fun c => inB c.1 c.2
def sysB (zs : List Cl) : Bool := decide (1 ≤ zs.length ∧ zs.length ≤ 8) && (perO 1 zs).isSome
def perI (zs : List Cl) : Int := (perO 1 zs).getD 0
theorem drop_cl (zs : List Cl) (k : Nat) (h : k < zs.length) : zs.drop k = (rAt zs k, mAt zs k) :: zs.drop (k + 1) := by
  have e : (rAt zs k, mAt zs k) = zs[k] := by simp [rAt, mAt, h]
  rw [List.drop_eq_getElem_cons h, e]
theorem allB_at {zs : List Cl} (h : allB zs = true) (k : Nat) (hk : k < zs.length) : inB (rAt zs k) (mAt zs k) = true := by
  have := List.all_eq_true.1 h zs[k] (List.getElem_mem hk)
  simpa [rAt, mAt, hk] using this
theorem allB_of {zs : List Cl} (h : ∀ k, k < zs.length → inB (rAt zs k) (mAt zs k) = true) : allB zs = true := by
  refine List.all_eq_true.2 fun c hc => ?_
  obtain ⟨k, hk, rfl⟩ := List.getElem_of_mem hc
  simpa [rAt, mAt, hk] using h k hk
theorem allB_no {zs : List Cl} {k : Nat} (hk : k < zs.length) (h : inB (rAt zs k) (mAt zs k) = false) : allB zs = false := by
  cases ha : allB zs
  · rfl
  · rw [allB_at ha k hk] at h; cases h
theorem perO_all {p q : Int} {zs : List Cl} (h : perO p zs = some q) : allB zs = true := by
  induction zs generalizing p with
  | nil => rfl
  | cons c t ih =>
    unfold perO at h
    split at h
    · rename_i h1
      have := ih h
      simp only [allB, List.all_cons, Bool.and_eq_true] at this ⊢
      exact ⟨h1.1, this⟩
    · cases h
theorem perO_bd {p q : Int} {zs : List Cl} (h : perO p zs = some q) (h1 : 1 ≤ p) (h2 : p ≤ 1000) : 1 ≤ q ∧ q ≤ 1000 := by
  induction zs generalizing p with
  | nil => cases h; exact ⟨h1, h2⟩
  | cons c t ih =>
    unfold perO at h
    split at h
    · rename_i h3
      obtain ⟨m1, m2, _, _⟩ := inB_iff.1 h3.1
      exact ih h (lcmI_pos h1 m1).1 h3.2
    · cases h
theorem sysB_0 {zs : List Cl} (h : ¬ (1 ≤ zs.length ∧ zs.length ≤ 8)) : sysB zs = false := by simp [sysB]; omega
theorem sysB_1 {zs : List Cl} (h : perO 1 zs = none) : sysB zs = false := by simp [sysB, h]
theorem sysB_2 {zs : List Cl} (h : allB zs = false) : sysB zs = false := by
  cases ho : perO 1 zs with
  | none => exact sysB_1 ho
  | some q => rw [perO_all ho] at h; cases h
theorem sysB_t {zs : List Cl} {q : Int} (h : 1 ≤ zs.length ∧ zs.length ≤ 8) (k : perO 1 zs = some q) : sysB zs = true := by simp [sysB, h, k]
theorem sysB_iff {zs : List Cl} : sysB zs = true ↔ (1 ≤ zs.length ∧ zs.length ≤ 8) ∧ ∃ q, perO 1 zs = some q := by
  simp [sysB, Option.isSome_iff_exists]
theorem sysB_facts {zs : List Cl} (h : sysB zs = true) : 1 ≤ zs.length ∧ zs.length ≤ 8 ∧ allB zs = true ∧ perO 1 zs = some (perI zs) ∧ 1 ≤ perI zs ∧ perI zs ≤ 1000 := by
  obtain ⟨⟨h1, h2⟩, q, hq⟩ := sysB_iff.1 h
  have hb := perO_bd hq (by omega) (by omega)
  have e : perI zs = q := by simp [perI, hq]
  rw [e]
  exact ⟨h1, h2, perO_all hq, hq, hb.1, hb.2⟩
theorem per_yes {p P : Int} {zs : List Cl} {k : Nat} {o : Option Int} (hk : k < zs.length) (h : perO p (zs.drop k) = o) (hi : inB (rAt zs k) (mAt zs k) = true) (hl : lcmI p (mAt zs k) = P) (hP : P ≤ 1000) : perO P (zs.drop (k + 1)) = o := by
  rw [drop_cl zs k hk] at h
  unfold perO at h
  rw [if_pos ⟨hi, by rw [hl]; exact hP⟩] at h
  rw [← hl]; exact h
theorem per_no {p : Int} {zs : List Cl} {k : Nat} {o : Option Int} (hk : k < zs.length) (h : perO p (zs.drop k) = o) (hn : ¬ (inB (rAt zs k) (mAt zs k) = true ∧ lcmI p (mAt zs k) ≤ 1000)) : o = none := by
  rw [drop_cl zs k hk] at h
  unfold perO at h
  rw [if_neg hn] at h
  exact h.symm
theorem per_end {p : Int} {zs : List Cl} {k : Nat} {o : Option Int} (hk : zs.length ≤ k) (h : perO p (zs.drop k) = o) : o = some p := by
  rw [List.drop_eq_nil_of_le hk] at h
  exact h.symm
end Go.Proofs.Ytgdpebnnmklbjaa
