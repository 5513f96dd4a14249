/- Facts of orders at small moduli (own text). -/
import Derived.Test.YtfgipjgjehjijaaKw
import Derived.Test.YtfgipjgjehjijaaMathY
namespace Go.Proofs.Ytfgipjgjehjijaa
open Go

def ordCk (m r : Nat) : Bool :=
  let k := ordN (m : Int) (r : Int) m (1 % (m : Int)) 1
  k == 0 || (decide (1 ≤ k) && decide (k ≤ 20) && unQ (m : Int) % k == 0 && (r : Int) ^ k.toNat % (m : Int) == 1 % (m : Int))
theorem ordCk_all : ((List.range 21).all fun m => m == 0 || (List.range m).all fun r => ordCk m r) = true := by decide +kernel
theorem ord_facts {a m : Int} (hm : 1 ≤ m) (hm2 : m ≤ 20) (h : ordX a m ≠ 0) : 1 ≤ ordX a m ∧ ordX a m ≤ 20 ∧ unQ m % ordX a m = 0 ∧ a ^ (ordX a m).toNat % m = 1 % m := by
  obtain ⟨M, rfl⟩ := Int.eq_ofNat_of_zero_le (show 0 ≤ m by omega)
  obtain ⟨r, hr⟩ := Int.eq_ofNat_of_zero_le (Int.emod_nonneg a (show ((M : Nat) : Int) ≠ 0 by omega))
  have hlt := Int.emod_lt_of_pos a (show 0 < ((M : Nat) : Int) by omega)
  have h1 := List.all_eq_true.1 ordCk_all M (List.mem_range.2 (by omega))
  have h2 : (List.range M).all (fun r => ordCk M r) = true := by
    have : (M == 0) = false := by simp; omega
    simpa [this] using h1
  have h3 := List.all_eq_true.1 h2 r (List.mem_range.2 (by omega))
  have e : ordX a (M : Int) = ordN (M : Int) (r : Int) M (1 % (M : Int)) 1 := by
    unfold ordX
    rw [hr]
    simp
  have hp := pow_emod (a := a) (m := (M : Int)) (ordX a (M : Int)).toNat
  rw [hr] at hp
  rw [← hp]
  rw [e] at h ⊢
  unfold ordCk at h3
  generalize ordN (M : Int) (r : Int) M (1 % (M : Int)) 1 = k at *
  have hk : (k == 0) = false := by simpa using h
  simp only [hk, Bool.false_or, Bool.and_eq_true, decide_eq_true_eq, beq_iff_eq] at h3
  exact ⟨h3.1.1.1, h3.1.1.2, h3.1.2, h3.2⟩
end Go.Proofs.Ytfgipjgjehjijaa
