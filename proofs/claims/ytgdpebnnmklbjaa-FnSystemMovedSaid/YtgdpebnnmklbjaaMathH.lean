/- A system in another order covers the same numbers; plain. -/
import Derived.Test.YtgdpebnnmklbjaaS10
namespace Go.Proofs.Ytgdpebnnmklbjaa
theorem covK_any (zs : List Cl) (x : Int) (k : Nat) (h : k ≤ zs.length) : covK zs x k = (zs.take k).any fun c => x % c.2 == c.1 := by
  induction k with
  | zero => simp [covK]
  | succ k ih =>
    have hk : k < zs.length := by omega
    rw [List.take_succ_eq_append_getElem hk, List.any_append, ← ih (by omega)]
    simp [covK, rAt, mAt, hk]
theorem covB_any (zs : List Cl) (x : Int) : covB zs x = zs.any fun c => x % c.2 == c.1 := by
  have h := covK_any zs x zs.length (Nat.le_refl _)
  rw [List.take_length] at h
  exact h
theorem covB_perm {zs ys : List Cl} (h : List.Perm zs ys) (x : Int) : covB zs x = covB ys x := by
  rw [covB_any, covB_any, Bool.eq_iff_iff]
  simp only [List.any_eq_true]
  exact ⟨fun ⟨c, hc, h1⟩ => ⟨c, h.mem_iff.1 hc, h1⟩, fun ⟨c, hc, h1⟩ => ⟨c, h.mem_iff.2 hc, h1⟩⟩
theorem allB_perm {zs ys : List Cl} (h : List.Perm zs ys) : allB zs = allB ys := by
  rw [Bool.eq_iff_iff]
  simp only [allB, List.all_eq_true]
  exact ⟨fun H c hc => H c (h.mem_iff.2 hc), fun H c hc => H c (h.mem_iff.1 hc)⟩
end Go.Proofs.Ytgdpebnnmklbjaa
