/- Contracts of what the laws of chapter 7 draw: two tiles. -/
import Derived.Test.YtiplnfggiffngaaDu
import Derived.Test.YtiplnfggiffngaaTm
namespace Go.Proofs.Ytiplnfggiffngaa
open Go.RowKit
theorem fndL_len (n : Int) (z : List Int) : (fndL n z).length ≤ 24 := by
  unfold fndL
  cases h : fndQ n z
  · simp
  · have hT := tilB_t.1 (show tilB n z = true by simp only [fndQ, Bool.and_eq_true] at h; exact h.1)
    obtain ⟨N, rfl⟩ : ∃ N : Nat, n = (N : Int) := ⟨n.toNat, by have := hT.1; omega⟩
    rw [Int.toNat_natCast, cond_true]
    have hN := hT.2.1
    have hall := srtLL_all (Z := allT N z) (D := N / z.length) (fun j hj => by
      rw [List.getElem?_eq_getElem hj]
      exact allT_len hT _ (List.getElem_mem hj)) (allT N z).length (Nat.le_refl _)
    have hd := Nat.div_le_self N z.length
    rcases Nat.eq_zero_or_pos (allS N z).length with h0 | h0
    · rw [List.eq_nil_of_length_eq_zero h0]; simp
    · rw [List.getElem?_eq_getElem h0, Option.getD_some]
      rw [hall _ (List.getElem_mem h0)]
      omega
theorem tmd_len7 (n : Int) (z : List Int) (t : Int) : (tmdR n z t).length ≤ 24 := by
  unfold tmdR
  cases h : tmdB n z t
  · simp
  · have hT := tilB_t.1 (show tilB n z = true by simp only [tmdB, Bool.and_eq_true] at h; exact h.1)
    have h1 := setL_le n.toNat fun y => decide (y ∈ tmvL n z t)
    have h2 := hT.1
    have h3 := hT.2.1
    simp only [cond_true, tmvR, plc]
    omega
def DrawnTT (w : World) (e : Ending) (w' : World) : Prop :=
  ∃ (n : Int) (v u : Value) (za zb : List Int), 1 ≤ n ∧ n ≤ 24 ∧ za.length ≤ 24 ∧ zb.length ≤ 24 ∧ e = .returned (.tuple #[.int .i64 n, v, u]) ∧ OwnI w' w.heap.size 3 v za ∧ OwnI w' w.heap.size 3 u zb ∧ Below w.heap.size w w'
end Go.Proofs.Ytiplnfggiffngaa
