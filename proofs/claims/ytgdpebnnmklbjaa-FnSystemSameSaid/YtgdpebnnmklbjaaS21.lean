/- Contracts of HoleRun, in the program and in the model. -/
import Derived.Test.YtgdpebnnmklbjaaS18
import Derived.Test.YtgdpebnnmklbjaaMathR
namespace Go.Proofs.Ytgdpebnnmklbjaa
open Go.RowKit
def hruI (zs : List Cl) : Int := selI (sysB zs) (bif (holL zs).isEmpty then -1 else runV zs)
theorem hruI_f {zs : List Cl} (h : sysB zs = false) : hruI zs = 0 := by simp [hruI, h, selI]
theorem hruI_nil {zs : List Cl} (h : sysB zs = true) (k : holL zs = []) : hruI zs = -1 := by simp [hruI, h, k, selI]
theorem hruI_run {zs : List Cl} (h : sysB zs = true) (k : holL zs ≠ []) : hruI zs = runV zs := by
  cases hc : holL zs with
  | nil => exact absurd hc k
  | cons x t => simp [hruI, h, hc, selI]
theorem lastD_getLast (b : Int) (l : List Int) (h : l ≠ []) : lastD b l = l[l.length - 1]?.getD 0 := by
  induction l generalizing b with
  | nil => exact absurd rfl h
  | cons x t ih =>
    cases t with
    | nil => rfl
    | cons y u =>
      have := ih x (by simp)
      rw [lastD, this]
      simp
theorem take_snoc {l : List Int} {k : Nat} (h : k < l.length) : l.take (k + 1) = l.take k ++ [l[k]?.getD 0] := by
  rw [List.take_succ_eq_append_getElem h, List.getElem?_eq_getElem h]
  rfl
theorem ints_at {w : World} {s : Option Addr} {n : Nat} {zs : List Int} (h : Ints w s n zs) (i : Nat) (hi : i < n) : ∃ b off, s = some ⟨b, off, none⟩ ∧ b < w.heap.size ∧ w.cell? ⟨b, off + i, none⟩ = some (.int .i64 (zs[i]?.getD 0)) := by
  rcases h.lies with h0 | ⟨b, off, rfl, hb, hc⟩
  · omega
  · exact ⟨b, off, rfl, hb, hc i hi⟩
theorem runL_bd {b a M : Int} {l : List Int} (h : ∀ x ∈ l, 0 ≤ x ∧ x < 1000) (hb : -1000 ≤ b ∧ b ≤ 1000) (ha : 0 ≤ a) (hM : a ≤ M) (hM2 : 2000 ≤ M) : 0 ≤ runL b a l ∧ runL b a l ≤ M := by
  induction l generalizing b a with
  | nil => exact ⟨ha, hM⟩
  | cons x t ih =>
    have hx := h x List.mem_cons_self
    exact ih (fun y hy => h y (List.mem_cons_of_mem _ hy)) (by omega) (by omega) (by omega)
end Go.Proofs.Ytgdpebnnmklbjaa
