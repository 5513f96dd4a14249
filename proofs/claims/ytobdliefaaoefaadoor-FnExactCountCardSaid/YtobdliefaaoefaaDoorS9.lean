/- The model's holes. -/
import Derived.Test.YtobdliefaaoefaaDoorS5
namespace Go.Proofs.YtobdliefaaoefaaDoor
open Go.RowKit
/-- the holes below k -/
def holK (zs : List Cl) : Nat → List Int
  | 0 => []
  | k + 1 => bif cntN zs k == 0 then holK zs k ++ [(k : Int)] else holK zs k
def holL (zs : List Cl) : List Int := holK zs (perI zs).toNat
def holR (zs : List Cl) : List Int := bif sysB zs then holL zs else []
theorem holR_t {zs : List Cl} (h : sysB zs = true) : holR zs = holL zs := by simp [holR, h]
theorem holR_f {zs : List Cl} (h : sysB zs = false) : holR zs = [] := by simp [holR, h]
theorem holK_le (zs : List Cl) (k : Nat) : (holK zs k).length ≤ k := by
  induction k with
  | zero => simp [holK]
  | succ k ih =>
    simp only [holK]
    cases cntN zs k == 0
    · simp only [cond_false]; omega
    · simp only [cond_true, List.length_append, List.length_singleton]; omega
theorem holR_le (zs : List Cl) : (holR zs).length ≤ 1000 := by
  cases h : sysB zs
  · simp [holR_f h]
  · rw [holR_t h]
    obtain ⟨_, _, _, _, _, h2⟩ := sysB_facts h
    have := holK_le zs (perI zs).toNat
    unfold holL
    omega
end Go.Proofs.YtobdliefaaoefaaDoor
