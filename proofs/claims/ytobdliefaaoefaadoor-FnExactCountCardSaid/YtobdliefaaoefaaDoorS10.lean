/- What the program's covers answers. -/
import Derived.Test.YtobdliefaaoefaaDoorS9
namespace Go.Proofs.YtobdliefaaoefaaDoor
open Go.RowKit
/-- one of the first k classes has x -/
def covK (zs : List Cl) (x : Int) : Nat → Bool
  | 0 => false
  | k + 1 => covK zs x k || (x % mAt zs k == rAt zs k)
def covB (zs : List Cl) (x : Int) : Bool := covK zs x zs.length
theorem covK_cnt (zs : List Cl) (x : Int) (k : Nat) : covK zs x k = !(cntK zs x k == 0) := by
  induction k with
  | zero => rfl
  | succ k ih =>
    have := cntK_bd zs x k
    simp only [covK, cntK, ih]
    by_cases h2 : x % mAt zs k = rAt zs k
    · have h3 : ¬ cntK zs x k + 1 = 0 := by omega
      simp [h2, h3]
    · simp [h2]
theorem covB_cnt (zs : List Cl) (x : Int) : covB zs x = !(cntN zs x == 0) := covK_cnt zs x _
theorem covK_mono (zs : List Cl) (x : Int) {k n : Nat} (h : k ≤ n) (hk : covK zs x k = true) : covK zs x n = true := by
  induction n with
  | zero =>
    obtain rfl : k = 0 := by omega
    exact hk
  | succ n ih =>
    by_cases he : k = n + 1
    · exact he ▸ hk
    · simp only [covK, ih (by omega), Bool.true_or]
end Go.Proofs.YtobdliefaaoefaaDoor
