/- Contract of the numbers of a class as an iterator: it hands out first, first + m, .. below the end, to every loop body that keeps its three boxes. -/
import Derived.RangeFuncNested
import Derived.RangeFuncBound
import Derived.RangeFuncCalls
import Derived.RangeFuncLeaves
import Derived.Shelf.Abstract
import Derived.Shelf.RegionOpen
import Derived.WalkKit
import Derived.OwnWalkIn
import Derived.TacticsInMore
import Derived.LoopNIn
import Derived.LoopIn
import Derived.Test.YtiplnfggiffngaaMz0
namespace Go.Proofs.Ytiplnfggiffngaa
open Go.RowKit Go.Shelf
attribute [local go_sem] Oper.semAt_some
/-- f 0, f 1, .. f (k - 1) -/
def seqTo (f : Nat → Int) (k : Nat) : List Int := (List.range k).map f
theorem seqTo_succ (f : Nat → Int) (k : Nat) : seqTo f (k + 1) = seqTo f k ++ [f k] := by simp [seqTo, List.range_succ]
theorem seqTo_length (f : Nat → Int) (k : Nat) : (seqTo f k).length = k := by simp [seqTo]
/-- the k-th number -/
def numK (r m a : Int) (k : Nat) : Int := firI r m a + (k : Int) * m
theorem numK_succ (r m a : Int) (k : Nat) : numK r m a (k + 1) = numK r m a k + m := by
  unfold numK; rw [Int.natCast_add, Int.add_mul]; omega
theorem numK_ge {r m a : Int} (hm : 1 ≤ m) (k : Nat) : firI r m a + k ≤ numK r m a k := by
  unfold numK
  have := Int.mul_le_mul_of_nonneg_left hm (Int.natCast_nonneg k); omega
/-- all numbers below b have come -/
def NumAll (r m a b : Int) (ys : List Int) : Prop := ∃ k, ys = seqTo (numK r m a) k ∧ b ≤ numK r m a k ∧ ∀ j, j < k → numK r m a j < b
def NumPart (r m a b : Int) (ys : List Int) : Prop := ∃ k, ys = seqTo (numK r m a) (k + 1) ∧ ∀ j, j < k + 1 → numK r m a j < b
end Go.Proofs.Ytiplnfggiffngaa
