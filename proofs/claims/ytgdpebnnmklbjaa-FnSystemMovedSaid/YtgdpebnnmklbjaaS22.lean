/- The program's HoleMeet. -/
import Derived.Test.YtgdpebnnmklbjaaS17
import Derived.Test.YtgdpebnnmklbjaaR3
import Derived.Test.YtgdpebnnmklbjaaS3
import Derived.Maps.AppendAt
namespace Go.Proofs.Ytgdpebnnmklbjaa
open Go.RowKit
/-- the meets of a class and the first j of a system -/
def mrow (c : Cl) (ys : List Cl) : Nat → List Cl
  | 0 => []
  | j + 1 => bif metB c.2 (rAt ys j) (mAt ys j) c.1 then mrow c ys j ++ [(metX c.2 (rAt ys j) (mAt ys j) c.1, lcmI c.2 (mAt ys j))] else mrow c ys j
def mall (zs ys : List Cl) : Nat → List Cl
  | 0 => []
  | i + 1 => mall zs ys i ++ mrow (rAt zs i, mAt zs i) ys ys.length
theorem mrow_le (c : Cl) (ys : List Cl) (j : Nat) : (mrow c ys j).length ≤ j := by
  induction j with
  | zero => simp [mrow]
  | succ j ih =>
    simp only [mrow]
    cases metB c.2 (rAt ys j) (mAt ys j) c.1
    · simp only [cond_false]; omega
    · simp only [cond_true, List.length_append, List.length_singleton]; omega
theorem mall_le (zs ys : List Cl) (i : Nat) : (mall zs ys i).length ≤ i * ys.length := by
  induction i with
  | zero => simp [mall]
  | succ i ih =>
    have := mrow_le (rAt zs i, mAt zs i) ys ys.length
    simp only [mall, List.length_append, Nat.add_mul, Nat.one_mul]
    omega
def hmeL (zs ys : List Cl) : List Cl := mall zs ys zs.length
def hmeB (zs ys : List Cl) : Bool := comB zs ys && sysB (hmeL zs ys)
def hmeR (zs ys : List Cl) : List Cl := bif hmeB zs ys then hmeL zs ys else []
theorem hmeR_le (zs ys : List Cl) : (hmeR zs ys).length ≤ 8 := by
  unfold hmeR
  cases h : hmeB zs ys
  · simp
  · unfold hmeB at h
    simp only [Bool.and_eq_true] at h
    have := (sysB_facts h.2).2.1
    simpa using this
end Go.Proofs.Ytgdpebnnmklbjaa
