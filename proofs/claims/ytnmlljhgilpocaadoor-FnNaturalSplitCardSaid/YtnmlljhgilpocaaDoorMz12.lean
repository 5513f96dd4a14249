/- The program's HoleMeet. -/
import Derived.Test.YtnmlljhgilpocaaDoorMgF
import Derived.Test.YtnmlljhgilpocaaDoorMg5
import Derived.Test.YtnmlljhgilpocaaDoorS3
import Derived.Maps.AppendAt
import Derived.Test.YtnmlljhgilpocaaDoorMgM
import Derived.Test.YtnmlljhgilpocaaDoorMg7
import Derived.Test.YtnmlljhgilpocaaDoorMgD
namespace Go.Proofs.YtnmlljhgilpocaaDoor
open Go.RowKit
/-- the meets of a class and the first j of a system -/
def mrow (c : Cl) (ys : List Cl) : Nat → List Cl
  | 0 => []
  | j + 1 => bif metB c.2 (rAt ys j) (mAt ys j) c.1 then mrow c ys j ++ [(metX c.2 (rAt ys j) (mAt ys j) c.1, lcmI c.2 (mAt ys j))] else mrow c ys j
def mall (zs ys : List Cl) : Nat → List Cl
  | 0 => []
  | i + 1 => mall zs ys i ++ mrow (rAt zs i, mAt zs i) ys ys.length
theorem mrow_le (c : Cl) (ys : List Cl) (j : Nat) : (mrow c ys j).length ≤ j := by
  induction j with
  | zero => simp [mrow]
  | succ j ih =>
    simp only [mrow]
    cases metB c.2 (rAt ys j) (mAt ys j) c.1
    · simp only [cond_false]; omega
    · simp only [cond_true, List.length_append, List.length_singleton]; omega
theorem mall_le (zs ys : List Cl) (i : Nat) : (mall zs ys i).length ≤ i * ys.length := by
  induction i with
  | zero => simp [mall]
  | succ i ih =>
    have := mrow_le (rAt zs i, mAt zs i) ys ys.length
    simp only [mall, List.length_append, Nat.add_mul, Nat.one_mul]
    omega
def hmeL (zs ys : List Cl) : List Cl := mall zs ys zs.length
def hmeB (zs ys : List Cl) : Bool := comB zs ys && sysB (hmeL zs ys)
def hmeR (zs ys : List Cl) : List Cl := bif hmeB zs ys then hmeL zs ys else []
theorem hmeR_le (zs ys : List Cl) : (hmeR zs ys).length ≤ 8 := by
  unfold hmeR
  cases h : hmeB zs ys
  · simp
  · unfold hmeB at h
    simp only [Bool.and_eq_true] at h
    have := (sysB_facts h.2).2.1
    simpa using this
end Go.Proofs.YtnmlljhgilpocaaDoor
namespace Go.Proofs.YtnmlljhgilpocaaDoor
open Go.RowKit
def srtR (zs : List Cl) : List Cl := bif sysB zs then srtL zs else []
theorem srtR_t {zs : List Cl} (h : sysB zs = true) : srtR zs = srtL zs := by simp [srtR, h]
theorem srtR_f {zs : List Cl} (h : sysB zs = false) : srtR zs = [] := by simp [srtR, h]
def modL (zs : List Cl) : List Int := (srtL zs).map fun c => c.2
theorem modL_length (zs : List Cl) : (modL zs).length = zs.length := by unfold modL; rw [List.length_map, srtL_length]
theorem modL_take (zs : List Cl) (k : Nat) (h : k < zs.length) : (modL zs).take (k + 1) = (modL zs).take k ++ [mAt (srtL zs) k] := by
  rw [List.take_succ_eq_append_getElem (by rw [modL_length]; exact h)]
  simp [modL, mAt, show k < (srtL zs).length by rw [srtL_length]; exact h]
def modR (zs : List Cl) : List Int := bif sysB zs then modL zs else []
theorem modR_t {zs : List Cl} (h : sysB zs = true) : modR zs = modL zs := by simp [modR, h]
theorem modR_f {zs : List Cl} (h : sysB zs = false) : modR zs = [] := by simp [modR, h]
end Go.Proofs.YtnmlljhgilpocaaDoor
