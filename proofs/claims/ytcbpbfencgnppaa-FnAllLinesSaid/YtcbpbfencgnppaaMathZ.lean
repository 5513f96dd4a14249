/- Chapter 6: lines solved together, plain. -/
import Derived.Test.YtcbpbfencgnppaaMathY
import Derived.Test.YtcbpbfencgnppaaM1
namespace Go.Proofs.Ytcbpbfencgnppaa
open Go.RowKit
/-- the k-th number of a line -/
def nAt (l : List Int) (k : Nat) : Int := l[k]?.getD 0
def stpB (c : Int × Int) (l : List Int) : Bool := (l.length == 3) && linO (nAt l 0) (nAt l 1) (nAt l 2) && mtB c.1 c.2 (linX (nAt l 0) (nAt l 1) (nAt l 2)) (linN (nAt l 0) (nAt l 2))
/-- the class so far, met with the solutions of one line more -/
def stp (c : Int × Int) (l : List Int) : Option (Int × Int) :=
  bif stpB c l then some (metX c.2 (linX (nAt l 0) (nAt l 1) (nAt l 2)) (linN (nAt l 0) (nAt l 2)) c.1, lcmI c.2 (linN (nAt l 0) (nAt l 2))) else none
def solF : List (List Int) → Int × Int → Option (Int × Int)
  | [], c => some c
  | l :: t, c => (stp c l).bind (solF t)
def solO (zss : List (List Int)) : Option (Int × Int) := if zss.length ≤ 6 then solF zss (0, 1) else none
def solB (zss : List (List Int)) : Bool := (solO zss).isSome
def solR (zss : List (List Int)) : Int := ((solO zss).getD (0, 0)).1
def solM (zss : List (List Int)) : Int := ((solO zss).getD (0, 0)).2
theorem stp_t {c : Int × Int} {l : List Int} (h1 : l.length = 3) (h2 : linO (nAt l 0) (nAt l 1) (nAt l 2) = true) (h3 : mtB c.1 c.2 (linX (nAt l 0) (nAt l 1) (nAt l 2)) (linN (nAt l 0) (nAt l 2)) = true) :
    stp c l = some (metX c.2 (linX (nAt l 0) (nAt l 1) (nAt l 2)) (linN (nAt l 0) (nAt l 2)) c.1, lcmI c.2 (linN (nAt l 0) (nAt l 2))) := by simp [stp, stpB, h1, h2, h3]
theorem stp_f1 {c : Int × Int} {l : List Int} (h : l.length ≠ 3) : stp c l = none := by
  have e : (l.length == 3) = false := by simpa using h
  simp [stp, stpB, e]
theorem stp_f2 {c : Int × Int} {l : List Int} (h : linO (nAt l 0) (nAt l 1) (nAt l 2) = false) : stp c l = none := by simp [stp, stpB, h]
theorem stp_f3 {c : Int × Int} {l : List Int} (h : mtB c.1 c.2 (linX (nAt l 0) (nAt l 1) (nAt l 2)) (linN (nAt l 0) (nAt l 2)) = false) : stp c l = none := by simp [stp, stpB, h]
theorem solF_cons {l : List Int} {t : List (List Int)} {c d : Int × Int} (h : stp c l = some d) : solF (l :: t) c = solF t d := by simp [solF, h]
theorem solF_stop {l : List Int} {t : List (List Int)} {c : Int × Int} (h : stp c l = none) : solF (l :: t) c = none := by simp [solF, h]
/-- one line that has no solutions, and there are none at all -/
theorem solF_bad {l : List Int} (hl : ∀ c, stp c l = none) : ∀ (zss : List (List Int)) (c : Int × Int), l ∈ zss → solF zss c = none
  | [], _, h => by cases h
  | x :: t, c, h => by
    cases hs : stp c x with
    | none => exact solF_stop hs
    | some d =>
      rw [solF_cons hs]
      rcases List.mem_cons.1 h with rfl | h
      · rw [hl] at hs; cases hs
      · exact solF_bad hl t d h
theorem sol_none {zss : List (List Int)} (h : solO zss = none) : solB zss = false ∧ solR zss = 0 ∧ solM zss = 0 := by simp [solB, solR, solM, h]
theorem sol_some {zss : List (List Int)} {c : Int × Int} (h : solO zss = some c) : solB zss = true ∧ solR zss = c.1 ∧ solM zss = c.2 := by simp [solB, solR, solM, h]
theorem solO_ge {zss : List (List Int)} (h : ¬ zss.length ≤ 6) : solO zss = none := by unfold solO; rw [if_neg h]
theorem solO_le {zss : List (List Int)} (h : zss.length ≤ 6) : solO zss = solF zss (0, 1) := by unfold solO; rw [if_pos h]
theorem drop_atZ {α : Type} [Inhabited α] {zss : List (List α)} {k : Nat} (h : k < zss.length) : zss.drop k = (zss[k]?.getD []) :: zss.drop (k + 1) := by
  rw [List.drop_eq_getElem_cons h, List.getElem?_eq_getElem h]
  rfl
theorem lin_in {a b m : Int} (h : linO a b m = true) : inB (linX a b m) (linN a m) = true := by
  obtain ⟨_, hm, _, h1, h2, h3, h4, _⟩ := linO_facts h
  have := (modB_iff.1 hm).2
  exact inB_t ⟨h3, by omega, h1, h2⟩
end Go.Proofs.Ytcbpbfencgnppaa
