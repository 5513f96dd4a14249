/- Facts of roots at small moduli (own text). -/
import Derived.Test.YtfgipjgjehjijaaLm
namespace Go.Proofs.Ytfgipjgjehjijaa
open Go

/-- the first from d on that divides o, o greater than 1 -/
def dS (o : Int) : Nat → Int → Option Int
  | 0, _ => none
  | n + 1, d => if 1 < o ∧ o % d ≠ 0 then dS o n (d + 1) else some d
/-- o divided by d as often as it goes -/
def oS (d : Int) : Nat → Int → Option Int
  | 0, _ => none
  | n + 1, o => if 1 < o ∧ o % d = 0 then oS d n (o / d) else some o
def oddOf (m : Int) : Int := if m % 2 = 0 then m / 2 else m
def rootCk (m : Int) : Bool :=
  let r := rootR m
  !r.2 || (decide (1 ≤ r.1) && decide (r.1 ≤ m) && ordX r.1 m == unQ m && (m == 4 || (match dS (oddOf m) 60 2 with
    | none => false
    | some d => decide (2 ≤ d) && match oS d 10 (oddOf m) with
      | none => false
      | some z => z == 1 && (decide (2 < d) || decide (m ≤ 2)))))
theorem rootCk_all : ((List.range 50).all fun m => rootCk (m : Int)) = true := by decide +kernel
theorem root_facts {m : Int} (h0 : 0 ≤ m) (hm2 : m < 50) (h : (rootR m).2 = true) : 1 ≤ (rootR m).1 ∧ (rootR m).1 ≤ m ∧ ordX (rootR m).1 m = unQ m ∧ (m ≠ 4 → ∃ d, dS (oddOf m) 60 2 = some d ∧ oS d 10 (oddOf m) = some 1 ∧ 2 ≤ d ∧ (2 < d ∨ m ≤ 2)) := by
  obtain ⟨M, rfl⟩ := Int.eq_ofNat_of_zero_le h0
  have h1 := List.all_eq_true.1 rootCk_all M (List.mem_range.2 (by omega))
  unfold rootCk at h1
  generalize rootR (M : Int) = r at *
  simp only [h, Bool.not_true, Bool.false_or, Bool.and_eq_true, decide_eq_true_eq, beq_iff_eq] at h1
  obtain ⟨⟨⟨a1, a2⟩, a3⟩, a4⟩ := h1
  refine ⟨a1, a2, a3, fun h4 => ?_⟩
  have : ((M : Int) == 4) = false := by simpa using h4
  rw [this, Bool.false_or] at a4
  split at a4
  · cases a4
  · rename_i d hd
    rw [Bool.and_eq_true] at a4
    obtain ⟨b1, b2⟩ := a4
    split at b2
    · cases b2
    · rename_i z hz
      simp only [Bool.and_eq_true, beq_iff_eq, Bool.or_eq_true, decide_eq_true_eq] at b1 b2
      exact ⟨d, hd, by rw [hz, b2.1], b1, b2.2⟩
end Go.Proofs.Ytfgipjgjehjijaa
