/- The program's sparePlaces and HoleSpare. -/
import Derived.Test.YtgokhchkpjnnlaaS26
import Derived.Test.YtgokhchkpjnnlaaS5
namespace Go.Proofs.Ytgokhchkpjnnlaa
open Go.RowKit
/-- the places below k of classes that are spare below E -/
def splK (zs : List Cl) (E : Int) : Nat → List Int
  | 0 => []
  | k + 1 => bif spaB zs k E then splK zs E k ++ [(k : Int)] else splK zs E k
def splL (zs : List Cl) (E : Int) : List Int := splK zs E zs.length
theorem splK_le (zs : List Cl) (E : Int) (k : Nat) : (splK zs E k).length ≤ k := by
  induction k with
  | zero => simp [splK]
  | succ k ih =>
    simp only [splK]
    cases spaB zs k E
    · simp only [cond_false]; omega
    · simp only [cond_true, List.length_append, List.length_singleton]; omega
def hspR (zs : List Cl) : List Int := bif sysB zs then splL zs (perI zs) else []
theorem hspR_t {zs : List Cl} (h : sysB zs = true) : hspR zs = splL zs (perI zs) := by simp [hspR, h]
theorem hspR_f {zs : List Cl} (h : sysB zs = false) : hspR zs = [] := by simp [hspR, h]
theorem hspR_le (zs : List Cl) : (hspR zs).length ≤ 1000 := by
  cases h : sysB zs
  · simp [hspR_f h]
  · rw [hspR_t h]
    have := splK_le zs (perI zs) zs.length
    have := (sysB_facts h).2.1
    unfold splL
    omega
end Go.Proofs.Ytgokhchkpjnnlaa
