/- Chapter 6: what is solved together solves each line, plain. -/
import Derived.Test.YtcbpbfencgnppaaMathZ
import Derived.Test.YtcbpbfencgnppaaMathM
namespace Go.Proofs.Ytcbpbfencgnppaa
open Go.RowKit
theorem belB_parts {r m s n : Int} : belB r m s n = true ↔ inB r m = true ∧ inB s n = true ∧ m % n = 0 ∧ r % n = s := by simp [belB, and_assoc]
theorem bel_tr {r m s n t k : Int} (h1 : belB r m s n = true) (h2 : belB s n t k = true) : belB r m t k = true := by
  obtain ⟨a1, a2, a3, a4⟩ := belB_parts.1 h1
  obtain ⟨b1, b2, b3, b4⟩ := belB_parts.1 h2
  have d1 := Int.dvd_of_emod_eq_zero a3
  have d2 := Int.dvd_of_emod_eq_zero b3
  refine belB_parts.2 ⟨a1, b2, Int.emod_eq_zero_of_dvd (Int.dvd_trans d2 d1), ?_⟩
  rw [← b4, ← a4]
  exact (Int.emod_emod_of_dvd r d2).symm
theorem bel_self {r m : Int} (h : inB r m = true) : belB r m r m = true := by
  obtain ⟨h1, h2, h3, h4⟩ := inB_iff.1 h
  exact belB_parts.2 ⟨h, h, Int.emod_self, Int.emod_eq_of_lt h3 h4⟩
/-- each line is solved -/
theorem solF_each : ∀ (zss : List (List Int)) (c d : Int × Int), inB c.1 c.2 = true → solF zss c = some d → belB d.1 d.2 c.1 c.2 = true ∧ ∀ l ∈ zss, l.length = 3 ∧ linO (nAt l 0) (nAt l 1) (nAt l 2) = true ∧ belB d.1 d.2 (linX (nAt l 0) (nAt l 1) (nAt l 2)) (linN (nAt l 0) (nAt l 2)) = true
  | [], c, d, hc, h => by
    have : c = d := by simpa [solF] using h
    subst this
    exact ⟨bel_self hc, fun l hl => by cases hl⟩
  | x :: t, c, d, hc, h => by
    cases hb : stpB c x with
    | false =>
      have hs : stp c x = none := by simp [stp, hb]
      rw [solF_stop hs] at h
      cases h
    | true =>
      obtain ⟨⟨h3, hO⟩, hM⟩ : (x.length = 3 ∧ linO (nAt x 0) (nAt x 1) (nAt x 2) = true) ∧ mtB c.1 c.2 (linX (nAt x 0) (nAt x 1) (nAt x 2)) (linN (nAt x 0) (nAt x 2)) = true := by simpa [stpB] using hb
      rw [solF_cons (stp_t h3 hO hM)] at h
      obtain ⟨i1, i2⟩ := solF_each t _ d (met_in hM) h
      obtain ⟨b1, b2⟩ := met_bel hM
      refine ⟨bel_tr i1 b1, fun l hl => ?_⟩
      rcases List.mem_cons.1 hl with rfl | hl
      · exact ⟨h3, hO, bel_tr i1 b2⟩
      · exact i2 l hl
theorem sol_each {zss : List (List Int)} (h : solB zss = true) : inB (solR zss) (solM zss) = true ∧ (zss = [] → solM zss = 1) ∧ ∀ l ∈ zss, l.length = 3 ∧ linO (nAt l 0) (nAt l 1) (nAt l 2) = true ∧ belB (solR zss) (solM zss) (linX (nAt l 0) (nAt l 1) (nAt l 2)) (linN (nAt l 0) (nAt l 2)) = true := by
  cases hO : solO zss with
  | none => rw [(sol_none hO).1] at h; cases h
  | some c =>
    obtain ⟨_, e1, e2⟩ := sol_some hO
    by_cases h6 : zss.length ≤ 6
    · have hF : solF zss (0, 1) = some c := by rw [← solO_le h6, hO]
      obtain ⟨i1, i2⟩ := solF_each zss (0, 1) c (by decide) hF
      rw [e1, e2]
      refine ⟨(belB_parts.1 i1).1, fun hz => ?_, i2⟩
      subst hz
      have : ((0 : Int), (1 : Int)) = c := by simpa [solF] using hF
      rw [← this]
    · rw [solO_ge h6] at hO
      cases hO
end Go.Proofs.Ytcbpbfencgnppaa
