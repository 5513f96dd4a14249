/- The walk of the promise law FnExactCount. -/
import Derived.Test.YtobdliefaaoefaaDoorD5
import Derived.Test.YtobdliefaaoefaaDoorGc
import Derived.Test.YtobdliefaaoefaaDoorGd
namespace Go.Proofs.YtobdliefaaoefaaDoor
open Go.RowKit
theorem cnnR_val : cnnR 0 = 0 ∧ cnnR 1 = 1 ∧ cnnR 2 = 1 ∧ cnnR 3 = 3 ∧ cnnR 4 = 10 ∧ cnnR 5 = 39 ∧ cnnR 6 = 0 := by
  have h := cnn_all
  simp only [List.range_succ, List.range_zero, List.nil_append, List.map_cons, List.map_nil, List.cons_append, List.cons.injEq, Nat.reduceAdd] at h
  obtain ⟨h1, h2, h3, h4, h5, _⟩ := h
  refine ⟨rfl, ?_, ?_, ?_, ?_, ?_, rfl⟩
  · show ((cnnG 1 : Nat) : Int) = 1
    rw [h1]; rfl
  · show ((cnnG 2 : Nat) : Int) = 1
    rw [h2]; rfl
  · show ((cnnG 3 : Nat) : Int) = 3
    rw [h3]; rfl
  · show ((cnnG 4 : Nat) : Int) = 10
    rw [h4]; rfl
  · show ((cnnG 5 : Nat) : Int) = 39
    rw [h5]; rfl
def DrawnK (w : World) (e : Ending) (w' : World) : Prop := ∃ x : Int, e = .returned (.int .i64 x) ∧ 0 ≤ x ∧ x < 7 ∧ Below w.heap.size w w'
theorem c_DrawExactCount (s : Option Addr) (len cap : Nat) (w : World) (h : Code0 w s len cap) : Calls Tryd.prog 4 #[.slice s len cap] w (DrawnK w) := by
  go_enter Tryd.func4, Tryd.ntmps4
  go_wp2_with fail
  refine (c_l6Open s len cap _ h).mono ?_
  rintro e w2 ⟨B, s', len', hB, rfl, hR2, hb2⟩
  have hBlt := hR2.lt
  go_wp2_with fail
  refine (c_pickR 7 (by omega) (by omega) hR2 (by omega)).mono ?_
  rintro e w3 ⟨x, x1, x2, rfl, hR3, hQ3⟩
  have hb3 := hb2.trans (oth_below hQ3 hR2)
  go_wp2_with fail
  go_ret
  exact ⟨_, rfl, x1, x2, hb3⟩
set_option maxRecDepth 20000 in
set_option maxHeartbeats 4000000 in
theorem w_FnExactCount (s : Option Addr) (len cap : Nat) (w : World) (hgE : LaidE w) (h : Code0 w s len cap) : Calls Tryd.prog 3 #[.slice s len cap] w fun e w' => e = .returned (.bool true) ∧ Below w.heap.size w w' := by
  have hlc := h.lc
  have hcm := h.cm
  unfold maxLen at hcm
  obtain ⟨V0, V1, V2, V3, V4, V5, V6⟩ := cnnR_val
  have HI := Lib.hid (fun k w1 (hg : LaidE w1) => c_implExactCount k w1 hg)
  have HS := Lib.hid (fun k w1 => c_specExactCount k w1)
  by_cases hlen : len ≤ 1048576
  · go_enter Tryd.func3, Tryd.ntmps3
    go_wp2_with fail
    refine (c_DrawExactCount s len cap _ h).mono ?_
    rintro e w1 ⟨x, rfl, x0, x1, hb1⟩
    have hg1 := hgE.keep hb1
    rcases (show x = 0 ∨ x = 1 ∨ x = 2 ∨ x = 3 ∨ x = 4 ∨ x = 5 ∨ x = 6 by omega) with rfl | rfl | rfl | rfl | rfl | rfl | rfl
    · have hi := HI.out 0 w1 hg1
      have hs := fun w2 => HS.out 0 w2
      have hj := fun w3 (hg : LaidE w3) => HI.out 0 w3 hg
      rw [V0, show decide ((1 : Int) ≤ 0 ∧ (0 : Int) ≤ 5) = false from rfl] at hi
      simp only [V0, show decide ((1 : Int) ≤ 0 ∧ (0 : Int) ≤ 5) = false from rfl] at hs
      clear V0 V1 V2 V3 V4 V5 V6
      go_wp2_with fail
      refine hi.mono ?_
      rintro e w2 ⟨rfl, hb2⟩
      go_wp2_with fail
      refine (hs _).mono ?_
      rintro e w3 ⟨rfl, hb3⟩
      go_wp2_with fail
      go_ret
      exact ⟨rfl, bt2 (bt2 hb1 hb2) hb3⟩
    · have hi := HI.out 1 w1 hg1
      have hs := fun w2 => HS.out 1 w2
      have hj := fun w3 (hg : LaidE w3) => HI.out 0 w3 hg
      rw [V1, show decide ((1 : Int) ≤ 1 ∧ (1 : Int) ≤ 5) = true from rfl] at hi
      simp only [V1, show decide ((1 : Int) ≤ 1 ∧ (1 : Int) ≤ 5) = true from rfl] at hs
      simp only [V0, show decide ((1 : Int) ≤ 0 ∧ (0 : Int) ≤ 5) = false from rfl] at hj
      clear V0 V1 V2 V3 V4 V5 V6
      go_wp2_with fail
      refine hi.mono ?_
      rintro e w2 ⟨rfl, hb2⟩
      go_wp2_with fail
      refine (hs _).mono ?_
      rintro e w3 ⟨rfl, hb3⟩
      have hg3 := (hg1.keep hb2).keep hb3
      go_wp2_with fail
      refine (hj _ hg3).mono ?_
      rintro e w4 ⟨rfl, hb4⟩
      go_wp2_with fail
      go_ret
      exact ⟨rfl, bt2 (bt2 (bt2 hb1 hb2) hb3) hb4⟩
    · have hi := HI.out 2 w1 hg1
      have hs := fun w2 => HS.out 2 w2
      have hj := fun w3 (hg : LaidE w3) => HI.out 1 w3 hg
      rw [V2, show decide ((1 : Int) ≤ 2 ∧ (2 : Int) ≤ 5) = true from rfl] at hi
      simp only [V2, show decide ((1 : Int) ≤ 2 ∧ (2 : Int) ≤ 5) = true from rfl] at hs
      simp only [V1, show decide ((1 : Int) ≤ 1 ∧ (1 : Int) ≤ 5) = true from rfl] at hj
      clear V0 V1 V2 V3 V4 V5 V6
      go_wp2_with fail
      refine hi.mono ?_
      rintro e w2 ⟨rfl, hb2⟩
      go_wp2_with fail
      refine (hs _).mono ?_
      rintro e w3 ⟨rfl, hb3⟩
      have hg3 := (hg1.keep hb2).keep hb3
      go_wp2_with fail
      refine (hj _ hg3).mono ?_
      rintro e w4 ⟨rfl, hb4⟩
      go_wp2_with fail
      go_ret
      exact ⟨rfl, bt2 (bt2 (bt2 hb1 hb2) hb3) hb4⟩
    · have hi := HI.out 3 w1 hg1
      have hs := fun w2 => HS.out 3 w2
      have hj := fun w3 (hg : LaidE w3) => HI.out 2 w3 hg
      rw [V3, show decide ((1 : Int) ≤ 3 ∧ (3 : Int) ≤ 5) = true from rfl] at hi
      simp only [V3, show decide ((1 : Int) ≤ 3 ∧ (3 : Int) ≤ 5) = true from rfl] at hs
      simp only [V2, show decide ((1 : Int) ≤ 2 ∧ (2 : Int) ≤ 5) = true from rfl] at hj
      clear V0 V1 V2 V3 V4 V5 V6
      go_wp2_with fail
      refine hi.mono ?_
      rintro e w2 ⟨rfl, hb2⟩
      go_wp2_with fail
      refine (hs _).mono ?_
      rintro e w3 ⟨rfl, hb3⟩
      have hg3 := (hg1.keep hb2).keep hb3
      go_wp2_with fail
      refine (hj _ hg3).mono ?_
      rintro e w4 ⟨rfl, hb4⟩
      go_wp2_with fail
      go_ret
      exact ⟨rfl, bt2 (bt2 (bt2 hb1 hb2) hb3) hb4⟩
    · have hi := HI.out 4 w1 hg1
      have hs := fun w2 => HS.out 4 w2
      have hj := fun w3 (hg : LaidE w3) => HI.out 3 w3 hg
      rw [V4, show decide ((1 : Int) ≤ 4 ∧ (4 : Int) ≤ 5) = true from rfl] at hi
      simp only [V4, show decide ((1 : Int) ≤ 4 ∧ (4 : Int) ≤ 5) = true from rfl] at hs
      simp only [V3, show decide ((1 : Int) ≤ 3 ∧ (3 : Int) ≤ 5) = true from rfl] at hj
      clear V0 V1 V2 V3 V4 V5 V6
      go_wp2_with fail
      refine hi.mono ?_
      rintro e w2 ⟨rfl, hb2⟩
      go_wp2_with fail
      refine (hs _).mono ?_
      rintro e w3 ⟨rfl, hb3⟩
      have hg3 := (hg1.keep hb2).keep hb3
      go_wp2_with fail
      refine (hj _ hg3).mono ?_
      rintro e w4 ⟨rfl, hb4⟩
      go_wp2_with fail
      go_ret
      exact ⟨rfl, bt2 (bt2 (bt2 hb1 hb2) hb3) hb4⟩
    · have hi := HI.out 5 w1 hg1
      have hs := fun w2 => HS.out 5 w2
      have hj := fun w3 (hg : LaidE w3) => HI.out 4 w3 hg
      rw [V5, show decide ((1 : Int) ≤ 5 ∧ (5 : Int) ≤ 5) = true from rfl] at hi
      simp only [V5, show decide ((1 : Int) ≤ 5 ∧ (5 : Int) ≤ 5) = true from rfl] at hs
      simp only [V4, show decide ((1 : Int) ≤ 4 ∧ (4 : Int) ≤ 5) = true from rfl] at hj
      clear V0 V1 V2 V3 V4 V5 V6
      go_wp2_with fail
      refine hi.mono ?_
      rintro e w2 ⟨rfl, hb2⟩
      go_wp2_with fail
      refine (hs _).mono ?_
      rintro e w3 ⟨rfl, hb3⟩
      have hg3 := (hg1.keep hb2).keep hb3
      go_wp2_with fail
      refine (hj _ hg3).mono ?_
      rintro e w4 ⟨rfl, hb4⟩
      go_wp2_with fail
      go_ret
      exact ⟨rfl, bt2 (bt2 (bt2 hb1 hb2) hb3) hb4⟩
    · have hi := HI.out 6 w1 hg1
      have hs := fun w2 => HS.out 6 w2
      have hj := fun w3 (hg : LaidE w3) => HI.out 5 w3 hg
      rw [V6, show decide ((1 : Int) ≤ 6 ∧ (6 : Int) ≤ 5) = false from rfl] at hi
      simp only [V6, show decide ((1 : Int) ≤ 6 ∧ (6 : Int) ≤ 5) = false from rfl] at hs
      simp only [V5, show decide ((1 : Int) ≤ 5 ∧ (5 : Int) ≤ 5) = true from rfl] at hj
      clear V0 V1 V2 V3 V4 V5 V6
      go_wp2_with fail
      refine hi.mono ?_
      rintro e w2 ⟨rfl, hb2⟩
      go_wp2_with fail
      refine (hs _).mono ?_
      rintro e w3 ⟨rfl, hb3⟩
      go_wp2_with fail
      go_ret
      exact ⟨rfl, bt2 (bt2 hb1 hb2) hb3⟩
  · go_enter Tryd.func3, Tryd.ntmps3
    go_wp2_with fail
    go_ret
    exact ⟨rfl, Below.refl _ _⟩
end Go.Proofs.YtobdliefaaoefaaDoor
