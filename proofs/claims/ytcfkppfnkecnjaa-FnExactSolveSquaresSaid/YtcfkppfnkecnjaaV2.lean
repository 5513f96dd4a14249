/- The walk of the law FnExactSolveSquares. -/
import Derived.Test.YtcfkppfnkecnjaaY2
import Derived.Test.YtcfkppfnkecnjaaH3
namespace Go.Proofs.Ytcfkppfnkecnjaa
open Go.RowKit
set_option maxRecDepth 20000 in
set_option maxHeartbeats 4000000 in
theorem w_FnExactSolveSquares (a m : Int) (w : World) : Calls Try.prog 7 #[.int .i64 a, .int .i64 m] w fun e w' => e = .returned (.bool true) ∧ Below w.heap.size w w' := by
  have HR := Lib.hid (show (sqR a m).length ≤ 1048576 by have := sqR_le a m; omega)
  go_enter Try.func7, Try.ntmps7
  go_wp2_with fail
  refine (c_specSolveSquares _ _ _).mono ?_
  rintro e v1 ⟨u1, rfl, hO1, hB1⟩
  obtain ⟨s1r, cap1r, rfl, _, hA1⟩ := hO1.spread
  have hT1 := bt2 (Below.refl w.heap.size w) hB1
  have hs1 := hB1.size
  go_wp2_with fail
  refine (c_implSolveSquares _ _ _).mono ?_
  rintro e v2 ⟨u2, rfl, hO2, hB2⟩
  obtain ⟨s2r, cap2r, rfl, _, hA2⟩ := hO2.spread
  have hT2 := bt2 hT1 hB2
  have hs2 := hB2.size
  have hO1 := hO1.keep hB2
  go_wp2_with fail
  refine (c_eqIntS _ _ _ _ _ (sqR a m) HR.out _ (spreadI hO2) (spreadI hO1)).mono ?_
  rintro e v3 ⟨rfl, hB3⟩
  have hT3 := bt2 hT2 hB3
  have hO1 := hO1.keep hB3
  have hO2 := hO2.keep hB3
  have hs3 := hB3.size
  go_wp2_with fail
  refine (c_markIntS _ _ _ _ _ (sqR a m) rfl HR.out 1 (by omega) (by omega) _ hO2).mono ?_
  rintro e v4 ⟨rfl, hO2m, hG4⟩
  have hs4 := hG4.size
  have hO1 := hO1.other hG4 (apart24I hA1 hO2 (by omega))
  have hT4 := hT3.grown hG4 hT3.size (fun j e => Nat.le_trans (show w.heap.size ≤ v1.heap.size by have := hT1.size; omega) (World.ownsRow.lt hO2 j e).1)
  go_wp2_with fail
  refine (c_heldIntS _ _ _ HR.out 1 (by omega) (by omega) _ (spreadMI hO2m)).mono ?_
  rintro e w' ⟨rfl, rfl⟩
  go_wp2_with fail
  refine (c_implSolveSquares _ _ _).mono ?_
  rintro e v5 ⟨u5, rfl, hO5, hB5⟩
  obtain ⟨s5r, cap5r, rfl, _, hA5⟩ := hO5.spread
  have hT5 := bt2 hT4 hB5
  have hs5 := hB5.size
  have hO1 := hO1.keep hB5
  have hO2m := hO2m.keep hB5
  go_wp2_with fail
  refine (c_eqIntS _ _ _ _ _ (sqR a m) HR.out _ (spreadI hO5) (spreadI hO1)).mono ?_
  rintro e v6 ⟨rfl, hB6⟩
  have hT6 := bt2 hT5 hB6
  have hO2m := hO2m.keep hB6
  have hs6 := hB6.size
  go_wp2_with fail
  refine (c_heldIntS _ _ _ HR.out 1 (by omega) (by omega) _ (spreadMI hO2m)).mono ?_
  rintro e w' ⟨rfl, rfl⟩
  go_wp2_with fail
  go_ret
  exact ⟨rfl, hT6⟩
end Go.Proofs.Ytcfkppfnkecnjaa
