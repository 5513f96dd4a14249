/- The walk of the law FnExactSolveAll. -/
import Derived.Test.YtcfkppfnkecnjaaY5
namespace Go.Proofs.Ytcfkppfnkecnjaa
open Go.RowKit
set_option maxRecDepth 20000 in
set_option maxHeartbeats 4000000 in
theorem w_FnExactSolveAll (s : Option Addr) (n cap : Nat) (zss : List (List Int)) (hn : n ≤ 9223372036854775807) (hr : ∀ i, i < n → (zss[i]?.getD []).length ≤ 9223372036854775807) (w : World) (hc : Ints2 w s n zss) : Calls Try.prog 4 #[.slice s n cap] w fun e w' => e = .returned (.bool true) ∧ Below w.heap.size w w' := by
  have hsz := c_szIntSS s n cap zss hn hr w hc
  by_cases hb : (1048576 : Int) < (n : Int) + totK zss n
  · have hv : szR 1048576 n zss = -1 := by unfold szR; rw [if_pos hb]
    rw [hv] at hsz
    clear hb hv
    go_enter Try.func4, Try.ntmps4
    go_wp2_with fail
    refine hsz.mono ?_
    rintro e w1 ⟨rfl, rfl⟩
    go_wp2_with fail
    go_ret
    exact ⟨rfl, Below.refl _ _⟩
  · have hv : szR 1048576 n zss = 1048576 - n - totK zss n := by unfold szR; rw [if_neg hb]
    rw [hv] at hsz
    have hn2 : n ≤ 1048576 := by omega
    have hr2 : ∀ i, i < n → (zss[i]?.getD []).length ≤ 1048576 := fun i hi => by have := totK_le (zss := zss) hi; omega
    have hp : (0 : Int) ≤ 1048576 - n - totK zss n := by omega
    clear hr hv hb
    generalize (1048576 : Int) - n - totK zss n = L at *
    go_enter Try.func4, Try.ntmps4
    go_wp2_with fail
    refine hsz.mono ?_
    rintro e w1 ⟨rfl, rfl⟩
    clear hsz
    go_wp2_with fail
    refine (c_toIntSS s n cap zss hn2 hr2 _ hc).mono ?_
    rintro e v1 ⟨g1, hg1, rfl, hI1, hB1⟩
    have hT1 := bt2 (Below.refl w.heap.size w) hB1
    go_wp2_with fail
    refine (c_specSolveAll _ n n zss hn2 hr2 _ hI1).mono ?_
    rintro e v2 ⟨rfl, hB2⟩
    have hX2 := Bx2.new v2 (solR zss) (solM zss)
    have hT2 := ba (bt2 hT1 hB2) (Obj.cells #[Value.int IntKind.i64 (solR zss), Value.int IntKind.i64 (solM zss)] 23)
    clear hI1
    go_wp2_with fail
    generalize v2.alloc (Obj.cells #[Value.int IntKind.i64 (solR zss), Value.int IntKind.i64 (solM zss)] 23) = V2 at *
    refine (c_toIntSS s n cap zss hn2 hr2 _ (hc.keep hT2)).mono ?_
    rintro e v3 ⟨g3, hg3, rfl, hI3, hB3⟩
    have hT3 := bt2 hT2 hB3
    have hX3 := hX2.keep hB3
    go_wp2_with fail
    refine (c_implSolveAll _ n n zss hn2 hr2 _ hI3).mono ?_
    rintro e v4 ⟨rfl, hB4⟩
    have hT4 := ba (bt2 hT3 hB4) (Obj.cells #[Value.int IntKind.i64 (solR zss), Value.int IntKind.i64 (solM zss)] 23)
    have hX4 := (hX3.keep hB4).keep (ba (Below.refl _ v4) (Obj.cells #[Value.int IntKind.i64 (solR zss), Value.int IntKind.i64 (solM zss)] 23))
    have hY4 := Bx2.new v4 (solR zss) (solM zss)
    have hI4 := (hI3.keep hB4).keep (ba (Below.refl _ v4) (Obj.cells #[Value.int IntKind.i64 (solR zss), Value.int IntKind.i64 (solM zss)] 23))
    obtain ⟨x0, x1, x2, x3, x4⟩ := hX4
    obtain ⟨y0, y1, y2, y3, y4⟩ := hY4
    go_wp2_with fail
    generalize solR zss = X at *
    generalize solM zss = Y at *
    refine (c_eqClass X Y _).mono ?_
    rintro e v5 ⟨rfl, rfl⟩
    have hT5 := ba (ba hT4 (Obj.cells #[Value.int IntKind.i64 X, Value.int IntKind.i64 Y] 23)) (Obj.cells #[Value.int IntKind.i64 X, Value.int IntKind.i64 Y] 23)
    have hI5 := (hI4.keep (ba (Below.refl _ _) (Obj.cells #[Value.int IntKind.i64 X, Value.int IntKind.i64 Y] 23))).keep (ba (Below.refl _ _) (Obj.cells #[Value.int IntKind.i64 X, Value.int IntKind.i64 Y] 23))
    clear x0 x1 x2 x3 x4 y0 y1 y2 y3 y4 hX2 hX3
    go_wp2_with fail
    generalize ((v4.alloc (Obj.cells #[Value.int IntKind.i64 X, Value.int IntKind.i64 Y] 23)).alloc (Obj.cells #[Value.int IntKind.i64 X, Value.int IntKind.i64 Y] 23)).alloc (Obj.cells #[Value.int IntKind.i64 X, Value.int IntKind.i64 Y] 23) = V5 at *
    refine (c_toIntSS s n cap zss hn2 hr2 _ (hc.keep hT5)).mono ?_
    rintro e v6 ⟨g6, hg6, rfl, hI6, hB6⟩
    have hT6 := bt2 hT5 hB6
    go_wp2_with fail
    refine (c_eqIntSS _ _ n n n zss hn2 hr2 _ (hI5.keep hB6) hI6).mono ?_
    rintro e v7 ⟨rfl, hB7⟩
    have hT7 := bt2 hT6 hB7
    go_wp2_with fail
    go_ret
    exact ⟨rfl, hT7⟩
end Go.Proofs.Ytcfkppfnkecnjaa
