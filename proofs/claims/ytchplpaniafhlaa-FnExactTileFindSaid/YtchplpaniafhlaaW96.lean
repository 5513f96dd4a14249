/- The walk of the law FnExactTileFind. -/
import Derived.Test.YtchplpaniafhlaaTt
import Derived.Test.YtchplpaniafhlaaToc
import Derived.Test.YtchplpaniafhlaaTm
import Derived.Test.YtchplpaniafhlaaH3
namespace Go.Proofs.Ytchplpaniafhlaa
open Go.RowKit
set_option maxRecDepth 20000 in
set_option maxHeartbeats 4000000 in
theorem w_FnExactTileFind (p : Int) (s0 : Option Addr) (n0 cap0 : Nat) (z0 : List Int) (hn0 : n0 ≤ 9223372036854775807) (w : World) (hc0 : Ints w s0 n0 z0) : Calls Try.prog 3 #[.int .i64 p, .slice s0 n0 cap0] w fun e w' => e = .returned (.bool true) ∧ Below w.heap.size w w' := by
  obtain rfl := hc0.len
  by_cases hb0 : 1048576 < z0.length
  · have hbi : (1048576 : Int) < (z0.length : Int) := by omega
    clear hb0 
    go_enter Try.func3, Try.ntmps3
    go_wp2_with fail
    go_ret
    exact ⟨rfl, Below.refl _ _⟩
  have hL0 : ¬ (1048576 : Int) < (z0.length : Int) := by omega
  have hM0 : z0.length ≤ 1048576 := by omega
  have hR : (fndL p z0).length ≤ 1048576 := by have := fndL_le p z0; omega
  have HR := Lib.hid hR
  clear hb0
  go_enter Try.func3, Try.ntmps3
  have hT0 := Below.refl w.heap.size w
  go_wp2_with fail
  refine (c_toI7 s0 _ cap0 z0 hM0 _ (hc0.keep hT0)).mono ?_
  rintro e v1 ⟨g1, hg1, rfl, hO1, hB1⟩
  have hT1 := bt2 hT0 hB1
  have hs1 := hB1.size
  have hA1 : (some (⟨g1, 0, none⟩ : Addr)) = none ∨ ∃ g, (some (⟨g1, 0, none⟩ : Addr)) = some ⟨g, 0, none⟩ ∧ w.heap.size ≤ g ∧ g < v1.heap.size := .inr ⟨g1, rfl, hg1, hO1.lt.2⟩
  go_wp2_with fail
  refine (c_specTileFind p (some ⟨g1, 0, none⟩) z0.length z0.length z0 hM0 _ (hO1.ints rfl)).mono ?_
  rintro e v2 ⟨u2, rfl, hO2, hB2⟩
  obtain ⟨s2r, cap2r, rfl, _, hA2⟩ := hO2.spread
  have hT2 := bt2 hT1 hB2
  have hO1 := hO1.keep hB2
  have hs2 := hB2.size
  go_wp2_with fail
  refine (c_toI7 s0 _ cap0 z0 hM0 _ (hc0.keep hT2)).mono ?_
  rintro e v3 ⟨g3, hg3, rfl, hO3, hB3⟩
  have hT3 := bt2 hT2 hB3
  have hO2 := hO2.keep hB3
  have hs3 := hB3.size
  have hA3 : (some (⟨g3, 0, none⟩ : Addr)) = none ∨ ∃ g, (some (⟨g3, 0, none⟩ : Addr)) = some ⟨g, 0, none⟩ ∧ v2.heap.size ≤ g ∧ g < v3.heap.size := .inr ⟨g3, rfl, hg3, hO3.lt.2⟩
  go_wp2_with fail
  refine (c_implTileFind p (some ⟨g3, 0, none⟩) z0.length z0.length z0 hM0 _ (hO3.ints rfl)).mono ?_
  rintro e v4 ⟨u4, rfl, hO4, hB4⟩
  obtain ⟨s4r, cap4r, rfl, _, hA4⟩ := hO4.spread
  have hT4 := bt2 hT3 hB4
  have hO2 := hO2.keep hB4
  have hO3 := hO3.keep hB4
  have hs4 := hB4.size
  go_wp2_with fail
  refine (c_eqIntS _ _ _ _ _ (fndL p z0) HR.out _ (spreadI hO4) (spreadI hO2)).mono ?_
  rintro e v5 ⟨rfl, hB5⟩
  have hT5 := bt2 hT4 hB5
  have hO2 := hO2.keep hB5
  have hO3 := hO3.keep hB5
  have hO4 := hO4.keep hB5
  have hs5 := hB5.size
  go_wp2_with fail
  refine (c_toI7 s0 _ cap0 z0 hM0 _ (hc0.keep hT5)).mono ?_
  rintro e v6 ⟨g6, hg6, rfl, hO6, hB6⟩
  have hT6 := bt2 hT5 hB6
  have hO2 := hO2.keep hB6
  have hO3 := hO3.keep hB6
  have hO4 := hO4.keep hB6
  have hs6 := hB6.size
  have hA6 : (some (⟨g6, 0, none⟩ : Addr)) = none ∨ ∃ g, (some (⟨g6, 0, none⟩ : Addr)) = some ⟨g, 0, none⟩ ∧ v5.heap.size ≤ g ∧ g < v6.heap.size := .inr ⟨g6, rfl, hg6, hO6.lt.2⟩
  go_wp2_with fail
  refine (c_eqIntS _ _ _ _ _ z0 hM0 _ (spreadI hO3) (spreadI hO6)).mono ?_
  rintro e v7 ⟨rfl, hB7⟩
  have hT7 := bt2 hT6 hB7
  have hO2 := hO2.keep hB7
  have hO3 := hO3.keep hB7
  have hO4 := hO4.keep hB7
  have hO6 := hO6.keep hB7
  have hs7 := hB7.size
  go_wp2_with fail
  refine (c_markIntS _ _ _ _ _ z0 rfl hM0 1 (by omega) (by omega) _ hO3).mono ?_
  rintro e v8 ⟨rfl, hO8m, hG8⟩
  have hs8 := hG8.size
  have hO2 := hO2.other hG8 (apart24I hA2 hO3 (by omega))
  have hO4 := hO4.other hG8 (apartJ7 hA3 hO4 (by omega))
  have hT8 := hT7.grown hG8 hT7.size (fun j e => Nat.le_trans (show w.heap.size ≤ v2.heap.size by have := hT7.size; omega) (World.ownsRow.lt hO3 j e).1)
  go_wp2_with fail
  refine (c_eqIntS _ _ _ _ _ (fndL p z0) HR.out _ (spreadI hO4) (spreadI hO2)).mono ?_
  rintro e v9 ⟨rfl, hB9⟩
  have hT9 := bt2 hT8 hB9
  have hO2 := hO2.keep hB9
  have hO4 := hO4.keep hB9
  have hs9 := hB9.size
  go_wp2_with fail
  refine (c_markIntS _ _ _ _ _ (fndL p z0) rfl HR.out 1 (by omega) (by omega) _ hO4).mono ?_
  rintro e v10 ⟨rfl, hO10m, hG10⟩
  have hs10 := hG10.size
  have hO2 := hO2.other hG10 (apart24I hA2 hO4 (by omega))
  have hT10 := hT9.grown hG10 hT9.size (fun j e => Nat.le_trans (show w.heap.size ≤ v3.heap.size by have := hT9.size; omega) (World.ownsRow.lt hO4 j e).1)
  go_wp2_with fail
  refine (c_heldIntS _ _ _ HR.out 1 (by omega) (by omega) _ (spreadMI hO10m)).mono ?_
  rintro e w' ⟨rfl, rfl⟩
  go_wp2_with fail
  refine (c_toI7 s0 _ cap0 z0 hM0 _ (hc0.keep hT10)).mono ?_
  rintro e v11 ⟨g11, hg11, rfl, hO11, hB11⟩
  have hT11 := bt2 hT10 hB11
  have hO2 := hO2.keep hB11
  have hO10m := hO10m.keep hB11
  have hs11 := hB11.size
  have hA11 : (some (⟨g11, 0, none⟩ : Addr)) = none ∨ ∃ g, (some (⟨g11, 0, none⟩ : Addr)) = some ⟨g, 0, none⟩ ∧ v10.heap.size ≤ g ∧ g < v11.heap.size := .inr ⟨g11, rfl, hg11, hO11.lt.2⟩
  go_wp2_with fail
  refine (c_implTileFind p (some ⟨g11, 0, none⟩) z0.length z0.length z0 hM0 _ (hO11.ints rfl)).mono ?_
  rintro e v12 ⟨u12, rfl, hO12, hB12⟩
  obtain ⟨s12r, cap12r, rfl, _, hA12⟩ := hO12.spread
  have hT12 := bt2 hT11 hB12
  have hO2 := hO2.keep hB12
  have hO10m := hO10m.keep hB12
  have hO11 := hO11.keep hB12
  have hs12 := hB12.size
  go_wp2_with fail
  refine (c_eqIntS _ _ _ _ _ (fndL p z0) HR.out _ (spreadI hO12) (spreadI hO2)).mono ?_
  rintro e v13 ⟨rfl, hB13⟩
  have hT13 := bt2 hT12 hB13
  have hO2 := hO2.keep hB13
  have hO10m := hO10m.keep hB13
  have hO12 := hO12.keep hB13
  have hs13 := hB13.size
  go_wp2_with fail
  refine (c_heldIntS _ _ _ HR.out 1 (by omega) (by omega) _ (spreadMI hO10m)).mono ?_
  rintro e w' ⟨rfl, rfl⟩
  go_wp2_with fail
  go_ret
  exact ⟨rfl, hT13⟩
end Go.Proofs.Ytchplpaniafhlaa
