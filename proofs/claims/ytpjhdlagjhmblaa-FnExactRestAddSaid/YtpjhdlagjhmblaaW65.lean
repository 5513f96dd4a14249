/- The walk of the law FnExactRestAdd. -/
import Derived.Test.YtpjhdlagjhmblaaB0
import Derived.Test.YtpjhdlagjhmblaaB0a
import Derived.Test.YtpjhdlagjhmblaaBh
namespace Go.Proofs.Ytpjhdlagjhmblaa
open Go.RowKit
theorem addR_le (z0 z1 z2 : List Int) : (addR z0 z1 z2).length ≤ 4 := by
  unfold addR
  cases twoB z0 z1 z2
  · simp
  · simp only [cond_true]
    unfold addL
    exact four_le _ _
set_option maxRecDepth 20000 in
set_option maxHeartbeats 4000000 in
theorem w_FnExactRestAdd (s0 : Option Addr) (n0 cap0 : Nat) (z0 : List Int) (hn0 : n0 ≤ 9223372036854775807) (s1 : Option Addr) (n1 cap1 : Nat) (z1 : List Int) (hn1 : n1 ≤ 9223372036854775807) (s2 : Option Addr) (n2 cap2 : Nat) (z2 : List Int) (hn2 : n2 ≤ 9223372036854775807) (w : World) (hc0 : Ints w s0 n0 z0) (hc1 : Ints w s1 n1 z1) (hc2 : Ints w s2 n2 z2) : Calls Try.prog 8 #[.slice s0 n0 cap0, .slice s1 n1 cap1, .slice s2 n2 cap2] w fun e w' => e = .returned (.bool true) ∧ Below w.heap.size w w' := by
  obtain rfl := hc0.len
  obtain rfl := hc1.len
  obtain rfl := hc2.len
  by_cases hb0 : 1048576 < z0.length
  · have hbi : (1048576 : Int) < (z0.length : Int) := by omega
    clear hb0 
    go_enter Try.func8, Try.ntmps8
    go_wp2_with fail
    go_ret
    exact ⟨rfl, Below.refl _ _⟩
  by_cases hb1 : 1048576 < z1.length
  · have hbi : (1048576 : Int) < (z1.length : Int) := by omega
    have hbj0 : ¬ (1048576 : Int) < (z0.length : Int) := by omega
    clear hb1 hb0
    go_enter Try.func8, Try.ntmps8
    go_wp2_with fail
    go_ret
    exact ⟨rfl, Below.refl _ _⟩
  by_cases hb2 : 1048576 < z2.length
  · have hbi : (1048576 : Int) < (z2.length : Int) := by omega
    have hbj0 : ¬ (1048576 : Int) < (z0.length : Int) := by omega
    have hbj1 : ¬ (1048576 : Int) < (z1.length : Int) := by omega
    clear hb2 hb0 hb1
    go_enter Try.func8, Try.ntmps8
    go_wp2_with fail
    go_ret
    exact ⟨rfl, Below.refl _ _⟩
  have hL0 : ¬ (1048576 : Int) < (z0.length : Int) := by omega
  have hL1 : ¬ (1048576 : Int) < (z1.length : Int) := by omega
  have hL2 : ¬ (1048576 : Int) < (z2.length : Int) := by omega
  have hM0 : z0.length ≤ 1048576 := by omega
  have hM1 : z1.length ≤ 1048576 := by omega
  have hM2 : z2.length ≤ 1048576 := by omega
  have hR : (addR z0 z1 z2).length ≤ 1048576 := by have := addR_le z0 z1 z2; omega
  have HR := Lib.hid hR
  clear hb0 hb1 hb2
  go_enter Try.func8, Try.ntmps8
  have hT0 := Below.refl w.heap.size w
  go_wp2_with fail
  refine (c_toIntS s0 _ cap0 z0 hM0 _ (hc0.keep hT0)).mono ?_
  rintro e v1 ⟨g1, hg1, rfl, hO1, hB1⟩
  have hT1 := bt2 hT0 hB1
  have hs1 := hB1.size
  have hA1 : (some (⟨g1, 0, none⟩ : Addr)) = none ∨ ∃ g, (some (⟨g1, 0, none⟩ : Addr)) = some ⟨g, 0, none⟩ ∧ w.heap.size ≤ g ∧ g < v1.heap.size := .inr ⟨g1, rfl, hg1, hO1.lt.2⟩
  go_wp2_with fail
  refine (c_toIntS s1 _ cap1 z1 hM1 _ (hc1.keep hT1)).mono ?_
  rintro e v2 ⟨g2, hg2, rfl, hO2, hB2⟩
  have hT2 := bt2 hT1 hB2
  have hO1 := hO1.keep hB2
  have hs2 := hB2.size
  have hA2 : (some (⟨g2, 0, none⟩ : Addr)) = none ∨ ∃ g, (some (⟨g2, 0, none⟩ : Addr)) = some ⟨g, 0, none⟩ ∧ v1.heap.size ≤ g ∧ g < v2.heap.size := .inr ⟨g2, rfl, hg2, hO2.lt.2⟩
  go_wp2_with fail
  refine (c_toIntS s2 _ cap2 z2 hM2 _ (hc2.keep hT2)).mono ?_
  rintro e v3 ⟨g3, hg3, rfl, hO3, hB3⟩
  have hT3 := bt2 hT2 hB3
  have hO1 := hO1.keep hB3
  have hO2 := hO2.keep hB3
  have hs3 := hB3.size
  have hA3 : (some (⟨g3, 0, none⟩ : Addr)) = none ∨ ∃ g, (some (⟨g3, 0, none⟩ : Addr)) = some ⟨g, 0, none⟩ ∧ v2.heap.size ≤ g ∧ g < v3.heap.size := .inr ⟨g3, rfl, hg3, hO3.lt.2⟩
  go_wp2_with fail
  refine (c_specRestAdd (some ⟨g1, 0, none⟩) (some ⟨g2, 0, none⟩) (some ⟨g3, 0, none⟩) z0.length z0.length z1.length z1.length z2.length z2.length z0 z1 z2 hM0 hM1 hM2 _ (hO1.ints rfl) (hO2.ints rfl) (hO3.ints rfl)).mono ?_
  rintro e v4 ⟨u4, rfl, hO4, hB4⟩
  obtain ⟨s4r, cap4r, rfl, _, hA4⟩ := hO4.spread
  have hT4 := bt2 hT3 hB4
  have hO1 := hO1.keep hB4
  have hO2 := hO2.keep hB4
  have hO3 := hO3.keep hB4
  have hs4 := hB4.size
  go_wp2_with fail
  refine (c_toIntS s0 _ cap0 z0 hM0 _ (hc0.keep hT4)).mono ?_
  rintro e v5 ⟨g5, hg5, rfl, hO5, hB5⟩
  have hT5 := bt2 hT4 hB5
  have hO4 := hO4.keep hB5
  have hs5 := hB5.size
  have hA5 : (some (⟨g5, 0, none⟩ : Addr)) = none ∨ ∃ g, (some (⟨g5, 0, none⟩ : Addr)) = some ⟨g, 0, none⟩ ∧ v4.heap.size ≤ g ∧ g < v5.heap.size := .inr ⟨g5, rfl, hg5, hO5.lt.2⟩
  go_wp2_with fail
  refine (c_toIntS s1 _ cap1 z1 hM1 _ (hc1.keep hT5)).mono ?_
  rintro e v6 ⟨g6, hg6, rfl, hO6, hB6⟩
  have hT6 := bt2 hT5 hB6
  have hO4 := hO4.keep hB6
  have hO5 := hO5.keep hB6
  have hs6 := hB6.size
  have hA6 : (some (⟨g6, 0, none⟩ : Addr)) = none ∨ ∃ g, (some (⟨g6, 0, none⟩ : Addr)) = some ⟨g, 0, none⟩ ∧ v5.heap.size ≤ g ∧ g < v6.heap.size := .inr ⟨g6, rfl, hg6, hO6.lt.2⟩
  go_wp2_with fail
  refine (c_toIntS s2 _ cap2 z2 hM2 _ (hc2.keep hT6)).mono ?_
  rintro e v7 ⟨g7, hg7, rfl, hO7, hB7⟩
  have hT7 := bt2 hT6 hB7
  have hO4 := hO4.keep hB7
  have hO5 := hO5.keep hB7
  have hO6 := hO6.keep hB7
  have hs7 := hB7.size
  have hA7 : (some (⟨g7, 0, none⟩ : Addr)) = none ∨ ∃ g, (some (⟨g7, 0, none⟩ : Addr)) = some ⟨g, 0, none⟩ ∧ v6.heap.size ≤ g ∧ g < v7.heap.size := .inr ⟨g7, rfl, hg7, hO7.lt.2⟩
  go_wp2_with fail
  refine (c_implRestAdd (some ⟨g5, 0, none⟩) (some ⟨g6, 0, none⟩) (some ⟨g7, 0, none⟩) z0.length z0.length z1.length z1.length z2.length z2.length z0 z1 z2 hM0 hM1 hM2 _ (hO5.ints rfl) (hO6.ints rfl) (hO7.ints rfl)).mono ?_
  rintro e v8 ⟨u8, rfl, hO8, hB8⟩
  obtain ⟨s8r, cap8r, rfl, _, hA8⟩ := hO8.spread
  have hT8 := bt2 hT7 hB8
  have hO4 := hO4.keep hB8
  have hO5 := hO5.keep hB8
  have hO6 := hO6.keep hB8
  have hO7 := hO7.keep hB8
  have hs8 := hB8.size
  go_wp2_with fail
  refine (c_eqIntS _ _ _ _ _ (addR z0 z1 z2) HR.out _ (spreadI hO8) (spreadI hO4)).mono ?_
  rintro e v9 ⟨rfl, hB9⟩
  have hT9 := bt2 hT8 hB9
  have hO4 := hO4.keep hB9
  have hO5 := hO5.keep hB9
  have hO6 := hO6.keep hB9
  have hO7 := hO7.keep hB9
  have hO8 := hO8.keep hB9
  have hs9 := hB9.size
  go_wp2_with fail
  refine (c_toIntS s0 _ cap0 z0 hM0 _ (hc0.keep hT9)).mono ?_
  rintro e v10 ⟨g10, hg10, rfl, hO10, hB10⟩
  have hT10 := bt2 hT9 hB10
  have hO4 := hO4.keep hB10
  have hO5 := hO5.keep hB10
  have hO6 := hO6.keep hB10
  have hO7 := hO7.keep hB10
  have hO8 := hO8.keep hB10
  have hs10 := hB10.size
  have hA10 : (some (⟨g10, 0, none⟩ : Addr)) = none ∨ ∃ g, (some (⟨g10, 0, none⟩ : Addr)) = some ⟨g, 0, none⟩ ∧ v9.heap.size ≤ g ∧ g < v10.heap.size := .inr ⟨g10, rfl, hg10, hO10.lt.2⟩
  go_wp2_with fail
  refine (c_eqIntS _ _ _ _ _ z0 hM0 _ (spreadI hO5) (spreadI hO10)).mono ?_
  rintro e v11 ⟨rfl, hB11⟩
  have hT11 := bt2 hT10 hB11
  have hO4 := hO4.keep hB11
  have hO5 := hO5.keep hB11
  have hO6 := hO6.keep hB11
  have hO7 := hO7.keep hB11
  have hO8 := hO8.keep hB11
  have hO10 := hO10.keep hB11
  have hs11 := hB11.size
  go_wp2_with fail
  refine (c_toIntS s1 _ cap1 z1 hM1 _ (hc1.keep hT11)).mono ?_
  rintro e v12 ⟨g12, hg12, rfl, hO12, hB12⟩
  have hT12 := bt2 hT11 hB12
  have hO4 := hO4.keep hB12
  have hO5 := hO5.keep hB12
  have hO6 := hO6.keep hB12
  have hO7 := hO7.keep hB12
  have hO8 := hO8.keep hB12
  have hs12 := hB12.size
  have hA12 : (some (⟨g12, 0, none⟩ : Addr)) = none ∨ ∃ g, (some (⟨g12, 0, none⟩ : Addr)) = some ⟨g, 0, none⟩ ∧ v11.heap.size ≤ g ∧ g < v12.heap.size := .inr ⟨g12, rfl, hg12, hO12.lt.2⟩
  go_wp2_with fail
  refine (c_eqIntS _ _ _ _ _ z1 hM1 _ (spreadI hO6) (spreadI hO12)).mono ?_
  rintro e v13 ⟨rfl, hB13⟩
  have hT13 := bt2 hT12 hB13
  have hO4 := hO4.keep hB13
  have hO5 := hO5.keep hB13
  have hO6 := hO6.keep hB13
  have hO7 := hO7.keep hB13
  have hO8 := hO8.keep hB13
  have hO12 := hO12.keep hB13
  have hs13 := hB13.size
  go_wp2_with fail
  refine (c_toIntS s2 _ cap2 z2 hM2 _ (hc2.keep hT13)).mono ?_
  rintro e v14 ⟨g14, hg14, rfl, hO14, hB14⟩
  have hT14 := bt2 hT13 hB14
  have hO4 := hO4.keep hB14
  have hO5 := hO5.keep hB14
  have hO6 := hO6.keep hB14
  have hO7 := hO7.keep hB14
  have hO8 := hO8.keep hB14
  have hs14 := hB14.size
  have hA14 : (some (⟨g14, 0, none⟩ : Addr)) = none ∨ ∃ g, (some (⟨g14, 0, none⟩ : Addr)) = some ⟨g, 0, none⟩ ∧ v13.heap.size ≤ g ∧ g < v14.heap.size := .inr ⟨g14, rfl, hg14, hO14.lt.2⟩
  go_wp2_with fail
  refine (c_eqIntS _ _ _ _ _ z2 hM2 _ (spreadI hO7) (spreadI hO14)).mono ?_
  rintro e v15 ⟨rfl, hB15⟩
  have hT15 := bt2 hT14 hB15
  have hO4 := hO4.keep hB15
  have hO5 := hO5.keep hB15
  have hO6 := hO6.keep hB15
  have hO7 := hO7.keep hB15
  have hO8 := hO8.keep hB15
  have hO14 := hO14.keep hB15
  have hs15 := hB15.size
  go_wp2_with fail
  refine (c_markIntS _ _ _ _ _ z0 rfl hM0 1 (by omega) (by omega) _ hO5).mono ?_
  rintro e v16 ⟨rfl, hO16m, hG16⟩
  have hs16 := hG16.size
  have hO4 := hO4.other hG16 (apart24I hA4 hO5 (by omega))
  have hO6 := hO6.other hG16 (apartJ hA5 hO6 (by omega))
  have hO7 := hO7.other hG16 (apartJ hA5 hO7 (by omega))
  have hO8 := hO8.other hG16 (apartJ hA5 hO8 (by omega))
  have hT16 := hT15.grown hG16 hT15.size (fun j e => Nat.le_trans (show w.heap.size ≤ v4.heap.size by have := hT15.size; omega) (World.ownsRow.lt hO5 j e).1)
  go_wp2_with fail
  refine (c_markIntS _ _ _ _ _ z1 rfl hM1 (1 + (z0.length : Int)) (by omega) (by omega) _ hO6).mono ?_
  rintro e v17 ⟨rfl, hO17m, hG17⟩
  have hs17 := hG17.size
  have hO4 := hO4.other hG17 (apart24I hA4 hO6 (by omega))
  have hO7 := hO7.other hG17 (apartJ hA6 hO7 (by omega))
  have hO8 := hO8.other hG17 (apartJ hA6 hO8 (by omega))
  have hT17 := hT16.grown hG17 hT16.size (fun j e => Nat.le_trans (show w.heap.size ≤ v5.heap.size by have := hT16.size; omega) (World.ownsRow.lt hO6 j e).1)
  go_wp2_with fail
  refine (c_markIntS _ _ _ _ _ z2 rfl hM2 ((1 + (z0.length : Int)) + (z1.length : Int)) (by omega) (by omega) _ hO7).mono ?_
  rintro e v18 ⟨rfl, hO18m, hG18⟩
  have hs18 := hG18.size
  have hO4 := hO4.other hG18 (apart24I hA4 hO7 (by omega))
  have hO8 := hO8.other hG18 (apartJ hA7 hO8 (by omega))
  have hT18 := hT17.grown hG18 hT17.size (fun j e => Nat.le_trans (show w.heap.size ≤ v6.heap.size by have := hT17.size; omega) (World.ownsRow.lt hO7 j e).1)
  go_wp2_with fail
  refine (c_eqIntS _ _ _ _ _ (addR z0 z1 z2) HR.out _ (spreadI hO8) (spreadI hO4)).mono ?_
  rintro e v19 ⟨rfl, hB19⟩
  have hT19 := bt2 hT18 hB19
  have hO4 := hO4.keep hB19
  have hO8 := hO8.keep hB19
  have hs19 := hB19.size
  go_wp2_with fail
  refine (c_markIntS _ _ _ _ _ (addR z0 z1 z2) rfl HR.out 1 (by omega) (by omega) _ hO8).mono ?_
  rintro e v20 ⟨rfl, hO20m, hG20⟩
  have hs20 := hG20.size
  have hO4 := hO4.other hG20 (apart24I hA4 hO8 (by omega))
  have hT20 := hT19.grown hG20 hT19.size (fun j e => Nat.le_trans (show w.heap.size ≤ v7.heap.size by have := hT19.size; omega) (World.ownsRow.lt hO8 j e).1)
  go_wp2_with fail
  refine (c_heldIntS _ _ _ HR.out 1 (by omega) (by omega) _ (spreadMI hO20m)).mono ?_
  rintro e w' ⟨rfl, rfl⟩
  go_wp2_with fail
  refine (c_toIntS s0 _ cap0 z0 hM0 _ (hc0.keep hT20)).mono ?_
  rintro e v21 ⟨g21, hg21, rfl, hO21, hB21⟩
  have hT21 := bt2 hT20 hB21
  have hO4 := hO4.keep hB21
  have hO20m := hO20m.keep hB21
  have hs21 := hB21.size
  have hA21 : (some (⟨g21, 0, none⟩ : Addr)) = none ∨ ∃ g, (some (⟨g21, 0, none⟩ : Addr)) = some ⟨g, 0, none⟩ ∧ v20.heap.size ≤ g ∧ g < v21.heap.size := .inr ⟨g21, rfl, hg21, hO21.lt.2⟩
  go_wp2_with fail
  refine (c_toIntS s1 _ cap1 z1 hM1 _ (hc1.keep hT21)).mono ?_
  rintro e v22 ⟨g22, hg22, rfl, hO22, hB22⟩
  have hT22 := bt2 hT21 hB22
  have hO4 := hO4.keep hB22
  have hO20m := hO20m.keep hB22
  have hO21 := hO21.keep hB22
  have hs22 := hB22.size
  have hA22 : (some (⟨g22, 0, none⟩ : Addr)) = none ∨ ∃ g, (some (⟨g22, 0, none⟩ : Addr)) = some ⟨g, 0, none⟩ ∧ v21.heap.size ≤ g ∧ g < v22.heap.size := .inr ⟨g22, rfl, hg22, hO22.lt.2⟩
  go_wp2_with fail
  refine (c_toIntS s2 _ cap2 z2 hM2 _ (hc2.keep hT22)).mono ?_
  rintro e v23 ⟨g23, hg23, rfl, hO23, hB23⟩
  have hT23 := bt2 hT22 hB23
  have hO4 := hO4.keep hB23
  have hO20m := hO20m.keep hB23
  have hO21 := hO21.keep hB23
  have hO22 := hO22.keep hB23
  have hs23 := hB23.size
  have hA23 : (some (⟨g23, 0, none⟩ : Addr)) = none ∨ ∃ g, (some (⟨g23, 0, none⟩ : Addr)) = some ⟨g, 0, none⟩ ∧ v22.heap.size ≤ g ∧ g < v23.heap.size := .inr ⟨g23, rfl, hg23, hO23.lt.2⟩
  go_wp2_with fail
  refine (c_implRestAdd (some ⟨g21, 0, none⟩) (some ⟨g22, 0, none⟩) (some ⟨g23, 0, none⟩) z0.length z0.length z1.length z1.length z2.length z2.length z0 z1 z2 hM0 hM1 hM2 _ (hO21.ints rfl) (hO22.ints rfl) (hO23.ints rfl)).mono ?_
  rintro e v24 ⟨u24, rfl, hO24, hB24⟩
  obtain ⟨s24r, cap24r, rfl, _, hA24⟩ := hO24.spread
  have hT24 := bt2 hT23 hB24
  have hO4 := hO4.keep hB24
  have hO20m := hO20m.keep hB24
  have hO21 := hO21.keep hB24
  have hO22 := hO22.keep hB24
  have hO23 := hO23.keep hB24
  have hs24 := hB24.size
  go_wp2_with fail
  refine (c_eqIntS _ _ _ _ _ (addR z0 z1 z2) HR.out _ (spreadI hO24) (spreadI hO4)).mono ?_
  rintro e v25 ⟨rfl, hB25⟩
  have hT25 := bt2 hT24 hB25
  have hO4 := hO4.keep hB25
  have hO20m := hO20m.keep hB25
  have hO24 := hO24.keep hB25
  have hs25 := hB25.size
  go_wp2_with fail
  refine (c_heldIntS _ _ _ HR.out 1 (by omega) (by omega) _ (spreadMI hO20m)).mono ?_
  rintro e w' ⟨rfl, rfl⟩
  go_wp2_with fail
  go_ret
  exact ⟨rfl, hT25⟩
end Go.Proofs.Ytpjhdlagjhmblaa
