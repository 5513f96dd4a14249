/- The walk of the law FnExactRestLess. -/
import Derived.Test.YtpjhdlagjhmblaaB0
import Derived.Test.YtpjhdlagjhmblaaB0a
import Derived.Test.YtpjhdlagjhmblaaBj
namespace Go.Proofs.Ytpjhdlagjhmblaa
open Go.RowKit
set_option maxRecDepth 20000 in
set_option maxHeartbeats 4000000 in
theorem w_FnExactRestLess (s0 : Option Addr) (n0 cap0 : Nat) (z0 : List Int) (hn0 : n0 ≤ 9223372036854775807) (s1 : Option Addr) (n1 cap1 : Nat) (z1 : List Int) (hn1 : n1 ≤ 9223372036854775807) (s2 : Option Addr) (n2 cap2 : Nat) (z2 : List Int) (hn2 : n2 ≤ 9223372036854775807) (w : World) (hc0 : Ints w s0 n0 z0) (hc1 : Ints w s1 n1 z1) (hc2 : Ints w s2 n2 z2) : Calls Try.prog 10 #[.slice s0 n0 cap0, .slice s1 n1 cap1, .slice s2 n2 cap2] w fun e w' => e = .returned (.bool true) ∧ Below w.heap.size w w' := by
  obtain rfl := hc0.len
  obtain rfl := hc1.len
  obtain rfl := hc2.len
  by_cases hb0 : 1048576 < z0.length
  · have hbi : (1048576 : Int) < (z0.length : Int) := by omega
    clear hb0 
    go_enter Try.func10, Try.ntmps10
    go_wp2_with fail
    go_ret
    exact ⟨rfl, Below.refl _ _⟩
  by_cases hb1 : 1048576 < z1.length
  · have hbi : (1048576 : Int) < (z1.length : Int) := by omega
    have hbj0 : ¬ (1048576 : Int) < (z0.length : Int) := by omega
    clear hb1 hb0
    go_enter Try.func10, Try.ntmps10
    go_wp2_with fail
    go_ret
    exact ⟨rfl, Below.refl _ _⟩
  by_cases hb2 : 1048576 < z2.length
  · have hbi : (1048576 : Int) < (z2.length : Int) := by omega
    have hbj0 : ¬ (1048576 : Int) < (z0.length : Int) := by omega
    have hbj1 : ¬ (1048576 : Int) < (z1.length : Int) := by omega
    clear hb2 hb0 hb1
    go_enter Try.func10, Try.ntmps10
    go_wp2_with fail
    go_ret
    exact ⟨rfl, Below.refl _ _⟩
  have hL0 : ¬ (1048576 : Int) < (z0.length : Int) := by omega
  have hL1 : ¬ (1048576 : Int) < (z1.length : Int) := by omega
  have hL2 : ¬ (1048576 : Int) < (z2.length : Int) := by omega
  have hM0 : z0.length ≤ 1048576 := by omega
  have hM1 : z1.length ≤ 1048576 := by omega
  have hM2 : z2.length ≤ 1048576 := by omega
  clear hb0 hb1 hb2
  go_enter Try.func10, Try.ntmps10
  have hT0 := Below.refl w.heap.size w
  go_wp2_with fail
  refine (c_toIntS s0 _ cap0 z0 hM0 _ (hc0.keep hT0)).mono ?_
  rintro e v1 ⟨g1, hg1, rfl, hO1, hB1⟩
  have hT1 := bt2 hT0 hB1
  have hs1 := hB1.size
  have hA1 : (some (⟨g1, 0, none⟩ : Addr)) = none ∨ ∃ g, (some (⟨g1, 0, none⟩ : Addr)) = some ⟨g, 0, none⟩ ∧ w.heap.size ≤ g ∧ g < v1.heap.size := .inr ⟨g1, rfl, hg1, hO1.lt.2⟩
  go_wp2_with fail
  refine (c_toIntS s1 _ cap1 z1 hM1 _ (hc1.keep hT1)).mono ?_
  rintro e v2 ⟨g2, hg2, rfl, hO2, hB2⟩
  have hT2 := bt2 hT1 hB2
  have hO1 := hO1.keep hB2
  have hs2 := hB2.size
  have hA2 : (some (⟨g2, 0, none⟩ : Addr)) = none ∨ ∃ g, (some (⟨g2, 0, none⟩ : Addr)) = some ⟨g, 0, none⟩ ∧ v1.heap.size ≤ g ∧ g < v2.heap.size := .inr ⟨g2, rfl, hg2, hO2.lt.2⟩
  go_wp2_with fail
  refine (c_toIntS s2 _ cap2 z2 hM2 _ (hc2.keep hT2)).mono ?_
  rintro e v3 ⟨g3, hg3, rfl, hO3, hB3⟩
  have hT3 := bt2 hT2 hB3
  have hO1 := hO1.keep hB3
  have hO2 := hO2.keep hB3
  have hs3 := hB3.size
  have hA3 : (some (⟨g3, 0, none⟩ : Addr)) = none ∨ ∃ g, (some (⟨g3, 0, none⟩ : Addr)) = some ⟨g, 0, none⟩ ∧ v2.heap.size ≤ g ∧ g < v3.heap.size := .inr ⟨g3, rfl, hg3, hO3.lt.2⟩
  go_wp2_with fail
  refine (c_specRestLess (some ⟨g1, 0, none⟩) (some ⟨g2, 0, none⟩) (some ⟨g3, 0, none⟩) z0.length z0.length z1.length z1.length z2.length z2.length z0 z1 z2 hM0 hM1 hM2 _ (hO1.ints rfl) (hO2.ints rfl) (hO3.ints rfl)).mono ?_
  rintro e v4 ⟨rfl, hB4⟩
  have hT4 := bt2 hT3 hB4
  have hO1 := hO1.keep hB4
  have hO2 := hO2.keep hB4
  have hO3 := hO3.keep hB4
  have hs4 := hB4.size
  go_wp2_with fail
  refine (c_toIntS s0 _ cap0 z0 hM0 _ (hc0.keep hT4)).mono ?_
  rintro e v5 ⟨g5, hg5, rfl, hO5, hB5⟩
  have hT5 := bt2 hT4 hB5
  have hs5 := hB5.size
  have hA5 : (some (⟨g5, 0, none⟩ : Addr)) = none ∨ ∃ g, (some (⟨g5, 0, none⟩ : Addr)) = some ⟨g, 0, none⟩ ∧ v4.heap.size ≤ g ∧ g < v5.heap.size := .inr ⟨g5, rfl, hg5, hO5.lt.2⟩
  go_wp2_with fail
  refine (c_toIntS s1 _ cap1 z1 hM1 _ (hc1.keep hT5)).mono ?_
  rintro e v6 ⟨g6, hg6, rfl, hO6, hB6⟩
  have hT6 := bt2 hT5 hB6
  have hO5 := hO5.keep hB6
  have hs6 := hB6.size
  have hA6 : (some (⟨g6, 0, none⟩ : Addr)) = none ∨ ∃ g, (some (⟨g6, 0, none⟩ : Addr)) = some ⟨g, 0, none⟩ ∧ v5.heap.size ≤ g ∧ g < v6.heap.size := .inr ⟨g6, rfl, hg6, hO6.lt.2⟩
  go_wp2_with fail
  refine (c_toIntS s2 _ cap2 z2 hM2 _ (hc2.keep hT6)).mono ?_
  rintro e v7 ⟨g7, hg7, rfl, hO7, hB7⟩
  have hT7 := bt2 hT6 hB7
  have hO5 := hO5.keep hB7
  have hO6 := hO6.keep hB7
  have hs7 := hB7.size
  have hA7 : (some (⟨g7, 0, none⟩ : Addr)) = none ∨ ∃ g, (some (⟨g7, 0, none⟩ : Addr)) = some ⟨g, 0, none⟩ ∧ v6.heap.size ≤ g ∧ g < v7.heap.size := .inr ⟨g7, rfl, hg7, hO7.lt.2⟩
  go_wp2_with fail
  refine (c_implRestLess (some ⟨g5, 0, none⟩) (some ⟨g6, 0, none⟩) (some ⟨g7, 0, none⟩) z0.length z0.length z1.length z1.length z2.length z2.length z0 z1 z2 hM0 hM1 hM2 _ (hO5.ints rfl) (hO6.ints rfl) (hO7.ints rfl)).mono ?_
  rintro e v8 ⟨rfl, hB8⟩
  have hT8 := bt2 hT7 hB8
  have hO5 := hO5.keep hB8
  have hO6 := hO6.keep hB8
  have hO7 := hO7.keep hB8
  have hs8 := hB8.size
  go_wp2_with fail
  refine (c_toIntS s0 _ cap0 z0 hM0 _ (hc0.keep hT8)).mono ?_
  rintro e v9 ⟨g9, hg9, rfl, hO9, hB9⟩
  have hT9 := bt2 hT8 hB9
  have hO5 := hO5.keep hB9
  have hO6 := hO6.keep hB9
  have hO7 := hO7.keep hB9
  have hs9 := hB9.size
  have hA9 : (some (⟨g9, 0, none⟩ : Addr)) = none ∨ ∃ g, (some (⟨g9, 0, none⟩ : Addr)) = some ⟨g, 0, none⟩ ∧ v8.heap.size ≤ g ∧ g < v9.heap.size := .inr ⟨g9, rfl, hg9, hO9.lt.2⟩
  go_wp2_with fail
  refine (c_eqIntS _ _ _ _ _ z0 hM0 _ (spreadI hO5) (spreadI hO9)).mono ?_
  rintro e v10 ⟨rfl, hB10⟩
  have hT10 := bt2 hT9 hB10
  have hO5 := hO5.keep hB10
  have hO6 := hO6.keep hB10
  have hO7 := hO7.keep hB10
  have hO9 := hO9.keep hB10
  have hs10 := hB10.size
  go_wp2_with fail
  refine (c_toIntS s1 _ cap1 z1 hM1 _ (hc1.keep hT10)).mono ?_
  rintro e v11 ⟨g11, hg11, rfl, hO11, hB11⟩
  have hT11 := bt2 hT10 hB11
  have hO5 := hO5.keep hB11
  have hO6 := hO6.keep hB11
  have hO7 := hO7.keep hB11
  have hs11 := hB11.size
  have hA11 : (some (⟨g11, 0, none⟩ : Addr)) = none ∨ ∃ g, (some (⟨g11, 0, none⟩ : Addr)) = some ⟨g, 0, none⟩ ∧ v10.heap.size ≤ g ∧ g < v11.heap.size := .inr ⟨g11, rfl, hg11, hO11.lt.2⟩
  go_wp2_with fail
  refine (c_eqIntS _ _ _ _ _ z1 hM1 _ (spreadI hO6) (spreadI hO11)).mono ?_
  rintro e v12 ⟨rfl, hB12⟩
  have hT12 := bt2 hT11 hB12
  have hO5 := hO5.keep hB12
  have hO6 := hO6.keep hB12
  have hO7 := hO7.keep hB12
  have hO11 := hO11.keep hB12
  have hs12 := hB12.size
  go_wp2_with fail
  refine (c_toIntS s2 _ cap2 z2 hM2 _ (hc2.keep hT12)).mono ?_
  rintro e v13 ⟨g13, hg13, rfl, hO13, hB13⟩
  have hT13 := bt2 hT12 hB13
  have hO5 := hO5.keep hB13
  have hO6 := hO6.keep hB13
  have hO7 := hO7.keep hB13
  have hs13 := hB13.size
  have hA13 : (some (⟨g13, 0, none⟩ : Addr)) = none ∨ ∃ g, (some (⟨g13, 0, none⟩ : Addr)) = some ⟨g, 0, none⟩ ∧ v12.heap.size ≤ g ∧ g < v13.heap.size := .inr ⟨g13, rfl, hg13, hO13.lt.2⟩
  go_wp2_with fail
  refine (c_eqIntS _ _ _ _ _ z2 hM2 _ (spreadI hO7) (spreadI hO13)).mono ?_
  rintro e v14 ⟨rfl, hB14⟩
  have hT14 := bt2 hT13 hB14
  have hO5 := hO5.keep hB14
  have hO6 := hO6.keep hB14
  have hO7 := hO7.keep hB14
  have hO13 := hO13.keep hB14
  have hs14 := hB14.size
  go_wp2_with fail
  go_ret
  exact ⟨rfl, hT14⟩
end Go.Proofs.Ytpjhdlagjhmblaa
