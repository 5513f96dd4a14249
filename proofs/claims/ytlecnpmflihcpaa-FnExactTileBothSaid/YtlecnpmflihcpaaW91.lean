/- The walk of the law FnExactTileBoth. -/
import Derived.Test.YtlecnpmflihcpaaTt
import Derived.Test.YtlecnpmflihcpaaTf
import Derived.Test.YtlecnpmflihcpaaTg
import Derived.Test.YtlecnpmflihcpaaH3
namespace Go.Proofs.Ytlecnpmflihcpaa
open Go.RowKit
set_option maxRecDepth 20000 in
set_option maxHeartbeats 4000000 in
theorem w_FnExactTileBoth (p : Int) (s0 : Option Addr) (n0 cap0 : Nat) (z0 : List Int) (hn0 : n0 ≤ 9223372036854775807) (s1 : Option Addr) (n1 cap1 : Nat) (z1 : List Int) (hn1 : n1 ≤ 9223372036854775807) (w : World) (hc0 : Ints w s0 n0 z0) (hc1 : Ints w s1 n1 z1) : Calls Try.prog 4 #[.int .i64 p, .slice s0 n0 cap0, .slice s1 n1 cap1] w fun e w' => e = .returned (.bool true) ∧ Below w.heap.size w w' := by
  obtain rfl := hc0.len
  obtain rfl := hc1.len
  by_cases hb0 : 1048576 < z0.length
  · have hbi : (1048576 : Int) < (z0.length : Int) := by omega
    clear hb0 
    go_enter Try.func4, Try.ntmps4
    go_wp2_with fail
    go_ret
    exact ⟨rfl, Below.refl _ _⟩
  by_cases hb1 : 1048576 < z1.length
  · have hbi : (1048576 : Int) < (z1.length : Int) := by omega
    have hbj0 : ¬ (1048576 : Int) < (z0.length : Int) := by omega
    clear hb1 hb0
    go_enter Try.func4, Try.ntmps4
    go_wp2_with fail
    go_ret
    exact ⟨rfl, Below.refl _ _⟩
  have hL0 : ¬ (1048576 : Int) < (z0.length : Int) := by omega
  have hL1 : ¬ (1048576 : Int) < (z1.length : Int) := by omega
  have hM0 : z0.length ≤ 1048576 := by omega
  have hM1 : z1.length ≤ 1048576 := by omega
  clear hb0 hb1
  go_enter Try.func4, Try.ntmps4
  have hT0 := Below.refl w.heap.size w
  go_wp2_with fail
  refine (c_toI7 s0 _ cap0 z0 hM0 _ (hc0.keep hT0)).mono ?_
  rintro e v1 ⟨g1, hg1, rfl, hO1, hB1⟩
  have hT1 := bt2 hT0 hB1
  have hs1 := hB1.size
  have hA1 : (some (⟨g1, 0, none⟩ : Addr)) = none ∨ ∃ g, (some (⟨g1, 0, none⟩ : Addr)) = some ⟨g, 0, none⟩ ∧ w.heap.size ≤ g ∧ g < v1.heap.size := .inr ⟨g1, rfl, hg1, hO1.lt.2⟩
  go_wp2_with fail
  refine (c_toI7 s1 _ cap1 z1 hM1 _ (hc1.keep hT1)).mono ?_
  rintro e v2 ⟨g2, hg2, rfl, hO2, hB2⟩
  have hT2 := bt2 hT1 hB2
  have hO1 := hO1.keep hB2
  have hs2 := hB2.size
  have hA2 : (some (⟨g2, 0, none⟩ : Addr)) = none ∨ ∃ g, (some (⟨g2, 0, none⟩ : Addr)) = some ⟨g, 0, none⟩ ∧ v1.heap.size ≤ g ∧ g < v2.heap.size := .inr ⟨g2, rfl, hg2, hO2.lt.2⟩
  go_wp2_with fail
  refine (c_specTileBoth p (some ⟨g1, 0, none⟩) (some ⟨g2, 0, none⟩) z0.length z0.length z1.length z1.length z0 z1 hM0 hM1 _ (hO1.ints rfl) (hO2.ints rfl)).mono ?_
  rintro e v3 ⟨rfl, hB3⟩
  have hT3 := bt2 hT2 hB3
  have hO1 := hO1.keep hB3
  have hO2 := hO2.keep hB3
  have hs3 := hB3.size
  go_wp2_with fail
  refine (c_toI7 s0 _ cap0 z0 hM0 _ (hc0.keep hT3)).mono ?_
  rintro e v4 ⟨g4, hg4, rfl, hO4, hB4⟩
  have hT4 := bt2 hT3 hB4
  have hs4 := hB4.size
  have hA4 : (some (⟨g4, 0, none⟩ : Addr)) = none ∨ ∃ g, (some (⟨g4, 0, none⟩ : Addr)) = some ⟨g, 0, none⟩ ∧ v3.heap.size ≤ g ∧ g < v4.heap.size := .inr ⟨g4, rfl, hg4, hO4.lt.2⟩
  go_wp2_with fail
  refine (c_toI7 s1 _ cap1 z1 hM1 _ (hc1.keep hT4)).mono ?_
  rintro e v5 ⟨g5, hg5, rfl, hO5, hB5⟩
  have hT5 := bt2 hT4 hB5
  have hO4 := hO4.keep hB5
  have hs5 := hB5.size
  have hA5 : (some (⟨g5, 0, none⟩ : Addr)) = none ∨ ∃ g, (some (⟨g5, 0, none⟩ : Addr)) = some ⟨g, 0, none⟩ ∧ v4.heap.size ≤ g ∧ g < v5.heap.size := .inr ⟨g5, rfl, hg5, hO5.lt.2⟩
  go_wp2_with fail
  refine (c_implTileBoth p (some ⟨g4, 0, none⟩) (some ⟨g5, 0, none⟩) z0.length z0.length z1.length z1.length z0 z1 hM0 hM1 _ (hO4.ints rfl) (hO5.ints rfl)).mono ?_
  rintro e v6 ⟨rfl, hB6⟩
  have hT6 := bt2 hT5 hB6
  have hO4 := hO4.keep hB6
  have hO5 := hO5.keep hB6
  have hs6 := hB6.size
  go_wp2_with fail
  refine (c_toI7 s0 _ cap0 z0 hM0 _ (hc0.keep hT6)).mono ?_
  rintro e v7 ⟨g7, hg7, rfl, hO7, hB7⟩
  have hT7 := bt2 hT6 hB7
  have hO4 := hO4.keep hB7
  have hO5 := hO5.keep hB7
  have hs7 := hB7.size
  have hA7 : (some (⟨g7, 0, none⟩ : Addr)) = none ∨ ∃ g, (some (⟨g7, 0, none⟩ : Addr)) = some ⟨g, 0, none⟩ ∧ v6.heap.size ≤ g ∧ g < v7.heap.size := .inr ⟨g7, rfl, hg7, hO7.lt.2⟩
  go_wp2_with fail
  refine (c_eqIntS _ _ _ _ _ z0 hM0 _ (spreadI hO4) (spreadI hO7)).mono ?_
  rintro e v8 ⟨rfl, hB8⟩
  have hT8 := bt2 hT7 hB8
  have hO4 := hO4.keep hB8
  have hO5 := hO5.keep hB8
  have hO7 := hO7.keep hB8
  have hs8 := hB8.size
  go_wp2_with fail
  refine (c_toI7 s1 _ cap1 z1 hM1 _ (hc1.keep hT8)).mono ?_
  rintro e v9 ⟨g9, hg9, rfl, hO9, hB9⟩
  have hT9 := bt2 hT8 hB9
  have hO4 := hO4.keep hB9
  have hO5 := hO5.keep hB9
  have hs9 := hB9.size
  have hA9 : (some (⟨g9, 0, none⟩ : Addr)) = none ∨ ∃ g, (some (⟨g9, 0, none⟩ : Addr)) = some ⟨g, 0, none⟩ ∧ v8.heap.size ≤ g ∧ g < v9.heap.size := .inr ⟨g9, rfl, hg9, hO9.lt.2⟩
  go_wp2_with fail
  refine (c_eqIntS _ _ _ _ _ z1 hM1 _ (spreadI hO5) (spreadI hO9)).mono ?_
  rintro e v10 ⟨rfl, hB10⟩
  have hT10 := bt2 hT9 hB10
  have hO4 := hO4.keep hB10
  have hO5 := hO5.keep hB10
  have hO9 := hO9.keep hB10
  have hs10 := hB10.size
  go_wp2_with fail
  go_ret
  exact ⟨rfl, hT10⟩
end Go.Proofs.Ytlecnpmflihcpaa
