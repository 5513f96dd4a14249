/- The walk of the law FnExactTileCount. -/
import Derived.Test.YtchplpaniafhlaaTt
import Derived.Test.YtchplpaniafhlaaToc
import Derived.Test.YtchplpaniafhlaaTm
import Derived.Test.YtchplpaniafhlaaH3
namespace Go.Proofs.Ytchplpaniafhlaa
open Go.RowKit
set_option maxRecDepth 20000 in
set_option maxHeartbeats 4000000 in
theorem w_FnExactTileCount (p : Int) (s0 : Option Addr) (n0 cap0 : Nat) (z0 : List Int) (hn0 : n0 ≤ 9223372036854775807) (w : World) (hc0 : Ints w s0 n0 z0) : Calls Try.prog 4 #[.int .i64 p, .slice s0 n0 cap0] w fun e w' => e = .returned (.bool true) ∧ Below w.heap.size w w' := by
  obtain rfl := hc0.len
  by_cases hb0 : 1048576 < z0.length
  · have hbi : (1048576 : Int) < (z0.length : Int) := by omega
    clear hb0 
    go_enter Try.func4, Try.ntmps4
    go_wp2_with fail
    go_ret
    exact ⟨rfl, Below.refl _ _⟩
  have hL0 : ¬ (1048576 : Int) < (z0.length : Int) := by omega
  have hM0 : z0.length ≤ 1048576 := by omega
  clear hb0
  go_enter Try.func4, Try.ntmps4
  have hT0 := Below.refl w.heap.size w
  go_wp2_with fail
  refine (c_toI7 s0 _ cap0 z0 hM0 _ (hc0.keep hT0)).mono ?_
  rintro e v1 ⟨g1, hg1, rfl, hO1, hB1⟩
  have hT1 := bt2 hT0 hB1
  have hs1 := hB1.size
  have hA1 : (some (⟨g1, 0, none⟩ : Addr)) = none ∨ ∃ g, (some (⟨g1, 0, none⟩ : Addr)) = some ⟨g, 0, none⟩ ∧ w.heap.size ≤ g ∧ g < v1.heap.size := .inr ⟨g1, rfl, hg1, hO1.lt.2⟩
  go_wp2_with fail
  refine (c_specTileCount p (some ⟨g1, 0, none⟩) z0.length z0.length z0 hM0 _ (hO1.ints rfl)).mono ?_
  rintro e v2 ⟨rfl, hB2⟩
  have hT2 := bt2 hT1 hB2
  have hO1 := hO1.keep hB2
  have hs2 := hB2.size
  go_wp2_with fail
  refine (c_toI7 s0 _ cap0 z0 hM0 _ (hc0.keep hT2)).mono ?_
  rintro e v3 ⟨g3, hg3, rfl, hO3, hB3⟩
  have hT3 := bt2 hT2 hB3
  have hs3 := hB3.size
  have hA3 : (some (⟨g3, 0, none⟩ : Addr)) = none ∨ ∃ g, (some (⟨g3, 0, none⟩ : Addr)) = some ⟨g, 0, none⟩ ∧ v2.heap.size ≤ g ∧ g < v3.heap.size := .inr ⟨g3, rfl, hg3, hO3.lt.2⟩
  go_wp2_with fail
  refine (c_implTileCount p (some ⟨g3, 0, none⟩) z0.length z0.length z0 hM0 _ (hO3.ints rfl)).mono ?_
  rintro e v4 ⟨rfl, hB4⟩
  have hT4 := bt2 hT3 hB4
  have hO3 := hO3.keep hB4
  have hs4 := hB4.size
  go_wp2_with fail
  refine (c_toI7 s0 _ cap0 z0 hM0 _ (hc0.keep hT4)).mono ?_
  rintro e v5 ⟨g5, hg5, rfl, hO5, hB5⟩
  have hT5 := bt2 hT4 hB5
  have hO3 := hO3.keep hB5
  have hs5 := hB5.size
  have hA5 : (some (⟨g5, 0, none⟩ : Addr)) = none ∨ ∃ g, (some (⟨g5, 0, none⟩ : Addr)) = some ⟨g, 0, none⟩ ∧ v4.heap.size ≤ g ∧ g < v5.heap.size := .inr ⟨g5, rfl, hg5, hO5.lt.2⟩
  go_wp2_with fail
  refine (c_eqIntS _ _ _ _ _ z0 hM0 _ (spreadI hO3) (spreadI hO5)).mono ?_
  rintro e v6 ⟨rfl, hB6⟩
  have hT6 := bt2 hT5 hB6
  have hO3 := hO3.keep hB6
  have hO5 := hO5.keep hB6
  have hs6 := hB6.size
  go_wp2_with fail
  go_ret
  exact ⟨rfl, hT6⟩
end Go.Proofs.Ytchplpaniafhlaa
