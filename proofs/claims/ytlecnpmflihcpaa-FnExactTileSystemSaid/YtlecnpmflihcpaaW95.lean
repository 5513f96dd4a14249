/- The walk of the law FnExactTileSystem. -/
import Derived.Test.YtlecnpmflihcpaaTt
import Derived.Test.YtlecnpmflihcpaaTf
import Derived.Test.YtlecnpmflihcpaaTg
import Derived.Test.YtlecnpmflihcpaaH1
import Derived.Test.YtlecnpmflihcpaaH2
import Derived.Test.YtlecnpmflihcpaaH3
namespace Go.Proofs.Ytlecnpmflihcpaa
open Go.RowKit
theorem tsyR_le (n : Int) (a b : List Int) : (tsyR n a b).length ≤ 24 := by
  unfold tsyR
  cases h : tsyB n a b
  · simp
  · simp only [tsyB, Bool.and_eq_true, decide_eq_true_eq] at h
    have h2 := h.2
    simp only [cond_true, tsyL, List.length_map]
    omega
theorem apartJC7 {w : World} {base B n m c d x : Nat} {s t : Option Addr} {e : TypeId} {zs : List Cl} (h : s = none ∨ ∃ g, s = some ⟨g, 0, none⟩ ∧ base ≤ g ∧ g < B) (hO : OwnC w x e (.slice t m d) zs) (hB : B ≤ x) : (Value.slice t m d).ownBlock = none ∨ (Value.slice t m d).ownBlock ≠ (Value.slice s n c).ownBlock := by
  rcases apart24 (n := n) (c := c) h hO hB with h1 | h1
  · rcases hO.cases with ⟨hv, _⟩ | ⟨g, cap, hv, hg⟩
    · left; rw [hv]; rfl
    · right; rw [h1, hv]; simp [Value.ownBlock]
  · exact .inr (Ne.symm h1)
set_option maxRecDepth 20000 in
set_option maxHeartbeats 4000000 in
theorem w_FnExactTileSystem (p : Int) (s0 : Option Addr) (n0 cap0 : Nat) (z0 : List Int) (hn0 : n0 ≤ 9223372036854775807) (s1 : Option Addr) (n1 cap1 : Nat) (z1 : List Int) (hn1 : n1 ≤ 9223372036854775807) (w : World) (hc0 : Ints w s0 n0 z0) (hc1 : Ints w s1 n1 z1) : Calls Try.prog 10 #[.int .i64 p, .slice s0 n0 cap0, .slice s1 n1 cap1] w fun e w' => e = .returned (.bool true) ∧ Below w.heap.size w w' := by
  obtain rfl := hc0.len
  obtain rfl := hc1.len
  by_cases hb0 : 1048576 < z0.length
  · have hbi : (1048576 : Int) < (z0.length : Int) := by omega
    clear hb0 
    go_enter Try.func10, Try.ntmps10
    go_wp2_with fail
    go_ret
    exact ⟨rfl, Below.refl _ _⟩
  by_cases hb1 : 1048576 < z1.length
  · have hbi : (1048576 : Int) < (z1.length : Int) := by omega
    have hbj0 : ¬ (1048576 : Int) < (z0.length : Int) := by omega
    clear hb1 hb0
    go_enter Try.func10, Try.ntmps10
    go_wp2_with fail
    go_ret
    exact ⟨rfl, Below.refl _ _⟩
  have hL0 : ¬ (1048576 : Int) < (z0.length : Int) := by omega
  have hL1 : ¬ (1048576 : Int) < (z1.length : Int) := by omega
  have hM0 : z0.length ≤ 1048576 := by omega
  have hM1 : z1.length ≤ 1048576 := by omega
  have hR : (tsyR p z0 z1).length ≤ 1048576 := by have := tsyR_le p z0 z1; omega
  have HR := Lib.hid hR
  clear hb0 hb1
  go_enter Try.func10, Try.ntmps10
  have hT0 := Below.refl w.heap.size w
  go_wp2_with fail
  refine (c_toI7 s0 _ cap0 z0 hM0 _ (hc0.keep hT0)).mono ?_
  rintro e v1 ⟨g1, hg1, rfl, hO1, hB1⟩
  have hT1 := bt2 hT0 hB1
  have hs1 := hB1.size
  have hA1 : (some (⟨g1, 0, none⟩ : Addr)) = none ∨ ∃ g, (some (⟨g1, 0, none⟩ : Addr)) = some ⟨g, 0, none⟩ ∧ w.heap.size ≤ g ∧ g < v1.heap.size := .inr ⟨g1, rfl, hg1, hO1.lt.2⟩
  go_wp2_with fail
  refine (c_toI7 s1 _ cap1 z1 hM1 _ (hc1.keep hT1)).mono ?_
  rintro e v2 ⟨g2, hg2, rfl, hO2, hB2⟩
  have hT2 := bt2 hT1 hB2
  have hO1 := hO1.keep hB2
  have hs2 := hB2.size
  have hA2 : (some (⟨g2, 0, none⟩ : Addr)) = none ∨ ∃ g, (some (⟨g2, 0, none⟩ : Addr)) = some ⟨g, 0, none⟩ ∧ v1.heap.size ≤ g ∧ g < v2.heap.size := .inr ⟨g2, rfl, hg2, hO2.lt.2⟩
  go_wp2_with fail
  refine (c_specTileSystem p (some ⟨g1, 0, none⟩) (some ⟨g2, 0, none⟩) z0.length z0.length z1.length z1.length z0 z1 hM0 hM1 _ (hO1.ints rfl) (hO2.ints rfl)).mono ?_
  rintro e v3 ⟨u3, rfl, hO3, hB3⟩
  obtain ⟨s3r, cap3r, rfl, _, hA3⟩ := hO3.spread
  have hT3 := bt2 hT2 hB3
  have hO1 := hO1.keep hB3
  have hO2 := hO2.keep hB3
  have hs3 := hB3.size
  go_wp2_with fail
  refine (c_toI7 s0 _ cap0 z0 hM0 _ (hc0.keep hT3)).mono ?_
  rintro e v4 ⟨g4, hg4, rfl, hO4, hB4⟩
  have hT4 := bt2 hT3 hB4
  have hO3 := hO3.keep hB4
  have hs4 := hB4.size
  have hA4 : (some (⟨g4, 0, none⟩ : Addr)) = none ∨ ∃ g, (some (⟨g4, 0, none⟩ : Addr)) = some ⟨g, 0, none⟩ ∧ v3.heap.size ≤ g ∧ g < v4.heap.size := .inr ⟨g4, rfl, hg4, hO4.lt.2⟩
  go_wp2_with fail
  refine (c_toI7 s1 _ cap1 z1 hM1 _ (hc1.keep hT4)).mono ?_
  rintro e v5 ⟨g5, hg5, rfl, hO5, hB5⟩
  have hT5 := bt2 hT4 hB5
  have hO3 := hO3.keep hB5
  have hO4 := hO4.keep hB5
  have hs5 := hB5.size
  have hA5 : (some (⟨g5, 0, none⟩ : Addr)) = none ∨ ∃ g, (some (⟨g5, 0, none⟩ : Addr)) = some ⟨g, 0, none⟩ ∧ v4.heap.size ≤ g ∧ g < v5.heap.size := .inr ⟨g5, rfl, hg5, hO5.lt.2⟩
  go_wp2_with fail
  refine (c_implTileSystem p (some ⟨g4, 0, none⟩) (some ⟨g5, 0, none⟩) z0.length z0.length z1.length z1.length z0 z1 hM0 hM1 _ (hO4.ints rfl) (hO5.ints rfl)).mono ?_
  rintro e v6 ⟨u6, rfl, hO6, hB6⟩
  obtain ⟨s6r, cap6r, rfl, _, hA6⟩ := hO6.spread
  have hT6 := bt2 hT5 hB6
  have hO3 := hO3.keep hB6
  have hO4 := hO4.keep hB6
  have hO5 := hO5.keep hB6
  have hs6 := hB6.size
  go_wp2_with fail
  refine (c_eqClassS _ _ _ _ _ (tsyR p z0 z1) HR.out _ (spreadC hO6) (spreadC hO3)).mono ?_
  rintro e v7 ⟨rfl, hB7⟩
  have hT7 := bt2 hT6 hB7
  have hO3 := hO3.keep hB7
  have hO4 := hO4.keep hB7
  have hO5 := hO5.keep hB7
  have hO6 := hO6.keep hB7
  have hs7 := hB7.size
  go_wp2_with fail
  refine (c_toI7 s0 _ cap0 z0 hM0 _ (hc0.keep hT7)).mono ?_
  rintro e v8 ⟨g8, hg8, rfl, hO8, hB8⟩
  have hT8 := bt2 hT7 hB8
  have hO3 := hO3.keep hB8
  have hO4 := hO4.keep hB8
  have hO5 := hO5.keep hB8
  have hO6 := hO6.keep hB8
  have hs8 := hB8.size
  have hA8 : (some (⟨g8, 0, none⟩ : Addr)) = none ∨ ∃ g, (some (⟨g8, 0, none⟩ : Addr)) = some ⟨g, 0, none⟩ ∧ v7.heap.size ≤ g ∧ g < v8.heap.size := .inr ⟨g8, rfl, hg8, hO8.lt.2⟩
  go_wp2_with fail
  refine (c_eqIntS _ _ _ _ _ z0 hM0 _ (spreadI hO4) (spreadI hO8)).mono ?_
  rintro e v9 ⟨rfl, hB9⟩
  have hT9 := bt2 hT8 hB9
  have hO3 := hO3.keep hB9
  have hO4 := hO4.keep hB9
  have hO5 := hO5.keep hB9
  have hO6 := hO6.keep hB9
  have hO8 := hO8.keep hB9
  have hs9 := hB9.size
  go_wp2_with fail
  refine (c_toI7 s1 _ cap1 z1 hM1 _ (hc1.keep hT9)).mono ?_
  rintro e v10 ⟨g10, hg10, rfl, hO10, hB10⟩
  have hT10 := bt2 hT9 hB10
  have hO3 := hO3.keep hB10
  have hO4 := hO4.keep hB10
  have hO5 := hO5.keep hB10
  have hO6 := hO6.keep hB10
  have hs10 := hB10.size
  have hA10 : (some (⟨g10, 0, none⟩ : Addr)) = none ∨ ∃ g, (some (⟨g10, 0, none⟩ : Addr)) = some ⟨g, 0, none⟩ ∧ v9.heap.size ≤ g ∧ g < v10.heap.size := .inr ⟨g10, rfl, hg10, hO10.lt.2⟩
  go_wp2_with fail
  refine (c_eqIntS _ _ _ _ _ z1 hM1 _ (spreadI hO5) (spreadI hO10)).mono ?_
  rintro e v11 ⟨rfl, hB11⟩
  have hT11 := bt2 hT10 hB11
  have hO3 := hO3.keep hB11
  have hO4 := hO4.keep hB11
  have hO5 := hO5.keep hB11
  have hO6 := hO6.keep hB11
  have hO10 := hO10.keep hB11
  have hs11 := hB11.size
  go_wp2_with fail
  refine (c_markIntS _ _ _ _ _ z0 rfl hM0 1 (by omega) (by omega) _ hO4).mono ?_
  rintro e v12 ⟨rfl, hO12m, hG12⟩
  have hs12 := hG12.size
  have hO3 := hO3.other hG12 (apart24I hA3 hO4 (by omega))
  have hO5 := hO5.other hG12 (apartJ7 hA4 hO5 (by omega))
  have hO6 := hO6.other hG12 (apartJC7 hA4 hO6 (by omega))
  have hT12 := hT11.grown hG12 hT11.size (fun j e => Nat.le_trans (show w.heap.size ≤ v3.heap.size by have := hT11.size; omega) (World.ownsRow.lt hO4 j e).1)
  go_wp2_with fail
  refine (c_markIntS _ _ _ _ _ z1 rfl hM1 (1 + (z0.length : Int)) (by omega) (by omega) _ hO5).mono ?_
  rintro e v13 ⟨rfl, hO13m, hG13⟩
  have hs13 := hG13.size
  have hO3 := hO3.other hG13 (apart24I hA3 hO5 (by omega))
  have hO6 := hO6.other hG13 (apartJC7 hA5 hO6 (by omega))
  have hT13 := hT12.grown hG13 hT12.size (fun j e => Nat.le_trans (show w.heap.size ≤ v4.heap.size by have := hT12.size; omega) (World.ownsRow.lt hO5 j e).1)
  go_wp2_with fail
  refine (c_eqClassS _ _ _ _ _ (tsyR p z0 z1) HR.out _ (spreadC hO6) (spreadC hO3)).mono ?_
  rintro e v14 ⟨rfl, hB14⟩
  have hT14 := bt2 hT13 hB14
  have hO3 := hO3.keep hB14
  have hO6 := hO6.keep hB14
  have hs14 := hB14.size
  go_wp2_with fail
  refine (c_markClassS _ _ _ _ _ (tsyR p z0 z1) rfl HR.out 1 (by omega) (by omega) _ hO6).mono ?_
  rintro e v15 ⟨rfl, hO15m, hG15⟩
  have hs15 := hG15.size
  have hO3 := hO3.other hG15 (apart24 hA3 hO6 (by omega))
  have hT15 := hT14.grown hG15 hT14.size (fun j e => Nat.le_trans (show w.heap.size ≤ v5.heap.size by have := hT14.size; omega) (World.ownsRow.lt hO6 j e).1)
  go_wp2_with fail
  refine (c_heldClassS _ _ _ HR.out 1 (by omega) (by omega) _ (spreadM hO15m)).mono ?_
  rintro e w' ⟨rfl, rfl⟩
  go_wp2_with fail
  refine (c_toI7 s0 _ cap0 z0 hM0 _ (hc0.keep hT15)).mono ?_
  rintro e v16 ⟨g16, hg16, rfl, hO16, hB16⟩
  have hT16 := bt2 hT15 hB16
  have hO3 := hO3.keep hB16
  have hO15m := hO15m.keep hB16
  have hs16 := hB16.size
  have hA16 : (some (⟨g16, 0, none⟩ : Addr)) = none ∨ ∃ g, (some (⟨g16, 0, none⟩ : Addr)) = some ⟨g, 0, none⟩ ∧ v15.heap.size ≤ g ∧ g < v16.heap.size := .inr ⟨g16, rfl, hg16, hO16.lt.2⟩
  go_wp2_with fail
  refine (c_toI7 s1 _ cap1 z1 hM1 _ (hc1.keep hT16)).mono ?_
  rintro e v17 ⟨g17, hg17, rfl, hO17, hB17⟩
  have hT17 := bt2 hT16 hB17
  have hO3 := hO3.keep hB17
  have hO15m := hO15m.keep hB17
  have hO16 := hO16.keep hB17
  have hs17 := hB17.size
  have hA17 : (some (⟨g17, 0, none⟩ : Addr)) = none ∨ ∃ g, (some (⟨g17, 0, none⟩ : Addr)) = some ⟨g, 0, none⟩ ∧ v16.heap.size ≤ g ∧ g < v17.heap.size := .inr ⟨g17, rfl, hg17, hO17.lt.2⟩
  go_wp2_with fail
  refine (c_implTileSystem p (some ⟨g16, 0, none⟩) (some ⟨g17, 0, none⟩) z0.length z0.length z1.length z1.length z0 z1 hM0 hM1 _ (hO16.ints rfl) (hO17.ints rfl)).mono ?_
  rintro e v18 ⟨u18, rfl, hO18, hB18⟩
  obtain ⟨s18r, cap18r, rfl, _, hA18⟩ := hO18.spread
  have hT18 := bt2 hT17 hB18
  have hO3 := hO3.keep hB18
  have hO15m := hO15m.keep hB18
  have hO16 := hO16.keep hB18
  have hO17 := hO17.keep hB18
  have hs18 := hB18.size
  go_wp2_with fail
  refine (c_eqClassS _ _ _ _ _ (tsyR p z0 z1) HR.out _ (spreadC hO18) (spreadC hO3)).mono ?_
  rintro e v19 ⟨rfl, hB19⟩
  have hT19 := bt2 hT18 hB19
  have hO3 := hO3.keep hB19
  have hO15m := hO15m.keep hB19
  have hO18 := hO18.keep hB19
  have hs19 := hB19.size
  go_wp2_with fail
  refine (c_heldClassS _ _ _ HR.out 1 (by omega) (by omega) _ (spreadM hO15m)).mono ?_
  rintro e w' ⟨rfl, rfl⟩
  go_wp2_with fail
  go_ret
  exact ⟨rfl, hT19⟩
end Go.Proofs.Ytlecnpmflihcpaa
