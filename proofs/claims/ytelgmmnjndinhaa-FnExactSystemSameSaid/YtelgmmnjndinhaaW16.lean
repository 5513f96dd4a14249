/- The walk of the exact law of SystemSame. -/
import Derived.Test.YtelgmmnjndinhaaH1
import Derived.Test.YtelgmmnjndinhaaS17
namespace Go.Proofs.Ytelgmmnjndinhaa
open Go.RowKit
set_option maxHeartbeats 1000000 in
theorem w_FnExactSystemSame (s : Option Addr) (n cap : Nat) (zs : List Cl) (hn : n ≤ 9223372036854775807) (t : Option Addr) (m cap2 : Nat) (ys : List Cl) (hm : m ≤ 9223372036854775807) (w : World) (hc : Cls w s n zs) (hd : Cls w t m ys) : Calls Try.prog 6 #[.slice s n cap, .slice t m cap2] w fun e w' => e = .returned (.bool true) ∧ Below w.heap.size w w' := by
  obtain rfl := hc.len
  obtain rfl := hd.len
  by_cases hb : 1048576 < zs.length
  · go_enter Try.func6, Try.ntmps6
    go_wp2_with fail
    refine (c_szBig _ _ _ hn hb _).mono ?_
    rintro e w' ⟨rfl, rfl⟩
    go_wp2_with fail
    go_ret
    exact ⟨rfl, Below.refl _ _⟩
  by_cases hb2 : 1048576 < zs.length + ys.length
  · have h2 := c_szClassS t ys.length cap2 hm (1048576 - (zs.length : Int)) (by omega) (by omega) w
    rw [if_pos (by omega)] at h2
    go_enter Try.func6, Try.ntmps6
    go_wp2_with fail
    refine (c_szOk _ _ _ 1048576 (by omega) (by omega) (by omega) _).mono ?_
    rintro e w' ⟨rfl, rfl⟩
    go_wp2_with fail
    refine h2.mono ?_
    rintro e w' ⟨rfl, rfl⟩
    go_wp2_with fail
    go_ret
    exact ⟨rfl, Below.refl _ _⟩
  · go_enter Try.func6, Try.ntmps6
    go_wp2_with fail
    refine (c_szOk _ _ _ 1048576 (by omega) (by omega) (by omega) _).mono ?_
    rintro e w' ⟨rfl, rfl⟩
    go_wp2_with fail
    refine (c_szOk _ _ _ (1048576 - (zs.length : Int)) (by omega) (by omega) (by omega) _).mono ?_
    rintro e w' ⟨rfl, rfl⟩
    go_wp2_with fail
    refine (c_toClassS _ _ _ zs (by omega) _ hc).mono ?_
    rintro e w1 ⟨g1, hg1, rfl, hO1, hB1⟩
    have hc1 := hc.keep hB1
    have hd1 := hd.keep hB1
    have hC1 := hO1.cls.1
    go_wp2_with fail
    refine (c_toClassS _ _ _ ys (by omega) _ hd1).mono ?_
    rintro e w2 ⟨g2, hg2, rfl, hO2, hB2⟩
    have hc2 := hc1.keep hB2
    have hd2 := hd1.keep hB2
    have hC2 := hC1.keep hB2
    have hD2 := hO2.cls.1
    go_wp2_with fail
    refine (c_specSystemSame _ _ _ _ _ _ zs ys (by omega) (by omega) _ hC2 hD2).mono ?_
    rintro e w3 ⟨rfl, hB3⟩
    have hc3 := hc2.keep hB3
    have hd3 := hd2.keep hB3
    go_wp2_with fail
    refine (c_toClassS _ _ _ zs (by omega) _ hc3).mono ?_
    rintro e w4 ⟨g4, hg4, rfl, hO4, hB4⟩
    have hc4 := hc3.keep hB4
    have hd4 := hd3.keep hB4
    have hX4 := hO4.cls.1
    go_wp2_with fail
    refine (c_toClassS _ _ _ ys (by omega) _ hd4).mono ?_
    rintro e w5 ⟨g5, hg5, rfl, hO5, hB5⟩
    have hc5 := hc4.keep hB5
    have hd5 := hd4.keep hB5
    have hX5 := hX4.keep hB5
    have hY5 := hO5.cls.1
    go_wp2_with fail
    refine (c_implSystemSame _ _ _ _ _ _ zs ys (by omega) (by omega) _ hX5 hY5).mono ?_
    rintro e w6 ⟨rfl, hB6⟩
    have hc6 := hc5.keep hB6
    have hd6 := hd5.keep hB6
    have hX6 := hX5.keep hB6
    have hY6 := hY5.keep hB6
    go_wp2_with fail
    refine (c_toClassS _ _ _ zs (by omega) _ hc6).mono ?_
    rintro e w7 ⟨g7, hg7, rfl, hO7, hB7⟩
    have hd7 := hd6.keep hB7
    have hX7 := hX6.keep hB7
    have hY7 := hY6.keep hB7
    have hE7 := hO7.cls.1
    go_wp2_with fail
    refine (c_eqClassS _ _ _ _ _ zs (by omega) _ hX7 hE7).mono ?_
    rintro e w8 ⟨rfl, hB8⟩
    have hd8 := hd7.keep hB8
    have hY8 := hY7.keep hB8
    go_wp2_with fail
    refine (c_toClassS _ _ _ ys (by omega) _ hd8).mono ?_
    rintro e w9 ⟨g9, hg9, rfl, hO9, hB9⟩
    have hY9 := hY8.keep hB9
    have hE9 := hO9.cls.1
    go_wp2_with fail
    refine (c_eqClassS _ _ _ _ _ ys (by omega) _ hY9 hE9).mono ?_
    rintro e w10 ⟨rfl, hB10⟩
    go_wp2_with fail
    go_ret
    exact ⟨rfl, bt2 (bt2 (bt2 (bt2 (bt2 (bt2 (bt2 (bt2 (bt2 hB1 hB2) hB3) hB4) hB5) hB6) hB7) hB8) hB9) hB10⟩
end Go.Proofs.Ytelgmmnjndinhaa
