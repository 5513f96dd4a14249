/- The walks of the exact laws of SystemAll and SystemExact. -/
import Derived.Test.YtelgmmnjndinhaaH1
import Derived.Test.YtelgmmnjndinhaaS15
namespace Go.Proofs.Ytelgmmnjndinhaa
open Go.RowKit
set_option maxHeartbeats 400000 in
theorem w_FnExactSystemAll (s : Option Addr) (n cap : Nat) (zs : List Cl) (hn : n ≤ 9223372036854775807) (w : World) (hc : Cls w s n zs) : Calls Try.prog 4 #[.slice s n cap] w fun e w' => e = .returned (.bool true) ∧ Below w.heap.size w w' := by
  obtain rfl := hc.len
  by_cases hb : 1048576 < zs.length
  · go_enter Try.func4, Try.ntmps4
    go_wp2_with fail
    refine (c_szBig _ _ _ hn hb _).mono ?_
    rintro e w' ⟨rfl, rfl⟩
    go_wp2_with fail
    go_ret
    exact ⟨rfl, Below.refl _ _⟩
  · go_enter Try.func4, Try.ntmps4
    go_wp2_with fail
    refine (c_szOk _ _ _ 1048576 (by omega) (by omega) (by omega) _).mono ?_
    rintro e w' ⟨rfl, rfl⟩
    go_wp2_with fail
    refine (c_toClassS _ _ _ zs (by omega) _ hc).mono ?_
    rintro e w1 ⟨g1, hg1, rfl, hO1, hB1⟩
    have hc1 := hc.keep hB1
    have hC1 := hO1.cls.1
    go_wp2_with fail
    refine (c_specSystemAll _ _ _ zs (by omega) _ hC1).mono ?_
    rintro e w2 ⟨rfl, hB2⟩
    have hc2 := hc1.keep hB2
    go_wp2_with fail
    refine (c_toClassS _ _ _ zs (by omega) _ hc2).mono ?_
    rintro e w3 ⟨g3, hg3, rfl, hO3, hB3⟩
    have hc3 := hc2.keep hB3
    have hC3 := hO3.cls.1
    go_wp2_with fail
    refine (c_implSystemAll _ _ _ zs (by omega) _ hC3).mono ?_
    rintro e w4 ⟨rfl, hB4⟩
    have hc4 := hc3.keep hB4
    have hC4 := hC3.keep hB4
    go_wp2_with fail
    refine (c_toClassS _ _ _ zs (by omega) _ hc4).mono ?_
    rintro e w5 ⟨g5, hg5, rfl, hO5, hB5⟩
    have hC5 := hC4.keep hB5
    have hD5 := hO5.cls.1
    go_wp2_with fail
    refine (c_eqClassS _ _ _ _ _ zs (by omega) _ hC5 hD5).mono ?_
    rintro e w6 ⟨rfl, hB6⟩
    go_wp2_with fail
    go_ret
    exact ⟨rfl, bt2 (bt2 (bt2 (bt2 (bt2 hB1 hB2) hB3) hB4) hB5) hB6⟩
set_option maxHeartbeats 400000 in
theorem w_FnExactSystemExact (s : Option Addr) (n cap : Nat) (zs : List Cl) (hn : n ≤ 9223372036854775807) (w : World) (hc : Cls w s n zs) : Calls Try.prog 5 #[.slice s n cap] w fun e w' => e = .returned (.bool true) ∧ Below w.heap.size w w' := by
  obtain rfl := hc.len
  by_cases hb : 1048576 < zs.length
  · go_enter Try.func5, Try.ntmps5
    go_wp2_with fail
    refine (c_szBig _ _ _ hn hb _).mono ?_
    rintro e w' ⟨rfl, rfl⟩
    go_wp2_with fail
    go_ret
    exact ⟨rfl, Below.refl _ _⟩
  · go_enter Try.func5, Try.ntmps5
    go_wp2_with fail
    refine (c_szOk _ _ _ 1048576 (by omega) (by omega) (by omega) _).mono ?_
    rintro e w' ⟨rfl, rfl⟩
    go_wp2_with fail
    refine (c_toClassS _ _ _ zs (by omega) _ hc).mono ?_
    rintro e w1 ⟨g1, hg1, rfl, hO1, hB1⟩
    have hc1 := hc.keep hB1
    have hC1 := hO1.cls.1
    go_wp2_with fail
    refine (c_specSystemExact _ _ _ zs (by omega) _ hC1).mono ?_
    rintro e w2 ⟨rfl, hB2⟩
    have hc2 := hc1.keep hB2
    go_wp2_with fail
    refine (c_toClassS _ _ _ zs (by omega) _ hc2).mono ?_
    rintro e w3 ⟨g3, hg3, rfl, hO3, hB3⟩
    have hc3 := hc2.keep hB3
    have hC3 := hO3.cls.1
    go_wp2_with fail
    refine (c_implSystemExact _ _ _ zs (by omega) _ hC3).mono ?_
    rintro e w4 ⟨rfl, hB4⟩
    have hc4 := hc3.keep hB4
    have hC4 := hC3.keep hB4
    go_wp2_with fail
    refine (c_toClassS _ _ _ zs (by omega) _ hc4).mono ?_
    rintro e w5 ⟨g5, hg5, rfl, hO5, hB5⟩
    have hC5 := hC4.keep hB5
    have hD5 := hO5.cls.1
    go_wp2_with fail
    refine (c_eqClassS _ _ _ _ _ zs (by omega) _ hC5 hD5).mono ?_
    rintro e w6 ⟨rfl, hB6⟩
    go_wp2_with fail
    go_ret
    exact ⟨rfl, bt2 (bt2 (bt2 (bt2 (bt2 hB1 hB2) hB3) hB4) hB5) hB6⟩
end Go.Proofs.Ytelgmmnjndinhaa
