/- The walk of the exact law of HoleSpare. -/
import Derived.Test.YtelgmmnjndinhaaH2
import Derived.Test.YtelgmmnjndinhaaH3
import Derived.Test.YtelgmmnjndinhaaS29
namespace Go.Proofs.Ytelgmmnjndinhaa
open Go.RowKit
set_option maxHeartbeats 2000000 in
theorem w_FnExactHoleSpare (s : Option Addr) (n cap : Nat) (zs : List Cl) (hn : n ≤ 9223372036854775807) (w : World) (hc : Cls w s n zs) : Calls Try.prog 9 #[.slice s n cap] w fun e w' => e = .returned (.bool true) ∧ Below w.heap.size w w' := by
  obtain rfl := hc.len
  by_cases hb : 1048576 < zs.length
  · go_enter Try.func9, Try.ntmps9
    go_wp2_with fail
    refine (c_szBig _ _ _ hn hb _).mono ?_
    rintro e w' ⟨rfl, rfl⟩
    go_wp2_with fail
    go_ret
    exact ⟨rfl, Below.refl _ _⟩
  · have hle := hspR_le zs
    have hLn : (hspR zs).length ≤ 1048576 := by omega
    go_enter Try.func9, Try.ntmps9
    go_wp2_with fail
    refine (c_szOk _ _ _ 1048576 (by omega) (by omega) (by omega) _).mono ?_
    rintro e w' ⟨rfl, rfl⟩
    go_wp2_with fail
    refine (c_toClassS _ _ _ zs (by omega) _ hc).mono ?_
    rintro e w1 ⟨g1, hg1, rfl, hO1, hB1⟩
    have hc1 := hc.keep hB1
    have hC1 := hO1.cls.1
    go_wp2_with fail
    refine (c_specHoleSpare _ _ _ zs (by omega) (Nat.le_refl _) (by omega) _ hC1).mono ?_
    rintro e w2 ⟨v2, rfl, hO2, hB2⟩
    have hc2 := hc1.keep hB2
    obtain ⟨s2, cap2, rfl, hC2, hs2⟩ := hO2.spread
    go_wp2_with fail
    refine (c_toClassS _ _ _ zs (by omega) _ hc2).mono ?_
    rintro e w3 ⟨g3, hg3, rfl, hO3, hB3⟩
    have hc3 := hc2.keep hB3
    have hC3 := hO3.cls.1
    have hO23 := hO2.keep hB3
    go_wp2_with fail
    refine (c_implHoleSpare _ _ _ zs (by omega) _ hC3).mono ?_
    rintro e w4 ⟨v4, rfl, hO4, hB4⟩
    have hc4 := hc3.keep hB4
    have hO34 := hO3.keep hB4
    have hO24 := hO23.keep hB4
    obtain ⟨s4, cap4, rfl, hC4, hs4⟩ := hO4.spread
    go_wp2_with fail
    refine (c_eqIntS _ _ _ _ _ (hspR zs) hLn _ hC4 (spreadI hO24)).mono ?_
    rintro e w5 ⟨rfl, hB5⟩
    have hc5 := hc4.keep hB5
    have hO35 := hO34.keep hB5
    have hO25 := hO24.keep hB5
    have hO45 := hO4.keep hB5
    go_wp2_with fail
    refine (c_toClassS _ _ _ zs (by omega) _ hc5).mono ?_
    rintro e w6 ⟨g6, hg6, rfl, hO6, hB6⟩
    have hc6 := hc5.keep hB6
    have hO36 := hO35.keep hB6
    have hO26 := hO25.keep hB6
    have hO46 := hO45.keep hB6
    go_wp2_with fail
    refine (c_eqClassS _ _ _ _ _ zs (by omega) _ hO36.cls.1 hO6.cls.1).mono ?_
    rintro e w7 ⟨rfl, hB7⟩
    have hc7 := hc6.keep hB7
    have hO37 := hO36.keep hB7
    have hO27 := hO26.keep hB7
    have hO47 := hO46.keep hB7
    have hB17 : Below w.heap.size w w7 := bt2 (bt2 (bt2 (bt2 (bt2 (bt2 hB1 hB2) hB3) hB4) hB5) hB6) hB7
    go_wp2_with fail
    refine (c_markClassS _ _ _ _ _ zs rfl (by omega) 1 (by omega) (by omega) _ hO37).mono ?_
    rintro e w8 ⟨rfl, hO38, hG8⟩
    have hg3l : w2.heap.size ≤ g3 := hg3
    have hO28 := hO27.other hG8 (apart2 hs2 hg3l)
    have hO48 := hO47.other hG8 (apart4 hs4 hO3)
    have hg3w : w.heap.size ≤ g3 := Nat.le_trans (bt2 hB1 hB2).size hg3
    have hB18 : Below w.heap.size w w8 := hB17.grown hG8 hB17.size (fun j e => by cases e; exact hg3w)
    have hk8 : (0 : Int) ≤ 1 + 2 * (zs.length : Int) := by omega
    go_wp2_with fail
    refine (c_eqIntS _ _ _ _ _ (hspR zs) hLn _ (spreadI hO48) (spreadI hO28)).mono ?_
    rintro e w9 ⟨rfl, hB9⟩
    have hO29 := hO28.keep hB9
    have hO49 := hO48.keep hB9
    have hB19 := bt2 hB18 hB9
    go_wp2_with fail
    refine (c_markIntS _ _ _ _ _ (hspR zs) rfl hLn 1 (by omega) (by omega) _ hO49).mono ?_
    rintro e wa ⟨rfl, hO4a, hGa⟩
    have hb4 : w.heap.size ≤ w3.heap.size := (bt2 (bt2 hB1 hB2) hB3).size
    have hB1a : Below w.heap.size w wa := hB19.grown hGa hB19.size (fun j e => Nat.le_trans hb4 (World.ownsRow.lt hO49 j e).1)
    have hO2a := hO29.other hGa (apart24I hs2 hO4 hB3.size)
    have hca := hc.keep hB1a
    go_wp2_with fail
    refine (c_heldIntS _ _ _ hLn 1 (by omega) (by omega) _ (spreadMI hO4a)).mono ?_
    rintro e w' ⟨rfl, rfl⟩
    go_wp2_with fail
    refine (c_toClassS _ _ _ zs (by omega) _ hca).mono ?_
    rintro e wb ⟨gb, hgb, rfl, hOb, hBb⟩
    have hO2b := hO2a.keep hBb
    have hO4b := hO4a.keep hBb
    go_wp2_with fail
    refine (c_implHoleSpare _ _ _ zs (by omega) _ hOb.cls.1).mono ?_
    rintro e wc ⟨vc, rfl, hOc, hBc⟩
    have hO2c := hO2b.keep hBc
    have hO4c := hO4b.keep hBc
    obtain ⟨sc, capc, rfl, hCc, hsc⟩ := hOc.spread
    go_wp2_with fail
    refine (c_eqIntS _ _ _ _ _ (hspR zs) hLn _ hCc (spreadI hO2c)).mono ?_
    rintro e wd ⟨rfl, hBd⟩
    have hO4d := hO4c.keep hBd
    go_wp2_with fail
    refine (c_heldIntS _ _ _ hLn 1 (by omega) (by omega) _ (spreadMI hO4d)).mono ?_
    rintro e w' ⟨rfl, rfl⟩
    go_wp2_with fail
    go_ret
    exact ⟨rfl, bt2 (bt2 (bt2 hB1a hBb) hBc) hBd⟩
end Go.Proofs.Ytelgmmnjndinhaa
