/- The walk of the exact law of HoleMeet. -/
import Derived.Test.YtelgmmnjndinhaaH2
import Derived.Test.YtelgmmnjndinhaaS23
namespace Go.Proofs.Ytelgmmnjndinhaa
open Go.RowKit
set_option maxHeartbeats 4000000 in
theorem w_FnExactHoleMeet (s : Option Addr) (n cap : Nat) (zs : List Cl) (hn : n ≤ 9223372036854775807) (t : Option Addr) (m cap2 : Nat) (ys : List Cl) (hm : m ≤ 9223372036854775807) (w : World) (hc : Cls w s n zs) (hd : Cls w t m ys) : Calls Try.prog 13 #[.slice s n cap, .slice t m cap2] w fun e w' => e = .returned (.bool true) ∧ Below w.heap.size w w' := by
  obtain rfl := hc.len
  obtain rfl := hd.len
  by_cases hb : 1048576 < zs.length
  · go_enter Try.func13, Try.ntmps13
    go_wp2_with fail
    refine (c_szBig _ _ _ hn hb _).mono ?_
    rintro e w' ⟨rfl, rfl⟩
    go_wp2_with fail
    go_ret
    exact ⟨rfl, Below.refl _ _⟩
  by_cases hb2 : 1048576 < zs.length + ys.length
  · have h2 := c_szClassS t ys.length cap2 hm (1048576 - (zs.length : Int)) (by omega) (by omega) w
    rw [if_pos (by omega)] at h2
    go_enter Try.func13, Try.ntmps13
    go_wp2_with fail
    refine (c_szOk _ _ _ 1048576 (by omega) (by omega) (by omega) _).mono ?_
    rintro e w' ⟨rfl, rfl⟩
    go_wp2_with fail
    refine h2.mono ?_
    rintro e w' ⟨rfl, rfl⟩
    go_wp2_with fail
    go_ret
    exact ⟨rfl, Below.refl _ _⟩
  · go_enter Try.func13, Try.ntmps13
    go_wp2_with fail
    refine (c_szOk _ _ _ 1048576 (by omega) (by omega) (by omega) _).mono ?_
    rintro e w' ⟨rfl, rfl⟩
    go_wp2_with fail
    refine (c_szOk _ _ _ (1048576 - (zs.length : Int)) (by omega) (by omega) (by omega) _).mono ?_
    rintro e w' ⟨rfl, rfl⟩
    go_wp2_with fail
    have hle := hmeR_le zs ys
    have hLn : (hmeR zs ys).length ≤ 1048576 := by omega
    refine (c_toClassS _ _ _ zs (by omega) _ hc).mono ?_
    rintro e w1 ⟨g1, hg1, rfl, hO1, hB1⟩
    have hc1 := hc.keep hB1
    have hd1 := hd.keep hB1
    have hC1 := hO1.cls.1
    go_wp2_with fail
    refine (c_toClassS _ _ _ ys (by omega) _ hd1).mono ?_
    rintro e w2 ⟨g2, hg2, rfl, hO2, hB2⟩
    have hc2 := hc1.keep hB2
    have hd2 := hd1.keep hB2
    have hC2 := hC1.keep hB2
    have hD2 := hO2.cls.1
    go_wp2_with fail
    refine (c_specHoleMeet _ _ _ _ _ _ zs ys (by omega) (by omega) _ hC2 hD2).mono ?_
    rintro e w3 ⟨v3, rfl, hP3, hB3⟩
    have hc3 := hc2.keep hB3
    have hd3 := hd2.keep hB3
    obtain ⟨s3, cap3, rfl, hQ3, hs3⟩ := hP3.spread
    go_wp2_with fail
    refine (c_toClassS _ _ _ zs (by omega) _ hc3).mono ?_
    rintro e w4 ⟨g4, hg4, rfl, hX4, hB4⟩
    have hc4 := hc3.keep hB4
    have hd4 := hd3.keep hB4
    have hP4 := hP3.keep hB4
    go_wp2_with fail
    refine (c_toClassS _ _ _ ys (by omega) _ hd4).mono ?_
    rintro e w5 ⟨g5, hg5, rfl, hY5, hB5⟩
    have hc5 := hc4.keep hB5
    have hd5 := hd4.keep hB5
    have hP5 := hP4.keep hB5
    have hX5 := hX4.keep hB5
    go_wp2_with fail
    refine (c_implHoleMeet _ _ _ _ _ _ zs ys (by omega) (by omega) _ hX5.cls.1 hY5.cls.1).mono ?_
    rintro e w6 ⟨v6, rfl, hG6, hB6⟩
    have hc6 := hc5.keep hB6
    have hd6 := hd5.keep hB6
    have hP6 := hP5.keep hB6
    have hX6 := hX5.keep hB6
    have hY6 := hY5.keep hB6
    obtain ⟨s6, cap6, rfl, hQ6, hs6⟩ := hG6.spread
    go_wp2_with fail
    refine (c_eqClassS _ _ _ _ _ (hmeR zs ys) hLn _ (spreadC hG6) (spreadC hP6)).mono ?_
    rintro e w7 ⟨rfl, hB7⟩
    have hc7 := hc6.keep hB7
    have hd7 := hd6.keep hB7
    have hP7 := hP6.keep hB7
    have hX7 := hX6.keep hB7
    have hY7 := hY6.keep hB7
    have hG7 := hG6.keep hB7
    go_wp2_with fail
    refine (c_toClassS _ _ _ zs (by omega) _ hc7).mono ?_
    rintro e w8 ⟨g8, hg8, rfl, hZ8, hB8⟩
    have hc8 := hc7.keep hB8
    have hd8 := hd7.keep hB8
    have hP8 := hP7.keep hB8
    have hX8 := hX7.keep hB8
    have hY8 := hY7.keep hB8
    have hG8 := hG7.keep hB8
    go_wp2_with fail
    refine (c_eqClassS _ _ _ _ _ zs (by omega) _ hX8.cls.1 hZ8.cls.1).mono ?_
    rintro e w9 ⟨rfl, hB9⟩
    have hc9 := hc8.keep hB9
    have hd9 := hd8.keep hB9
    have hP9 := hP8.keep hB9
    have hX9 := hX8.keep hB9
    have hY9 := hY8.keep hB9
    have hG9 := hG8.keep hB9
    go_wp2_with fail
    refine (c_toClassS _ _ _ ys (by omega) _ hd9).mono ?_
    rintro e w10 ⟨g10, hg10, rfl, hZ10, hB10⟩
    have hc10 := hc9.keep hB10
    have hd10 := hd9.keep hB10
    have hP10 := hP9.keep hB10
    have hX10 := hX9.keep hB10
    have hY10 := hY9.keep hB10
    have hG10 := hG9.keep hB10
    go_wp2_with fail
    refine (c_eqClassS _ _ _ _ _ ys (by omega) _ hY10.cls.1 hZ10.cls.1).mono ?_
    rintro e w11 ⟨rfl, hB11⟩
    have hc11 := hc10.keep hB11
    have hd11 := hd10.keep hB11
    have hP11 := hP10.keep hB11
    have hX11 := hX10.keep hB11
    have hY11 := hY10.keep hB11
    have hG11 := hG10.keep hB11
    have hb13 : Below w.heap.size w w3 := bt2 (bt2 hB1 hB2) hB3
    have hb15 : Below w.heap.size w w5 := bt2 (bt2 hb13 hB4) hB5
    have hT11 : Below w.heap.size w w11 := bt2 (bt2 (bt2 (bt2 (bt2 (bt2 hb15 hB6) hB7) hB8) hB9) hB10) hB11
    have hz4 : w.heap.size ≤ g4 := Nat.le_trans hb13.size hg4
    have hz5 : w.heap.size ≤ g5 := Nat.le_trans (bt2 hb13 hB4).size hg5
    have hz45 : g4 < w4.heap.size := (World.ownsRow.lt hX4 g4 rfl).2
    have hs34 : w3.heap.size ≤ g4 := hg4
    have hs35 : w3.heap.size ≤ g5 := Nat.le_trans hB4.size hg5
    go_wp2_with fail
    refine (c_markClassS _ _ _ _ _ zs rfl (by omega) 1 (by omega) (by omega) _ hX11).mono ?_
    rintro e w12 ⟨rfl, hX12, hF12⟩
    have hP12 := hP11.other hF12 (apart2 hs3 hs34)
    have hG12 := hG11.other hF12 (apart4 hs6 hX5)
    have hY12 := hY11.other hF12 (.inr (by simp [Value.ownBlock]; omega))
    have hT12 : Below w.heap.size w w12 := hT11.grown hF12 hT11.size (fun j e => by cases e; exact hz4)
    have hk12 : (0 : Int) ≤ 1 + 2 * (zs.length : Int) := by omega
    go_wp2_with fail
    refine (c_markClassS _ _ _ _ _ ys rfl (by omega) (1 + 2 * (zs.length : Int)) (by omega) (by omega) _ hY12).mono ?_
    rintro e w13 ⟨rfl, hY13, hF13⟩
    have hP13 := hP12.other hF13 (apart2 hs3 hs35)
    have hG13 := hG12.other hF13 (apart4 hs6 hY5)
    have hT13 : Below w.heap.size w w13 := hT12.grown hF13 hT12.size (fun j e => by cases e; exact hz5)
    have hk13 : (0 : Int) ≤ 1 + 2 * (zs.length : Int) + 2 * (ys.length : Int) := by omega
    go_wp2_with fail
    refine (c_eqClassS _ _ _ _ _ (hmeR zs ys) hLn _ (spreadC hG13) (spreadC hP13)).mono ?_
    rintro e w14 ⟨rfl, hB14⟩
    have hP14 := hP13.keep hB14
    have hG14 := hG13.keep hB14
    have hT14 := bt2 hT13 hB14
    go_wp2_with fail
    refine (c_markClassS _ _ _ _ _ (hmeR zs ys) rfl hLn 1 (by omega) (by omega) _ hG14).mono ?_
    rintro e wa ⟨rfl, hGa, hFa⟩
    have hTa : Below w.heap.size w wa := hT14.grown hFa hT14.size (fun j e => Nat.le_trans hb15.size (hG14.lt j e).1)
    have hPa := hP14.other hFa (apart24 hs3 hG6 (bt2 hB4 hB5).size)
    have hca := hc.keep hTa
    have hda := hd.keep hTa
    go_wp2_with fail
    refine (c_heldClassS _ _ _ hLn 1 (by omega) (by omega) _ (spreadM hGa)).mono ?_
    rintro e w' ⟨rfl, rfl⟩
    go_wp2_with fail
    refine (c_toClassS _ _ _ zs (by omega) _ hca).mono ?_
    rintro e wb ⟨gb, hgb, rfl, hOb, hBb⟩
    have hPb := hPa.keep hBb
    have hGb := hGa.keep hBb
    have hdb := hda.keep hBb
    go_wp2_with fail
    refine (c_toClassS _ _ _ ys (by omega) _ hdb).mono ?_
    rintro e wc ⟨gc, hgc, rfl, hOc, hBc⟩
    have hPc := hPb.keep hBc
    have hGc := hGb.keep hBc
    have hObc := hOb.keep hBc
    go_wp2_with fail
    refine (c_implHoleMeet _ _ _ _ _ _ zs ys (by omega) (by omega) _ hObc.cls.1 hOc.cls.1).mono ?_
    rintro e wd ⟨vd, rfl, hOd, hBd⟩
    have hPd := hPc.keep hBd
    have hGd := hGc.keep hBd
    obtain ⟨sd, capd, rfl, hQd, hsd⟩ := hOd.spread
    go_wp2_with fail
    refine (c_eqClassS _ _ _ _ _ (hmeR zs ys) hLn _ (spreadC hOd) (spreadC hPd)).mono ?_
    rintro e we ⟨rfl, hBe⟩
    have hGe := hGd.keep hBe
    go_wp2_with fail
    refine (c_heldClassS _ _ _ hLn 1 (by omega) (by omega) _ (spreadM hGe)).mono ?_
    rintro e w' ⟨rfl, rfl⟩
    go_wp2_with fail
    go_ret
    exact ⟨rfl, bt2 (bt2 (bt2 (bt2 hTa hBb) hBc) hBd) hBe⟩
end Go.Proofs.Ytelgmmnjndinhaa
