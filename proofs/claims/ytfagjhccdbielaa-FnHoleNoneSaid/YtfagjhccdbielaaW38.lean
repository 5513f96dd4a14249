/- The walk of the promise law FnHoleNone. -/
import Derived.Test.YtfagjhccdbielaaW33
import Derived.Test.YtfagjhccdbielaaS33
namespace Go.Proofs.Ytfagjhccdbielaa
open Go.RowKit
theorem fis_some {zs : List Cl} (hs : sysB zs = true) : fisB zs = decide ((0 : Int) < ((holL zs).length : Int)) := by
  unfold fisB
  rw [holR_t hs]
  cases holL zs with
  | nil => rfl
  | cons x t => simp
set_option maxRecDepth 20000 in
set_option maxHeartbeats 4000000 in
theorem w_FnHoleNone (s : Option Addr) (len cap : Nat) (w : World) (h : Code0 w s len cap) : Calls Try.prog 4 #[.slice s len cap] w fun e w' => e = .returned (.bool true) ∧ Below w.heap.size w w' := by
  have hlc := h.lc
  have hcm := h.cm
  unfold maxLen at hcm
  by_cases hlen : len ≤ 1048576
  · go_enter Try.func4, Try.ntmps4
    go_wp2_with fail
    refine (c_DrawSystemHoles s len cap _ h).mono ?_
    rintro e w1 ⟨v, zs, rfl, hO, hl, hb1⟩
    obtain ⟨so, co, rfl, hC, hc1, hc2⟩ := hO.all
    obtain ⟨n, hn⟩ : ∃ n, zs.length = n := ⟨_, rfl⟩
    rw [hn] at hC hc1 hl ⊢
    clear hO
    have hcon := c_implSystemHoles so n co zs (by omega) _ hC
    have hcos := fun w1 (h1 : Cls w1 so n zs) => c_specSystemHoles so n co zs (by omega) w1 h1
    have hfst := fun w1 (h1 : Cls w1 so n zs) => c_implHoleFirst so n co zs (by omega) w1 h1
    have hLb := holR_le zs
    cases hs : sysB zs
    · rw [hs, holR_f hs] at hcon hcos
      clear hfst hLb
      go_wp2_with fail
      refine hcon.mono ?_
      rintro e w2 ⟨v2, rfl, hO2, hb2⟩
      obtain ⟨s2, k2, rfl, hI2, _⟩ := hO2.spread
      go_wp2_with fail
      refine (hcos _ (hC.keep hb2)).mono ?_
      rintro e w3 ⟨v3, rfl, hO3, hb3⟩
      obtain ⟨s3, k3, rfl, hI3, _⟩ := hO3.spread
      have hI23 := hI2.keep hb3
      have hsame := fun w1 (h1 : Below w3.heap.size w3 w1) => c_sameInts s2 s3 0 k2 k3 [] (by omega) w1 (hI23.keep h1) (hI3.keep h1)
      have hB3 := bt2 (bt2 hb1 hb2) hb3
      clear hcon hcos hO2 hO3 hI2 hI3 hI23 hC
      go_wp2_with (first | (go_at_call 17; refine (hsame _ (Below.refl _ _)).mono ?_; rintro e w4 ⟨rfl, hb4⟩; have hB4 := bt2 hB3 hb4) | (go_at_call 17; refine (hsame _ hb4).mono ?_; rintro e w5 ⟨rfl, hb5⟩; have hB5 := bt2 hB4 hb5) | fail)
      go_ret
      exact ⟨rfl, hB5⟩
    · rw [hs, holR_t hs] at hcon hcos
      rw [holR_t hs] at hLb
      rw [fis_some hs] at hfst
      obtain ⟨L, hL⟩ : ∃ L, (holL zs).length = L := ⟨_, rfl⟩
      rw [hL] at hLb hfst
      generalize holL zs = Q at *
      generalize fisR zs = X at *
      have hXX : (decide ((0 : Int) < (L : Int)) == decide ((0 : Int) < (L : Int))) = true := by simp
      go_wp2_with fail
      refine hcon.mono ?_
      rintro e w2 ⟨v2, rfl, hO2, hb2⟩
      obtain ⟨s2, k2, hv2, hI2, _⟩ := hO2.spread
      rw [hL] at hv2 hI2
      subst hv2
      go_wp2_with fail
      refine (hcos _ (hC.keep hb2)).mono ?_
      rintro e w3 ⟨v3, rfl, hO3, hb3⟩
      obtain ⟨s3, k3, hv3, hI3, _⟩ := hO3.spread
      rw [hL] at hv3 hI3
      subst hv3
      have hI23 := hI2.keep hb3
      have hC3 := (hC.keep hb2).keep hb3
      have hsame := c_sameInts s2 s3 L k2 k3 Q (by omega) w3 hI23 hI3
      have hB3 := bt2 (bt2 hb1 hb2) hb3
      clear hcon hcos hO2 hO3 hI2 hI3 hC hL hb1 hb2 hb3
      go_wp2_with (first | (go_at_call 17; refine hsame.mono ?_; rintro e w4 ⟨rfl, hb4⟩; have hft := hfst _ (hC3.keep hb4)) | (go_at_call 12; refine hft.mono ?_; rintro e w5 ⟨rfl, hb5⟩; have hB5 := bt2 (bt2 hB3 hb4) hb5) | fail)
      go_ret
      exact ⟨rfl, hB5⟩
  · go_enter Try.func4, Try.ntmps4
    go_wp2_with fail
    go_ret
    exact ⟨rfl, Below.refl _ _⟩
end Go.Proofs.Ytfagjhccdbielaa
