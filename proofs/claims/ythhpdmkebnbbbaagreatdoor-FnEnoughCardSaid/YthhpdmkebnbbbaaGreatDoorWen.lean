/- The walk of the promise law FnEnough. -/
import Derived.Test.YthhpdmkebnbbbaaGreatDoorMg4
import Derived.Test.YthhpdmkebnbbbaaGreatDoorMgQ
import Derived.Test.YthhpdmkebnbbbaaGreatDoorS45
import Derived.Test.YthhpdmkebnbbbaaGreatDoorS40
import Derived.Test.YthhpdmkebnbbbaaGreatDoorMgF
import Derived.Test.YthhpdmkebnbbbaaGreatDoorSame5
import Derived.BigQuiet
namespace Go.Proofs.YthhpdmkebnbbbaaGreatDoor
open Go.RowKit
theorem enough_at {zs : List Cl} (hs : sysB zs = true) (hx : exaB zs = true) : decide (leaI (perI zs) ≤ ((modR zs).length : Int)) = true := by
  obtain ⟨_, _, _, _, P1, P2⟩ := sysB_facts hs
  have h := enough hs hx
  have hm : modB (perI zs) = true := by simp [modB]; omega
  refine decide_eq_true ?_
  unfold leaI
  rw [hm, cond_true, modR_t hs, modL_length]
  omega
set_option maxRecDepth 20000 in
set_option maxHeartbeats 4000000 in
theorem w_FnEnough (s : Option Addr) (len cap : Nat) (w : World) (hgE : LaidE w) (h : Code0 w s len cap) : Calls Tryz.prog 5 #[.slice s len cap] w fun e w' => e = .returned (.bool true) ∧ Below w.heap.size w w' := by
  have hlc := h.lc
  have hcm := h.cm
  unfold maxLen at hcm
  by_cases hlen : ¬ len ≤ 1048576
  · go_enter Tryz.func5, Tryz.ntmps5
    go_wp2_with fail
    go_ret
    exact ⟨rfl, Below.refl _ _⟩
  have hlen2 : len ≤ 1048576 := by omega
  clear hlen
  go_enter Tryz.func5, Tryz.ntmps5
  go_wp2_with fail
  refine (c_DrawExactModuli s len cap _ h).mono ?_
  rintro e w0 ⟨v0, zs, rfl, hO0, hl0, hT⟩
  obtain ⟨so, co, rfl, hC, hc1, hc2⟩ := hO0.all
  clear hO0 h
  go_wp2_with fail
  refine (c_implExactModuli so zs.length co zs (by omega) _ (hgE.keep hT) hC).mono ?_
  rintro e w1 ⟨v1, rfl, hR1, hb1⟩
  have hC := hC.keep hb1
  have hT := bt2 hT hb1
  obtain ⟨so1, co1, rfl, hI1, _⟩ := hR1.spread
  clear hR1
  go_wp2_with fail
  refine (c_specExactModuli so zs.length co zs (by omega) _ hC).mono ?_
  rintro e w2 ⟨v2, rfl, hR2, hb2⟩
  have hC := hC.keep hb2
  have hI1 := hI1.keep hb2
  have hT := bt2 hT hb2
  obtain ⟨so2, co2, rfl, hI2, _⟩ := hR2.spread
  clear hR2
  have hle : (modR zs).length ≤ zs.length := by
    cases hs : sysB zs
    · rw [modR_f hs]; exact Nat.zero_le _
    · rw [modR_t hs, modL_length]; exact Nat.le_refl _
  have HL := Lib.hid (show (modR zs).length ≤ 1048576 by omega)
  clear hle
  go_wp2_with fail
  refine (c_sameInts so1 so2 (modR zs).length co1 co2 (modR zs) HL.out _ hI1 hI2).mono ?_
  rintro e w3 ⟨rfl, hb3⟩
  have hC := hC.keep hb3
  have hI1 := hI1.keep hb3
  have hI2 := hI2.keep hb3
  have hT := bt2 hT hb3
  cases hs : sysB zs
  · clear hs
    go_wp2_with fail
    refine (c_sameInts so1 so2 (modR zs).length co1 co2 (modR zs) HL.out _ hI1 hI2).mono ?_
    rintro e w4 ⟨rfl, hb4⟩
    go_wp2_with fail
    go_ret
    exact ⟨rfl, bt2 hT hb4⟩
  · obtain ⟨_, _, _, _, P1, P2⟩ := sysB_facts hs
    have hm : modB (perI zs) = true := by simp [modB]; omega
    have k1 := fun W hc => c_implSystemPeriod so zs.length co zs (by omega) W hc
    have k2 := fun W => c_implExactLeast (perI zs) W
    have k3 := fun W hc => c_implSystemExact so zs.length co zs (by omega) W hc
    have HE := Lib.hid (fun hx => enough_at hs hx)
    rw [hs, selI_t] at k1
    rw [hm] at k2
    clear hs hm hI1 hI2 P1 P2
    generalize leaI (perI zs) = K at *
    generalize perI zs = P at *
    generalize (modR zs).length = n at *
    cases hx : exaB zs
    · rw [hx] at k3
      clear HE hx
      go_wp2_with fail
      refine (k1 _ hC).mono ?_
      rintro e w4 ⟨rfl, hb4⟩
      have hC := hC.keep hb4
      have hT := bt2 hT hb4
      go_wp2_with fail
      refine (k2 _).mono ?_
      rintro e w5 ⟨rfl, hb5⟩
      have hC := hC.keep hb5
      have hT := bt2 hT hb5
      go_wp2_with fail
      refine (k3 _ hC).mono ?_
      rintro e w6 ⟨rfl, hb6⟩
      have hT := bt2 hT hb6
      go_wp2_with fail
      go_ret
      exact ⟨rfl, hT⟩
    · rw [hx] at k3
      have hd := HE.out hx
      clear HE hx
      go_wp2_with fail
      refine (k1 _ hC).mono ?_
      rintro e w4 ⟨rfl, hb4⟩
      have hC := hC.keep hb4
      have hT := bt2 hT hb4
      go_wp2_with fail
      refine (k2 _).mono ?_
      rintro e w5 ⟨rfl, hb5⟩
      have hC := hC.keep hb5
      have hT := bt2 hT hb5
      go_wp2_with fail
      refine (k3 _ hC).mono ?_
      rintro e w6 ⟨rfl, hb6⟩
      have hT := bt2 hT hb6
      go_wp2_with fail
      go_ret
      exact ⟨rfl, hT⟩
end Go.Proofs.YthhpdmkebnbbbaaGreatDoor
