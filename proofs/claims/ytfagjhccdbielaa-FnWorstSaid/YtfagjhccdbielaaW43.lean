/- The walk of the promise law FnWorst. -/
import Derived.Test.YtfagjhccdbielaaD9
import Derived.Test.YtfagjhccdbielaaMathD
import Derived.Test.YtfagjhccdbielaaS18
import Derived.BigQuiet
namespace Go.Proofs.Ytfagjhccdbielaa
open Go.RowKit
theorem wor_none {zs : List Cl} (h : sysB zs = false) : worN zs = 0 ∧ worM zs = 0 := by simp [worN, worM, h, selI]
theorem wor_facts {zs : List Cl} (hs : sysB zs = true) : ∃ a b g : Nat, worN zs = (a : Int) ∧ worM zs = (b : Int) ∧ perI zs = ((b * g : Nat) : Int) ∧ (holL zs).length = a * g ∧ 1 ≤ b ∧ 1 ≤ g ∧ a ≤ b ∧ b * g ≤ 1000 := by
  obtain ⟨_, _, _, _, P1, P2⟩ := sysB_facts hs
  obtain ⟨P, hP⟩ := per_nat hs
  have hL : (holL zs).length ≤ P := by
    unfold holL
    rw [hP]
    exact holK_le zs _
  obtain ⟨a, ha⟩ : Nat.gcd (holL zs).length P ∣ (holL zs).length := Nat.gcd_dvd_left _ _
  obtain ⟨b, hb⟩ : Nat.gcd (holL zs).length P ∣ P := Nat.gcd_dvd_right _ _
  have hg : 0 < Nat.gcd (holL zs).length P := Nat.gcd_pos_of_pos_right _ (by omega)
  have e : worG zs = ((Nat.gcd (holL zs).length P : Nat) : Int) := by
    unfold worG gcdI
    rw [hP]
    rfl
  have h1 : worN zs = (a : Int) := by
    unfold worN
    rw [hs, selI_t, e, ← Int.natCast_ediv]
    exact congrArg Int.ofNat (Nat.div_eq_of_eq_mul_right hg ha)
  have h2 : worM zs = (b : Int) := by
    unfold worM
    rw [hs, selI_t, e, hP, ← Int.natCast_ediv]
    exact congrArg Int.ofNat (Nat.div_eq_of_eq_mul_right hg hb)
  generalize Nat.gcd (holL zs).length P = g at *
  have hPb : P = b * g := by rw [hb]; exact Nat.mul_comm _ _
  have hLa : (holL zs).length = a * g := by rw [ha]; exact Nat.mul_comm _ _
  refine ⟨a, b, g, h1, h2, by rw [hP, hPb], hLa, ?_, hg, ?_, by omega⟩
  · rcases Nat.eq_zero_or_pos b with h | h
    · subst h; omega
    · exact h
  · rw [hLa, hPb] at hL
    exact Nat.le_of_mul_le_mul_right hL hg
set_option maxRecDepth 20000 in
set_option maxHeartbeats 4000000 in
theorem w_FnWorst (s : Option Addr) (len cap : Nat) (w : World) (h : Code0 w s len cap) : Calls Try.prog 9 #[.slice s len cap] w fun e w' => e = .returned (.bool true) ∧ Below w.heap.size w w' := by
  have hlc := h.lc
  have hcm := h.cm
  unfold maxLen at hcm
  by_cases hlen : len ≤ 1048576
  · go_enter Try.func9, Try.ntmps9
    go_wp2_with fail
    refine (c_DrawHoleWorst s len cap _ h).mono ?_
    rintro e w1 ⟨v, zs, rfl, hO, hl, hb1⟩
    obtain ⟨so, co, rfl, hC, hc1, hc2⟩ := hO.all
    obtain ⟨n, hn⟩ : ∃ n, zs.length = n := ⟨_, rfl⟩
    rw [hn] at hC hc1 hl ⊢
    clear hO
    have hcon := c_implHoleWorst so n co zs (by omega) _ hC
    have hcos := fun w1 (h1 : Cls w1 so n zs) => c_specHoleWorst so n co zs (by omega) w1 h1
    have hhol := fun w1 (h1 : Cls w1 so n zs) => c_implSystemHoles so n co zs (by omega) w1 h1
    cases hs : sysB zs
    · obtain ⟨e0, e1⟩ := wor_none hs
      rw [hs, e0, e1] at hcon hcos
      clear hhol
      go_wp2_with fail
      refine hcon.mono ?_
      rintro e w2 ⟨rfl, hb2⟩
      go_wp2_with fail
      refine (hcos _ (hC.keep hb2)).mono ?_
      rintro e w3 ⟨rfl, hb3⟩
      go_wp2_with fail
      go_ret
      exact ⟨rfl, bt2 (bt2 hb1 hb2) hb3⟩
    · have hper := fun w1 (h1 : Cls w1 so n zs) => c_implSystemPeriod_t so n co zs (by omega) hs w1 h1
      obtain ⟨a, b, g, h1, h2, h3, h4, hb0, hg0, hab, hbg⟩ := wor_facts hs
      rw [hs, h1, h2] at hcon hcos
      rw [hs, holR_t hs] at hhol
      rw [h3] at hper
      have haa : ((a : Int) == (a : Int)) = true := by simp
      have hbb : ((b : Int) == (b : Int)) = true := by simp
      have hag : a * g ≤ 1000 := Nat.le_trans (Nat.mul_le_mul_right g hab) hbg
      have hb1000 : b ≤ 1000 := Nat.le_trans (Nat.le_mul_of_pos_right b hg0) hbg
      have hg1000 : g ≤ 1000 := Nat.le_trans (Nat.le_mul_of_pos_left g hb0) hbg
      have hmod : ((b * g : Nat) : Int) % (b : Int) = 0 := by rw [← Int.natCast_emod, Nat.mul_mod_right]; rfl
      have hdiv : ((b * g : Nat) : Int) / (b : Int) = (g : Int) := by rw [← Int.natCast_ediv, Nat.mul_div_cancel_left g hb0]
      have hmul : (a : Int) * (g : Int) = ((a * g : Nat) : Int) := (Int.natCast_mul a g).symm
      have hw1 : IntKind.i64.wrap (g : Int) = (g : Int) := IntWalk.i64_in _ (by omega)
      have hw2 : IntKind.i64.wrap ((a * g : Nat) : Int) = ((a * g : Nat) : Int) := IntWalk.i64_in _ (by omega)
      have hLL : (((a * g : Nat) : Int) == ((a * g : Nat) : Int)) = true := by simp
      generalize hPP : b * g = P at *
      generalize hKK : a * g = K at *
      have hz1 : (0 : Int) ≤ (a : Int) := by omega
      have hz2 : (a : Int) ≤ (b : Int) := by omega
      have hz3 : ¬ (b : Int) = 0 := by omega
      have hz4 : ¬ b = 0 := by omega
      have hz5 : (0 : Int) ≤ (P : Int) := by omega
      have htm : Int.tmod (P : Int) (b : Int) = 0 := by rw [Int.tmod_eq_emod_of_nonneg hz5, hmod]
      have htd : Int.tdiv (P : Int) (b : Int) = (g : Int) := by rw [Int.tdiv_eq_ediv_of_nonneg hz5, hdiv]
      go_wp2_with fail
      refine hcon.mono ?_
      rintro e w2 ⟨rfl, hb2⟩
      go_wp2_with fail
      refine (hcos _ (hC.keep hb2)).mono ?_
      rintro e w3 ⟨rfl, hb3⟩
      have hB3 := bt2 (bt2 hb1 hb2) hb3
      have hC3 := (hC.keep hb2).keep hb3
      have hhl := hhol _ hC3
      clear hcon hcos hhol hb1 hb2 hb3
      go_wp2_with fail
      refine hhl.mono ?_
      rintro e w4 ⟨v4, rfl, hO4, hb4⟩
      obtain ⟨s4, k4, hv4, hI4, _⟩ := hO4.spread
      rw [h4] at hv4
      subst hv4
      have hB4 := bt2 hB3 hb4
      have hpr := hper _ (hC3.keep hb4)
      clear hhl hO4 hI4 hper hC hC3
      go_wp2_with fail
      refine hpr.mono ?_
      rintro e w5 ⟨rfl, hb5⟩
      have hB5 := bt2 hB4 hb5
      clear hpr
      go_wp2_with fail
      go_ret
      exact ⟨rfl, hB5⟩
  · go_enter Try.func9, Try.ntmps9
    go_wp2_with fail
    go_ret
    exact ⟨rfl, Below.refl _ _⟩
end Go.Proofs.Ytfagjhccdbielaa
