/- The walk of the promise law FnFill. -/
import Derived.Test.YtfagjhccdbielaaW35
import Derived.Test.YtfagjhccdbielaaMathG
import Derived.Test.YtfagjhccdbielaaS20
import Derived.Test.YtfagjhccdbielaaS33
import Derived.Test.YtfagjhccdbielaaStepC
namespace Go.Proofs.Ytfagjhccdbielaa
open Go.RowKit
theorem fill_facts {zs : List Cl} (hs : sysB zs = true) (h8 : zs.length + (filL zs).length ≤ 8) : alB (zs ++ filL zs) = true := by
  obtain ⟨l1, l2, ha, _, P1, P2⟩ := sysB_facts hs
  obtain ⟨P, hP⟩ := per_nat hs
  have hmem : ∀ x, x ∈ holL zs ↔ 0 ≤ x ∧ x < P ∧ covB zs x = false := by
    intro x
    unfold holL
    rw [hP]
    exact holK_mem zs _ x
  have hD : Div (perI zs) (zs ++ filL zs) := by
    refine ⟨P1, P2, fun c hc => ?_⟩
    rcases List.mem_append.1 hc with hc | hc
    · exact (Div.sys hs).2.2 c hc
    · unfold filL at hc
      obtain ⟨x, hx, rfl⟩ := List.mem_map.1 hc
      have := (hmem x).1 hx
      exact ⟨inB_iff.2 ⟨P1, P2, this.1, by rw [hP]; exact this.2.1⟩, Int.dvd_refl _⟩
  have hsys := div_sys hD (by rw [List.length_append]; omega)
  have hcov : ∀ x, covB (zs ++ filL zs) x = true := by
    intro x
    rw [covB_any, List.any_append, ← covB_any, ← covB_any]
    cases hz : covB zs x
    · rw [Bool.false_or, covB_any, List.any_eq_true]
      have h0 := Int.emod_nonneg x (show perI zs ≠ 0 by omega)
      have h1 := Int.emod_lt_of_pos x (show 0 < perI zs by omega)
      refine ⟨(x % perI zs, perI zs), ?_, by simp⟩
      unfold filL
      refine List.mem_map.2 ⟨x % perI zs, (hmem _).2 ⟨h0, by omega, ?_⟩, rfl⟩
      rw [cov_mod fun c hc => ((Div.sys hs).2.2 c hc).2, hz]
    · rfl
  unfold alB
  rw [hsys, Bool.true_and]
  unfold holL
  rw [hol_none fun j _ => hcov j]
  rfl
set_option maxRecDepth 20000 in
set_option maxHeartbeats 4000000 in
theorem w_FnFill (s : Option Addr) (len cap : Nat) (w : World) (h : Code0 w s len cap) : Calls Try.prog 8 #[.slice s len cap] w fun e w' => e = .returned (.bool true) ∧ Below w.heap.size w w' := by
  have hlc := h.lc
  have hcm := h.cm
  unfold maxLen at hcm
  by_cases hlen : len ≤ 1048576
  · go_enter Try.func8, Try.ntmps8
    go_wp2_with fail
    refine (c_DrawHoleFill s len cap _ h).mono ?_
    rintro e w1 ⟨v, zs, rfl, hO, hl, hb1⟩
    obtain ⟨so, co, rfl, hC, hc1, hc2⟩ := hO.all
    obtain ⟨n, hn⟩ : ∃ n, zs.length = n := ⟨_, rfl⟩
    rw [hn] at hC hc1 hl ⊢
    clear hO
    have hcon := c_implHoleFill so n co zs (by omega) _ hC
    have hcos := fun w1 (h1 : Cls w1 so n zs) => c_specHoleFill so n co zs (by omega) w1 h1
    cases hf : filB zs
    · have hr : filR zs = [] := by simp [filR, hf]
      rw [hf, hr] at hcon hcos
      go_wp2_with fail
      refine hcon.mono ?_
      rintro e w2 ⟨v2, rfl, hO2, hb2⟩
      obtain ⟨s2, k2, rfl, hI2, _⟩ := hO2.spread
      go_wp2_with fail
      refine (hcos _ (hC.keep hb2)).mono ?_
      rintro e w3 ⟨v3, rfl, hO3, hb3⟩
      obtain ⟨s3, k3, rfl, hI3, _⟩ := hO3.spread
      have hI23 := hI2.keep hb3
      have hsame := fun w1 (h1 : Below w3.heap.size w3 w1) => c_sameCls s2 s3 0 k2 k3 [] (by omega) w1 (hI23.keep h1) (hI3.keep h1)
      have hB3 := bt2 (bt2 hb1 hb2) hb3
      clear hcon hcos hO2 hO3 hI2 hI3 hI23 hC
      go_wp2_with (first | (go_at_call 29; refine (hsame _ (Below.refl _ _)).mono ?_; rintro e w4 ⟨rfl, hb4⟩; have hB4 := bt2 hB3 hb4) | (go_at_call 29; refine (hsame _ hb4).mono ?_; rintro e w5 ⟨rfl, hb5⟩; have hB5 := bt2 hB4 hb5) | fail)
      go_ret
      exact ⟨rfl, hB5⟩
    · have hr : filR zs = filL zs := by simp [filR, hf]
      have hs : sysB zs = true := by
        unfold filB at hf
        exact (Bool.and_eq_true_iff.1 hf).1
      have h20 : (filL zs).length ≤ 20 := by rw [← hr]; exact filR_le zs
      have hF := Lib.hid (fun h => fill_facts hs h)
      rw [hf, hr] at hcon hcos
      generalize filL zs = ys at *
      obtain ⟨m, hm⟩ : ∃ m, ys.length = m := ⟨_, rfl⟩
      rw [hm] at h20 hF
      rw [hn] at hF
      have hall := fun st ct w1 (h1 : Cls w1 st (n + m) (zs ++ ys)) => c_implSystemAll st (n + m) ct (zs ++ ys) (by omega) w1 h1
      clear hr hf
      go_wp2_with fail
      refine hcon.mono ?_
      rintro e w2 ⟨v2, rfl, hO2, hb2⟩
      obtain ⟨s2, k2, hv2, hI2, _⟩ := hO2.spread
      rw [hm] at hv2 hI2
      subst hv2
      go_wp2_with fail
      refine (hcos _ (hC.keep hb2)).mono ?_
      rintro e w3 ⟨v3, rfl, hO3, hb3⟩
      obtain ⟨s3, k3, hv3, hI3, _⟩ := hO3.spread
      rw [hm] at hv3 hI3
      subst hv3
      have hI23 := hI2.keep hb3
      have hC3 := (hC.keep hb2).keep hb3
      have hs3 := c_sameCls s2 s3 m k2 k3 ys (by omega) w3 hI23 hI3
      have hB3 := bt2 (bt2 hb1 hb2) hb3
      clear hcon hcos hO2 hO3 hI2 hI3 hC hb1 hb2 hb3
      go_wp2_with fail
      refine hs3.mono ?_
      rintro e w4 ⟨rfl, hb4⟩
      have hI24 := hI23.keep hb4
      have hC4 := hC3.keep hb4
      have hB4 := bt2 hB3 hb4
      clear hs3 hb4 hB3 hI23 hC3
      have hl1 := (sysB_facts hs).1
      have hL := hC4.len
      have hI24' := hI24.keep (ba (Below.refl _ _) (.cells #[] 43))
      have hC4' := hC4.keep (ba (Below.refl _ _) (.cells #[] 43))
      have hO0 := own_lit0 w4
      have hcat : ([] ++ zs ++ ys : List Cl) = zs ++ ys := by simp
      clear hC4 hn hs
      have hlen6 : (zs ++ ys).length = n + m := by rw [List.length_append, hL, hm]
      have hbig : 8 < n + m ∨ n + m ≤ 8 := by omega
      rcases hbig with hbig | hbig
      all_goals go_wp2_with (first
        | (at_builtin; refine wpList_append_cls rfl (.tmp 45) (.tmp 46) rfl w4.heap.size _ [] rfl hO0 so n co zs rfl hC4' (by simp; omega) (by simp) ?_; intro v5 w5 hO5 hg5; have hB5 : Below w4.heap.size w4 w5 := Below.grown (by repeat (first | exact Below.refl _ _ | assumption | refine Below.drew ?_ | refine bel_drewN ?_ _ | refine ba ?_ _ | refine bt2 ?_ (by assumption) | refine Below.setCell ?_ (by simp <;> omega) _)) hg5 (by simp) (fun g e => by cases e; exact Nat.le_refl _); have hI5 : Cls w5 s2 m ys := hI24.keep hB5)
        | (at_builtin; refine wpList_append_cls rfl (.tmp 47) (.tmp 48) rfl w4.heap.size v5 ([] ++ zs) rfl hO5 s2 m k2 ys rfl hI5 (by simp; omega) hB5.size ?_; intro v6 w6 hO6 hg6; have hB6 : Below w4.heap.size w4 w6 := hB5.grown hg6 hB5.size (fun g e => (World.ownsRow.lt hO5 g e).1); obtain ⟨s6, c6, hv6, hC6, _⟩ := hO6.spread; rw [hcat, hlen6] at hv6 hC6; subst hv6)
        | fail)
      · go_ret
        exact ⟨rfl, bt2 hB4 hB6⟩
      · have ha := hall s6 c6 w6 hC6
        rw [hF.out hbig] at ha
        refine ha.mono ?_
        rintro e w7 ⟨rfl, hb7⟩
        go_wp2_with fail
        go_ret
        exact ⟨rfl, bt2 (bt2 hB4 hB6) hb7⟩
  · go_enter Try.func8, Try.ntmps8
    go_wp2_with fail
    go_ret
    exact ⟨rfl, Below.refl _ _⟩
end Go.Proofs.Ytfagjhccdbielaa
