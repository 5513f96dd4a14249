/- The walks of the promise laws FnAll and FnExact. -/
import Derived.Test.YtgdpebnnmklbjaaMg4
import Derived.Test.YtgdpebnnmklbjaaMathV
namespace Go.Proofs.Ytgdpebnnmklbjaa
open Go.RowKit
set_option maxRecDepth 20000 in
set_option maxHeartbeats 1000000 in
theorem w_FnAll (s : Option Addr) (len cap : Nat) (w : World) (h : Code0 w s len cap) : Calls Try.prog 7 #[.slice s len cap] w fun e w' => e = .returned (.bool true) ∧ Below w.heap.size w w' := by
  have hlc := h.lc
  have hcm := h.cm
  unfold maxLen at hcm
  by_cases hlen : len ≤ 1048576
  · go_enter Try.func7, Try.ntmps7
    go_wp2_with fail
    refine (c_DrawSystemAll s len cap _ h).mono ?_
    rintro e w1 ⟨v, zs, rfl, hO, hl, hb1⟩
    obtain ⟨so, co, rfl, hC, hc1, hc2⟩ := hO.all
    obtain ⟨n, hn⟩ : ∃ n, zs.length = n := ⟨_, rfl⟩
    rw [hn] at hC hc1 hl ⊢
    clear hO
    have hcon := c_implSystemAll so n co zs (by omega) _ hC
    have hcos := fun w1 (h1 : Cls w1 so n zs) => c_specSystemAll so n co zs (by omega) w1 h1
    cases ha : alB zs
    · rw [ha] at hcon hcos
      go_wp2_with fail
      refine hcon.mono ?_
      rintro e w2 ⟨rfl, hb2⟩
      go_wp2_with fail
      refine (hcos _ (hC.keep hb2)).mono ?_
      rintro e w3 ⟨rfl, hb3⟩
      go_wp2_with fail
      go_ret
      exact ⟨rfl, bt2 (bt2 hb1 hb2) hb3⟩
    · rw [ha] at hcon hcos
      have hs : sysB zs = true := by
        unfold alB at ha
        exact (Bool.and_eq_true_iff.1 ha).1
      have hmov := fun w1 (h1 : Cls w1 so n zs) => c_implSystemMoved so n co zs 7 (by omega) w1 h1
      have hmv : movsB 7 zs = true := by unfold movsB; rw [hs]; rfl
      have hmr : movR 7 zs = movL 7 zs := by simp [movR, hmv]
      have hml : (movL 7 zs).length = n := by rw [movL_length, hn]
      have hma := movL_al (x := 7) hs ha
      rw [hmv, hmr] at hmov
      have hfin := fun (s' : Option Addr) (c' : Nat) w1 (h1 : Cls w1 s' n (movL 7 zs)) => c_implSystemAll s' n c' (movL 7 zs) (by omega) w1 h1
      rw [hma] at hfin
      have hper := fun w1 (h1 : Cls w1 so n zs) => c_implSystemPeriod_t so n co zs (by omega) hs w1 h1
      have hshr := fun w1 (h1 : Cls w1 so n zs) => c_implSystemShare so n co zs (by omega) w1 h1
      have hle := al_share hs ha
      have hsel : selI true (shrI zs) = shrI zs := selI_t _
      rw [hs] at hshr
      simp only [hsel] at hshr
      clear hsel hma hmr hmv ha
      generalize movL 7 zs = ms at *
      generalize shrI zs = H at *
      generalize perI zs = P at *
      go_wp2_with fail
      refine hcon.mono ?_
      rintro e w2 ⟨rfl, hb2⟩
      have hC2 := hC.keep hb2
      go_wp2_with fail
      refine (hcos _ hC2).mono ?_
      rintro e w3 ⟨rfl, hb3⟩
      have hC3 := hC2.keep hb3
      have hB3 := bt2 (bt2 hb1 hb2) hb3
      clear hcon hcos hC hC2
      go_wp2_with fail
      refine (hmov _ hC3).mono ?_
      rintro e w4 ⟨vm, rfl, hOm, hb4⟩
      obtain ⟨sm, cm, rfl, hM4, _, _⟩ := hOm.all
      rw [hml] at hM4 ⊢
      have hC4 := hC3.keep hb4
      have hB4 := bt2 hB3 hb4
      clear hOm hmov hC3
      go_wp2_with fail
      refine (hshr _ hC4).mono ?_
      rintro e w5 ⟨rfl, hb5⟩
      have hC5 := hC4.keep hb5
      have hB5 := bt2 hB4 hb5
      have hM5 := hM4.keep hb5
      clear hC4
      go_wp2_with fail
      refine (hper _ hC5).mono ?_
      rintro e w6 ⟨rfl, hb6⟩
      have hC6 := hC5.keep hb6
      have hB6 := bt2 hB5 hb6
      have hM6 := hM5.keep hb6
      clear hC5
      have hf := hfin sm cm w6 hM6
      clear hfin hshr hper
      go_wp2_with (go_at_call 30; refine hf.mono ?_; rintro e w7 ⟨rfl, hb7⟩; have hB7 := bt2 hB6 hb7)
      go_ret
      exact ⟨rfl, hB7⟩
  · go_enter Try.func7, Try.ntmps7
    go_wp2_with fail
    go_ret
    exact ⟨rfl, Below.refl _ _⟩
set_option maxRecDepth 20000 in
set_option maxHeartbeats 1000000 in
theorem w_FnExact (s : Option Addr) (len cap : Nat) (w : World) (h : Code0 w s len cap) : Calls Try.prog 9 #[.slice s len cap] w fun e w' => e = .returned (.bool true) ∧ Below w.heap.size w w' := by
  have hlc := h.lc
  have hcm := h.cm
  unfold maxLen at hcm
  by_cases hlen : len ≤ 1048576
  · go_enter Try.func9, Try.ntmps9
    go_wp2_with fail
    refine (c_DrawSystemExact s len cap _ h).mono ?_
    rintro e w1 ⟨v, zs, rfl, hO, hl, hb1⟩
    obtain ⟨so, co, rfl, hC, hc1, hc2⟩ := hO.all
    obtain ⟨n, hn⟩ : ∃ n, zs.length = n := ⟨_, rfl⟩
    rw [hn] at hC hc1 hl ⊢
    clear hO
    have hcon := c_implSystemExact so n co zs (by omega) _ hC
    have hcos := fun w1 (h1 : Cls w1 so n zs) => c_specSystemExact so n co zs (by omega) w1 h1
    cases ha : exaB zs
    · rw [ha] at hcon hcos
      go_wp2_with fail
      refine hcon.mono ?_
      rintro e w2 ⟨rfl, hb2⟩
      go_wp2_with fail
      refine (hcos _ (hC.keep hb2)).mono ?_
      rintro e w3 ⟨rfl, hb3⟩
      go_wp2_with fail
      go_ret
      exact ⟨rfl, bt2 (bt2 hb1 hb2) hb3⟩
    · rw [ha] at hcon hcos
      have hs := (exa_facts ha).1
      have hmov := fun w1 (h1 : Cls w1 so n zs) => c_implSystemMoved so n co zs 7 (by omega) w1 h1
      have hmv : movsB 7 zs = true := by unfold movsB; rw [hs]; rfl
      have hmr : movR 7 zs = movL 7 zs := by simp [movR, hmv]
      have hml : (movL 7 zs).length = n := by rw [movL_length, hn]
      have hma := movL_exa (x := 7) ha
      rw [hmv, hmr] at hmov
      have hfin := fun (s' : Option Addr) (c' : Nat) w1 (h1 : Cls w1 s' n (movL 7 zs)) => c_implSystemExact s' n c' (movL 7 zs) (by omega) w1 h1
      rw [hma] at hfin
      have hper := fun w1 (h1 : Cls w1 so n zs) => c_implSystemPeriod_t so n co zs (by omega) hs w1 h1
      have hshr := fun w1 (h1 : Cls w1 so n zs) => c_implSystemShare so n co zs (by omega) w1 h1
      have hsel : selI true (shrI zs) = shrI zs := selI_t _
      rw [hs] at hshr
      simp only [hsel] at hshr
      rw [exa_share ha] at hshr
      clear hsel hma hmr hmv ha
      generalize movL 7 zs = ms at *
      generalize perI zs = P at *
      have hPP : (P == P) = true := by simp
      go_wp2_with fail
      refine hcon.mono ?_
      rintro e w2 ⟨rfl, hb2⟩
      have hC2 := hC.keep hb2
      go_wp2_with fail
      refine (hcos _ hC2).mono ?_
      rintro e w3 ⟨rfl, hb3⟩
      have hC3 := hC2.keep hb3
      have hB3 := bt2 (bt2 hb1 hb2) hb3
      clear hcon hcos hC hC2
      go_wp2_with fail
      refine (hshr _ hC3).mono ?_
      rintro e w4 ⟨rfl, hb4⟩
      have hC4 := hC3.keep hb4
      have hB4 := bt2 hB3 hb4
      clear hC3
      go_wp2_with fail
      refine (hper _ hC4).mono ?_
      rintro e w5 ⟨rfl, hb5⟩
      have hC5 := hC4.keep hb5
      have hB5 := bt2 hB4 hb5
      clear hC4
      go_wp2_with fail
      refine (hmov _ hC5).mono ?_
      rintro e w6 ⟨vm, rfl, hOm, hb6⟩
      obtain ⟨sm, cm, rfl, hM6, _, _⟩ := hOm.all
      rw [hml] at hM6 ⊢
      have hC6 := hC5.keep hb6
      have hB6 := bt2 hB5 hb6
      clear hOm hmov hC5
      have hf := hfin sm cm w6 hM6
      clear hfin hshr hper
      go_wp2_with (go_at_call 38; refine hf.mono ?_; rintro e w7 ⟨rfl, hb7⟩; have hB7 := bt2 hB6 hb7)
      go_ret
      exact ⟨rfl, hB7⟩
  · go_enter Try.func9, Try.ntmps9
    go_wp2_with fail
    go_ret
    exact ⟨rfl, Below.refl _ _⟩
end Go.Proofs.Ytgdpebnnmklbjaa
