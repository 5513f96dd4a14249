/- The walks of the promise laws FnExactShare and FnApart. -/
import Derived.Test.YtgdpebnnmklbjaaMg4
import Derived.Test.YtgdpebnnmklbjaaMathD
namespace Go.Proofs.Ytgdpebnnmklbjaa
open Go.RowKit
set_option maxRecDepth 20000 in
set_option maxHeartbeats 1000000 in
theorem w_FnExactShare (s : Option Addr) (len cap : Nat) (w : World) (h : Code0 w s len cap) : Calls Try.prog 10 #[.slice s len cap] w fun e w' => e = .returned (.bool true) ∧ Below w.heap.size w w' := by
  have hlc := h.lc
  have hcm := h.cm
  unfold maxLen at hcm
  by_cases hlen : len ≤ 1048576
  · go_enter Try.func10, Try.ntmps10
    go_wp2_with fail
    refine (c_DrawSystemShare s len cap _ h).mono ?_
    rintro e w1 ⟨v, zs, rfl, hO, hl, hb1⟩
    obtain ⟨so, co, rfl, hC, hc1, hc2⟩ := hO.all
    obtain ⟨n, hn⟩ : ∃ n, zs.length = n := ⟨_, rfl⟩
    rw [hn] at hC hc1 hl ⊢
    clear hO
    have hcon := c_implSystemShare so n co zs (by omega) _ hC
    have hcos := fun w1 (h1 : Cls w1 so n zs) => c_specSystemShare so n co zs (by omega) w1 h1
    have hall := fun w1 (h1 : Cls w1 so n zs) => c_implSystemAll so n co zs (by omega) w1 h1
    have hapr := fun w1 (h1 : Cls w1 so n zs) => c_implSystemApart so n co zs (by omega) w1 h1
    cases hs : sysB zs
    · rw [hs] at hcon hcos
      clear hall hapr
      go_wp2_with fail
      refine hcon.mono ?_
      rintro e w2 ⟨rfl, hb2⟩
      go_wp2_with fail
      refine (hcos _ (hC.keep hb2)).mono ?_
      rintro e w3 ⟨rfl, hb3⟩
      go_wp2_with fail
      go_ret
      exact ⟨rfl, bt2 (bt2 hb1 hb2) hb3⟩
    · rw [hs] at hcon hcos
      have hper := fun w1 (h1 : Cls w1 so n zs) => c_implSystemPeriod_t so n co zs (by omega) hs w1 h1
      have HB := Lib.hid (fun he => share_both hs he)
      have hsel : selI true (shrI zs) = shrI zs := selI_t _
      rw [hsel] at hcon hcos
      clear hsel
      generalize shrI zs = H at *
      generalize perI zs = P at *
      go_wp2_with fail
      refine hcon.mono ?_
      rintro e w2 ⟨rfl, hb2⟩
      have hC2 := hC.keep hb2
      go_wp2_with fail
      refine (hcos _ hC2).mono ?_
      rintro e w3 ⟨rfl, hb3⟩
      have hC3 := hC2.keep hb3
      have hB3 := bt2 (bt2 hb1 hb2) hb3
      clear hcon hcos hC hC2
      go_wp2_with fail
      refine (hper _ hC3).mono ?_
      rintro e w4 ⟨rfl, hb4⟩
      have hC4 := hC3.keep hb4
      have hB4 := bt2 hB3 hb4
      have hall4 := hall _ hC4
      have hapr5 := fun w5 (h5 : Below w4.heap.size w4 w5) => hapr w5 (hC4.keep h5)
      clear hper hC3 hall hapr
      by_cases he : H = P
      · subst he
        have hE := HB.out rfl
        rw [hE] at hall4
        clear HB
        generalize aprB zs = X at *
        have hXX : (X == X) = true := by simp
        go_wp2_with (first | (go_at_call 30; refine hall4.mono ?_; rintro e w5 ⟨rfl, hb5⟩; have hB5 := bt2 hB4 hb5) | (go_at_call 35; refine (hapr5 _ hb5).mono ?_; rintro e w6 ⟨rfl, hb6⟩; have hB6 := bt2 hB5 hb6) | fail)
        go_ret
        exact ⟨rfl, hB6⟩
      · have hne : (H != P) = true := by simp [he]
        clear HB hall4 hapr5
        go_wp2_with fail
        go_ret
        exact ⟨rfl, hB4⟩
  · go_enter Try.func10, Try.ntmps10
    go_wp2_with fail
    go_ret
    exact ⟨rfl, Below.refl _ _⟩
set_option maxRecDepth 20000 in
set_option maxHeartbeats 1000000 in
theorem w_FnApart (s : Option Addr) (len cap : Nat) (w : World) (h : Code0 w s len cap) : Calls Try.prog 8 #[.slice s len cap] w fun e w' => e = .returned (.bool true) ∧ Below w.heap.size w w' := by
  have hlc := h.lc
  have hcm := h.cm
  unfold maxLen at hcm
  by_cases hlen : len ≤ 1048576
  · go_enter Try.func8, Try.ntmps8
    go_wp2_with fail
    refine (c_DrawSystemApart s len cap _ h).mono ?_
    rintro e w1 ⟨v, zs, rfl, hO, hl, hb1⟩
    obtain ⟨so, co, rfl, hC, hc1, hc2⟩ := hO.all
    obtain ⟨n, hn⟩ : ∃ n, zs.length = n := ⟨_, rfl⟩
    rw [hn] at hC hc1 hl ⊢
    clear hO
    have hcon := c_implSystemApart so n co zs (by omega) _ hC
    have hcos := fun w1 (h1 : Cls w1 so n zs) => c_specSystemApart so n co zs (by omega) w1 h1
    have htim := fun w1 (h1 : Cls w1 so n zs) => c_implSystemTimes so n co zs (by omega) w1 h1
    have hshr := fun w1 (h1 : Cls w1 so n zs) => c_implSystemShare so n co zs (by omega) w1 h1
    cases ha : aprB zs
    · rw [ha] at hcon hcos
      clear htim hshr
      go_wp2_with fail
      refine hcon.mono ?_
      rintro e w2 ⟨rfl, hb2⟩
      go_wp2_with fail
      refine (hcos _ (hC.keep hb2)).mono ?_
      rintro e w3 ⟨rfl, hb3⟩
      go_wp2_with fail
      go_ret
      exact ⟨rfl, bt2 (bt2 hb1 hb2) hb3⟩
    · rw [ha] at hcon hcos
      have hs : sysB zs = true := by
        unfold aprB at ha
        cases h2 : sysB zs
        · rw [h2] at ha; cases ha
        · rfl
      have hper := fun w1 (h1 : Cls w1 so n zs) => c_implSystemPeriod_t so n co zs (by omega) hs w1 h1
      obtain ⟨P, hP⟩ := per_nat hs
      have hPb : P ≤ 1000 := by
        obtain ⟨_, _, _, _, _, P2⟩ := sysB_facts hs
        omega
      have hle := apr_share hs ha
      have HA := Lib.hid ((apr_iff hs P hP).1 ha)
      have hcb := cntK_bd zs
      rw [hs] at htim hshr
      have hsel : selI true (shrI zs) = shrI zs := selI_t _
      simp only [hsel] at hshr
      rw [hP] at hper hle
      clear hsel
      generalize shrI zs = H at *
      go_wp2_with fail
      refine hcon.mono ?_
      rintro e w2 ⟨rfl, hb2⟩
      have hC2 := hC.keep hb2
      go_wp2_with fail
      refine (hcos _ hC2).mono ?_
      rintro e w3 ⟨rfl, hb3⟩
      have hC3 := hC2.keep hb3
      have hB3 := bt2 (bt2 hb1 hb2) hb3
      clear hcon hcos hC hC2 ha
      have htL : (timR zs).length = P := by simp [timR, hs, timL_length, hP]
      have htX : ∀ k : Nat, k < P → (timR zs)[k]?.getD 0 = cntN zs k := fun k hk => by
        simp [timR, hs, timL, hP, hk]
      go_wp2_with fail
      refine (htim _ hC3).mono ?_
      rintro e w4 ⟨v4, rfl, hO4, hb4⟩
      obtain ⟨s4, k4, hv4, hI4, _⟩ := hO4.spread
      rw [htL] at hv4 hI4
      subst hv4
      have HTX := Lib.hid htX
      have hC4 := hC3.keep hb4
      have hB4 := bt2 hB3 hb4
      clear htim hC3 hO4 htL htX
      go_wp2_with fail
      refine (hshr _ hC4).mono ?_
      rintro e w5 ⟨rfl, hb5⟩
      have hC5 := hC4.keep hb5
      have hI5 := hI4.keep hb5
      have hB5 := bt2 hB4 hb5
      clear hshr hC4 hI4
      go_wp2_with fail
      refine (hper _ hC5).mono ?_
      rintro e w6 ⟨rfl, hb6⟩
      have hI6 := hI5.keep hb6
      have hB6 := bt2 hB5 hb6
      clear hper hC5 hI5
      go_wp2_with fail
      go_loopw [12] (fun i wr => ∃ k : Nat, k ≤ P ∧ i = .int .i64 k ∧ Below w.heap.size w wr ∧ Ints wr s4 P (timR zs)) (fun i _ => P - (intOf i).toNat)
      case atStart => exact ⟨0, Nat.zero_le _, rfl, hB6, hI6⟩
      case round =>
        obtain ⟨k, hk, rfl, hB, hI⟩ := hrel
        by_cases hlt : k < P
        · rcases hI.lies with h0 | ⟨b, off, rfl, hbw, hcells⟩
          · omega
          have x0 := hcells k hlt
          rw [HTX.out k hlt] at x0
          have hle1 := HA.out k hlt
          clear hcells
          generalize cntN zs k = X at *
          have hkz : (k : Int) < (P : Int) := by omega
          have hkz0 : (0 : Int) ≤ (k : Int) := by omega
          have hkw : k < 1000 := by omega
          clear hI6 hcb
          go_wp2_with fail
          go_roundw
          case rel => exact ⟨k + 1, by omega, by go_num, hB, hI⟩
          case measure => simp [intOf]; omega
        · have hkn : k = P := by omega
          subst hkn
          clear hI6 hcb
          go_wp2_with fail
          go_ret
          exact ⟨rfl, hB⟩
  · go_enter Try.func8, Try.ntmps8
    go_wp2_with fail
    go_ret
    exact ⟨rfl, Below.refl _ _⟩
end Go.Proofs.Ytgdpebnnmklbjaa
