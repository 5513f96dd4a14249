/- The walk of the promise law FnHoles. -/
import Derived.Test.YtgdpebnnmklbjaaMg4
import Derived.Test.YtgdpebnnmklbjaaMathD
import Derived.Test.YtgdpebnnmklbjaaC3
import Derived.RegionTactic
import Derived.BigQuiet
namespace Go.Proofs.Ytgdpebnnmklbjaa
open Go.RowKit
set_option maxRecDepth 20000 in
set_option maxHeartbeats 1000000 in
theorem c_sameInts (s t : Option Addr) (n c1 c2 : Nat) (zs : List Int) (hn : n ≤ 1048576) (w : World) (hs : Ints w s n zs) (ht : Ints w t n zs) : Calls Try.prog 23 #[.slice s n c1, .slice t n c2] w fun e w' => e = .returned (.bool true) ∧ Below w.heap.size w w' := by
  go_enter Try.func23, Try.ntmps23
  go_wp2_with fail
  go_loopw [5] (fun i wr => ∃ k : Nat, k ≤ n ∧ i = .int .i64 k ∧ Below w.heap.size w wr) (fun i _ => n - (intOf i).toNat)
  case atStart => exact ⟨0, Nat.zero_le _, rfl, Below.refl _ _⟩
  case round =>
    obtain ⟨k, hk, rfl, hB⟩ := hrel
    by_cases hlt : k < n
    · rcases (hs.keep hB).lies with h0 | ⟨b1, o1, rfl, hb1, hcells1⟩
      · omega
      rcases (ht.keep hB).lies with h0 | ⟨b2, o2, rfl, hb2, hcells2⟩
      · omega
      have hx := hcells1 k hlt
      have hx2 := hcells2 k hlt
      clear hcells1 hcells2
      go_wp2_with fail
      go_quiet (fail)
      go_wp2_with fail
      go_roundw
      case rel => exact ⟨k + 1, by omega, by go_num, bel_drewN hB _⟩
      case measure => simp [intOf]; omega
    · go_wp2_with fail
      go_ret
      exact ⟨rfl, hB⟩
theorem hol_mem {zs : List Cl} {k : Nat} : ∀ y ∈ holK zs k, ∃ j : Nat, j < k ∧ y = j ∧ cntN zs j = 0 := by
  induction k with
  | zero => intro y hy; cases hy
  | succ k ih =>
    intro y hy
    simp only [holK] at hy
    cases he : (cntN zs k == 0)
    · rw [he, cond_false] at hy
      obtain ⟨j, h1, h2⟩ := ih y hy
      exact ⟨j, by omega, h2⟩
    · rw [he, cond_true] at hy
      rcases List.mem_append.1 hy with hy | hy
      · obtain ⟨j, h1, h2⟩ := ih y hy
        exact ⟨j, by omega, h2⟩
      · exact ⟨k, by omega, by simpa using hy, by simpa using he⟩
theorem cnt_zero {zs : List Cl} {x : Int} (h : cntN zs x = 0) (k : Nat) (hk : k < zs.length) : ¬ x % mAt zs k = rAt zs k := by
  intro he
  have h1 : cntK zs x (k + 1) = cntK zs x k + 1 := by simp [cntK, he]
  have h2 := cntK_le zs x (show k + 1 ≤ zs.length by omega)
  have h3 := (cntK_bd zs x k).1
  have h4 : cntK zs x zs.length = 0 := h
  omega
theorem hole_has {zs : List Cl} {y : Int} (hy : y ∈ holL zs) (j : Nat) (hj : j < zs.length) : hasB (rAt zs j) (mAt zs j) y = false := by
  obtain ⟨i, _, rfl, h0⟩ := hol_mem y hy
  have := cnt_zero h0 j hj
  simp [hasB, this]
set_option maxRecDepth 20000 in
set_option maxHeartbeats 4000000 in
theorem w_FnHoles (s : Option Addr) (len cap : Nat) (w : World) (h : Code0 w s len cap) : Calls Try.prog 6 #[.slice s len cap] w fun e w' => e = .returned (.bool true) ∧ Below w.heap.size w w' := by
  have hlc := h.lc
  have hcm := h.cm
  unfold maxLen at hcm
  by_cases hlen : len ≤ 1048576
  · go_enter Try.func6, Try.ntmps6
    go_wp2_with fail
    refine (c_DrawSystemHoles s len cap _ h).mono ?_
    rintro e w1 ⟨v, zs, rfl, hO, hl, hb1⟩
    obtain ⟨so, co, rfl, hC, hc1, hc2⟩ := hO.all
    obtain ⟨n, hn⟩ : ∃ n, zs.length = n := ⟨_, rfl⟩
    rw [hn] at hC hc1 hl ⊢
    clear hO
    have hcon := c_implSystemHoles so n co zs (by omega) _ hC
    have hcos := fun w1 (h1 : Cls w1 so n zs) => c_specSystemHoles so n co zs (by omega) w1 h1
    have hall := fun w1 (h1 : Cls w1 so n zs) => c_implSystemAll so n co zs (by omega) w1 h1
    have hLb := holR_le zs
    have HH := Lib.hid (fun (y : Int) (hy : y ∈ holL zs) (j : Nat) (hj : j < zs.length) => hole_has hy j hj)
    cases hs : sysB zs
    · rw [hs, holR_f hs] at hcon hcos
      clear hall HH hLb
      go_wp2_with fail
      refine hcon.mono ?_
      rintro e w2 ⟨v2, rfl, hO2, hb2⟩
      obtain ⟨s2, k2, rfl, hI2, _⟩ := hO2.spread
      go_wp2_with fail
      refine (hcos _ (hC.keep hb2)).mono ?_
      rintro e w3 ⟨v3, rfl, hO3, hb3⟩
      obtain ⟨s3, k3, rfl, hI3, _⟩ := hO3.spread
      have hI23 := hI2.keep hb3
      have hsame := fun w1 (h1 : Below w3.heap.size w3 w1) => c_sameInts s2 s3 0 k2 k3 [] (by omega) w1 (hI23.keep h1) (hI3.keep h1)
      have hB3 := bt2 (bt2 hb1 hb2) hb3
      clear hcon hcos hO2 hO3 hI2 hI3 hI23 hC
      go_wp2_with (first | (go_at_call 23; refine (hsame _ (Below.refl _ _)).mono ?_; rintro e w4 ⟨rfl, hb4⟩; have hB4 := bt2 hB3 hb4) | (go_at_call 23; refine (hsame _ hb4).mono ?_; rintro e w5 ⟨rfl, hb5⟩; have hB5 := bt2 hB4 hb5) | fail)
      go_ret
      exact ⟨rfl, hB5⟩
    · rw [hs, holR_t hs] at hcon hcos
      rw [holR_t hs] at hLb
      obtain ⟨L, hL⟩ : ∃ L, (holL zs).length = L := ⟨_, rfl⟩
      have hX : ((L : Int) == 0) = alB zs := by
        unfold alB
        rw [hs, Bool.true_and, ← hL]
        cases holL zs <;> simp
        omega
      rw [hL] at hLb
      have HX := Lib.hid (fun (i : Nat) (hi : i < L) => show (holL zs)[i]?.getD 0 ∈ holL zs by
        rw [List.getElem?_eq_getElem (by omega)]
        exact List.getElem_mem _)
      rw [← hX] at hall
      clear hX
      generalize holL zs = Q at *
      go_wp2_with fail
      refine hcon.mono ?_
      rintro e w2 ⟨v2, rfl, hO2, hb2⟩
      obtain ⟨s2, k2, hv2, hI2, _⟩ := hO2.spread
      rw [hL] at hv2 hI2
      subst hv2
      go_wp2_with fail
      refine (hcos _ (hC.keep hb2)).mono ?_
      rintro e w3 ⟨v3, rfl, hO3, hb3⟩
      obtain ⟨s3, k3, hv3, hI3, _⟩ := hO3.spread
      rw [hL] at hv3 hI3
      subst hv3
      have hI23 := hI2.keep hb3
      have hC3 := (hC.keep hb2).keep hb3
      have hsame := c_sameInts s2 s3 L k2 k3 Q (by omega) w3 hI23 hI3
      have hB3 := bt2 (bt2 hb1 hb2) hb3
      clear hcon hcos hO2 hO3 hI2 hI3 hC hL hb1 hb2 hb3
      go_wp2_with (first | (go_at_call 23; refine hsame.mono ?_; rintro e w4 ⟨rfl, hb4⟩) | fail)
      clear hsame
      go_loopw [8] (fun i wr => ∃ a : Nat, a ≤ L ∧ i = .int .i64 a ∧ Below w3.heap.size w3 wr) (fun i _ => L - (intOf i).toNat)
      case atStart => exact ⟨0, Nat.zero_le _, rfl, hb4⟩
      case round =>
        obtain ⟨a, ha, rfl, hBa⟩ := hrel
        have haw : a ≤ 1000 := by omega
        by_cases hal : a < L
        · have hy := HX.out a hal
          go_wp2_with fail
          go_loopw [9] (fun i wr => ∃ c : Nat, c ≤ n ∧ i = .int .i64 c ∧ Below w3.heap.size w3 wr) (fun i _ => n - (intOf i).toNat)
          case atStart => exact ⟨0, Nat.zero_le _, rfl, hBa⟩
          case round =>
            obtain ⟨c, hc, rfl, hBc⟩ := hrel
            by_cases hcl : c < n
            · rcases (hI23.keep hBc).lies with h0 | ⟨b1, o1, rfl, hb1, hcells1⟩
              · omega
              rcases (hC3.keep hBc).lies with h0 | ⟨b2, o2, rfl, hb2, hcells2⟩
              · omega
              have hx := hcells1 a hal
              obtain ⟨hx2, hx3⟩ := hcells2 c hcl
              have hh := HH.out _ hy c (by omega)
              clear hcells1 hcells2
              generalize Q[a]?.getD 0 = y at *
              have haz0 : (0 : Int) ≤ (a : Int) := by omega
              have haz1 : (a : Int) < (L : Int) := by omega
              have hcz0 : (0 : Int) ≤ (c : Int) := by omega
              have hcz1 : (c : Int) < (n : Int) := by omega
              have hcw : c ≤ 10 := by omega
              go_wp2_with fail
              go_region_held3 (fun w' => w'.cell? ⟨b2, o2 + c * 2, none⟩ = some (.int .i64 (rAt zs c)) ∧ w'.cell? ⟨b2, o2 + c * 2 + 1, none⟩ = some (.int .i64 (mAt zs c)) ∧ w'.cell? ⟨b1, o1 + a, none⟩ = some (.int .i64 y)) (go_keep) (first | (go_at_call 29; refine (c_implClassHas _ _ _ _).mono ?_; rintro e w5 ⟨rfl, hb5⟩; have g0 := keepc hb5 (a := ⟨b2, o2 + c * 2, none⟩) (v := .int .i64 (rAt zs c)) (by go_keep); have g1 := keepc hb5 (a := ⟨b2, o2 + c * 2 + 1, none⟩) (v := .int .i64 (mAt zs c)) (by go_keep); have g2 := keepc hb5 (a := ⟨b1, o1 + a, none⟩) (v := .int .i64 y) (by go_keep); rw [hh]) | fail)
              all_goals
                have hB5 : Below w3.heap.size w3 w5 := bt2 hBc.drew hb5
                go_wp2_with fail
                go_roundw
              case rel => exact ⟨c + 1, by omega, by go_num, hB5⟩
              case measure => simp [intOf]; omega
            · have hcn : c = n := by omega
              subst hcn
              go_wp2_with fail
              go_roundw
              case rel => exact ⟨a + 1, by omega, by go_num, hBc⟩
              case measure => simp [intOf]; omega
        · have hal2 : a = L := by omega
          subst hal2
          have hcl := hall _ (hC3.keep hBa)
          have hXX : (((a : Int) == 0) == ((a : Int) == 0)) = true := by simp
          clear hall HX HH
          go_wp2_with (go_at_call 30; refine hcl.mono ?_; rintro e w6 ⟨rfl, hb6⟩)
          go_ret
          exact ⟨rfl, bt2 (bt2 hB3 hBa) hb6⟩
  · go_enter Try.func6, Try.ntmps6
    go_wp2_with fail
    go_ret
    exact ⟨rfl, Below.refl _ _⟩
end Go.Proofs.Ytgdpebnnmklbjaa
