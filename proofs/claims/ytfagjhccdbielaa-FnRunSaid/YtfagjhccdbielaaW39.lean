/- The walk of the promise law FnRun. -/
import Derived.Test.YtfagjhccdbielaaMg4
import Derived.Test.YtfagjhccdbielaaMathV
import Derived.Test.YtfagjhccdbielaaMathT
import Derived.Test.YtfagjhccdbielaaS21
import Derived.BigQuiet
namespace Go.Proofs.Ytfagjhccdbielaa
open Go.RowKit
theorem cov_mov {zs : List Cl} (ha : allB zs = true) (x y : Int) : covB (movL x zs) y = covB zs (y - x) := by
  rw [covB_cnt, covB_cnt]
  unfold cntN
  rw [movL_length, movL_cnt ha y _ (Nat.le_refl _)]
theorem cov_gap {zs : List Cl} (hs : sysB zs = true) (b : Nat) (h : ∀ j : Nat, j < 2 ^ zs.length → covB zs ((b : Int) + j) = true) (y : Int) : covB zs y = true := by
  obtain ⟨h2, e⟩ := movL_sys (x := -(b : Int)) hs
  obtain ⟨_, _, ha, _, P1, _⟩ := sysB_facts hs
  have hD := Div.sys h2
  have key := cov_all hD (fun i hi => by
    rw [movL_length] at hi
    rw [cov_mov ha, show (i : Int) - -(b : Int) = b + i by omega]
    exact h i hi)
  have hm := cov_mod (x := y - b) fun c hc => (hD.2.2 c hc).2
  have h0 : 0 ≤ (y - b) % perI (movL (-(b : Int)) zs) := Int.emod_nonneg _ (by omega)
  have hk := key ((y - b) % perI (movL (-(b : Int)) zs)).toNat
  rw [Int.toNat_of_nonneg h0, hm, cov_mov ha, show y - b - -(b : Int) = y by omega] at hk
  exact hk
theorem nb_lt {zs : List Cl} (hs : sysB zs = true) {y : Int} (hy : covB zs y = false) (k : Nat) : (nbK zs k).1 < ((2 ^ zs.length : Nat) : Int) ∧ (nbK zs k).2 < ((2 ^ zs.length : Nat) : Int) ∧ ∀ j : Nat, (j : Int) < (nbK zs k).1 → covB zs ((k : Int) - 1 - j) = true := by
  have hp : 0 < 2 ^ zs.length := Nat.pow_pos (by omega)
  induction k with
  | zero => exact ⟨by simp only [nbK]; omega, by simp only [nbK]; omega, fun j hj => by simp only [nbK] at hj; omega⟩
  | succ k ih =>
    obtain ⟨a, b, c⟩ := ih
    have hb := nbK_bd zs k
    simp only [nbK]
    cases he : (cntN zs k == 0)
    · simp only [cond_false]
      have hc : ∀ j : Nat, (j : Int) < (nbK zs k).1 + 1 → covB zs (((k + 1 : Nat) : Int) - 1 - j) = true := by
        intro j hj
        cases j with
        | zero =>
          rw [show ((k + 1 : Nat) : Int) - 1 - ((0 : Nat) : Int) = k by omega, covB_cnt, he]
          rfl
        | succ j =>
          rw [show ((k + 1 : Nat) : Int) - 1 - ((j + 1 : Nat) : Int) = (k : Int) - 1 - j by omega]
          exact c j (by omega)
      have hlt : (nbK zs k).1 + 1 < ((2 ^ zs.length : Nat) : Int) := by
        refine Int.lt_of_not_ge fun hge => ?_
        have := cov_gap hs (k - (nbK zs k).1.toNat) (fun j hj => by
          have := hc (2 ^ zs.length - 1 - j) (by omega)
          rwa [show ((k + 1 : Nat) : Int) - 1 - ((2 ^ zs.length - 1 - j : Nat) : Int) = ((k - (nbK zs k).1.toNat : Nat) : Int) + j by omega] at this) y
        rw [hy] at this
        cases this
      exact ⟨hlt, by omega, hc⟩
    · simp only [cond_true]
      exact ⟨by omega, by omega, fun j hj => by omega⟩
theorem run_facts {zs : List Cl} (hs : sysB zs = true) : -1 ≤ hruI zs ∧ hruI zs < ((2 ^ zs.length : Nat) : Int) ∧ (hruI zs == -1) = alB zs := by
  have hp : 0 < 2 ^ zs.length := Nat.pow_pos (by omega)
  unfold alB
  rw [hs, Bool.true_and]
  cases hl : holL zs with
  | nil =>
    rw [hruI_nil hs hl]
    exact ⟨by omega, by omega, rfl⟩
  | cons y t =>
    have hne : holL zs ≠ [] := by rw [hl]; simp
    obtain ⟨P, hP⟩ := per_nat hs
    have hy : y ∈ holK zs P := by
      have : y ∈ holL zs := by rw [hl]; simp
      unfold holL at this
      rwa [hP] at this
    have hy0 := ((holK_mem zs P y).1 hy).2.2
    have h1 := run_twice hs hP hne
    have h2 := nb_lt hs hy0 (2 * P)
    have h3 := nbK_bd zs (2 * P)
    rw [hruI_run hs hne, ← h1]
    refine ⟨by omega, h2.2.1, ?_⟩
    simp
    omega
set_option maxRecDepth 20000 in
set_option maxHeartbeats 4000000 in
theorem w_FnRun (s : Option Addr) (len cap : Nat) (w : World) (h : Code0 w s len cap) : Calls Try.prog 5 #[.slice s len cap] w fun e w' => e = .returned (.bool true) ∧ Below w.heap.size w w' := by
  have hlc := h.lc
  have hcm := h.cm
  unfold maxLen at hcm
  by_cases hlen : len ≤ 1048576
  · go_enter Try.func5, Try.ntmps5
    go_wp2_with fail
    refine (c_DrawHoleRun s len cap _ h).mono ?_
    rintro e w1 ⟨v, zs, rfl, hO, hl, hb1⟩
    obtain ⟨so, co, rfl, hC, hc1, hc2⟩ := hO.all
    obtain ⟨n, hn⟩ : ∃ n, zs.length = n := ⟨_, rfl⟩
    rw [hn] at hC hc1 hl ⊢
    clear hO
    have hcon := c_implHoleRun so n co zs (by omega) _ hC
    have hcos := fun w1 (h1 : Cls w1 so n zs) => c_specHoleRun so n co zs (by omega) w1 h1
    have hall := fun w1 (h1 : Cls w1 so n zs) => c_implSystemAll so n co zs (by omega) w1 h1
    cases hs : sysB zs
    · have e0 := hruI_f hs
      rw [hs, e0] at hcon hcos
      clear hall
      go_wp2_with fail
      refine hcon.mono ?_
      rintro e w2 ⟨rfl, hb2⟩
      go_wp2_with fail
      refine (hcos _ (hC.keep hb2)).mono ?_
      rintro e w3 ⟨rfl, hb3⟩
      go_wp2_with fail
      go_ret
      exact ⟨rfl, bt2 (bt2 hb1 hb2) hb3⟩
    · obtain ⟨r1, r2, r3⟩ := run_facts hs
      have hl1 := (sysB_facts hs).1
      have hl2 := (sysB_facts hs).2.1
      rw [hs] at hcon hcos
      rw [← r3] at hall
      rw [hn] at hl1 hl2 r2
      generalize hruI zs = X at *
      have hXX : (X == X) = true := by simp
      have hYY : ((X == -1) == (X == -1)) = true := by simp
      have hn8 : n = 1 ∨ n = 2 ∨ n = 3 ∨ n = 4 ∨ n = 5 ∨ n = 6 ∨ n = 7 ∨ n = 8 := by omega
      clear hs r3
      go_wp2_with fail
      refine hcon.mono ?_
      rintro e w2 ⟨rfl, hb2⟩
      go_wp2_with fail
      refine (hcos _ (hC.keep hb2)).mono ?_
      rintro e w3 ⟨rfl, hb3⟩
      have hB3 := bt2 (bt2 hb1 hb2) hb3
      have hC3 := (hC.keep hb2).keep hb3
      have hal := hall _ hC3
      clear hcon hcos hall hC hC3 hb1 hb2 hb3
      rcases hn8 with rfl | rfl | rfl | rfl | rfl | rfl | rfl | rfl
      all_goals
        have hxz : X < _ := r2
        go_wp2_with (first | (go_at_call 21; refine hal.mono ?_; rintro e w4 ⟨rfl, hb4⟩) | fail)
        go_ret
        exact ⟨rfl, bt2 hB3 hb4⟩
  · go_enter Try.func5, Try.ntmps5
    go_wp2_with fail
    go_ret
    exact ⟨rfl, Below.refl _ _⟩
end Go.Proofs.Ytfagjhccdbielaa
