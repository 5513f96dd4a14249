/- The walk of the promise law FnLeastClasses. -/
import Derived.Test.YtgpeimfneihdoaaD5
import Derived.Test.YtgpeimfneihdoaaS40
namespace Go.Proofs.Ytgpeimfneihdoaa
open Go.RowKit
theorem lea_twice {n : Nat} (h : 1 ≤ n) : leaS (2 * n) = 1 + leaS n := by
  have e : lpd (2 * n) = 2 := lpd_eq (by omega) (Nat.le_refl _) (by omega) fun d h1 h2 => by omega
  rw [leaS_step (by omega), e]
  have : 2 * n / 2 = n := by omega
  rw [this]
theorem leaI_twice {x : Int} (h1 : 1 ≤ x) (h2 : 2 * x ≤ 1000) : leaI (2 * x) = leaI x + 1 := by
  obtain ⟨n, rfl⟩ := Int.eq_ofNat_of_zero_le (show 0 ≤ x by omega)
  have e1 : modB (2 * (n : Int)) = true := by simp [modB]; omega
  have e2 : modB (n : Int) = true := by simp [modB]; omega
  unfold leaI
  rw [e1, e2]
  have : (2 * (n : Int)).toNat = 2 * n := by omega
  rw [this, lea_twice (by omega)]
  simp only [cond_true, Int.toNat_natCast]
  omega
theorem leaI_bd (x : Int) : 0 ≤ leaI x ∧ leaI x ≤ 1000 := by
  unfold leaI
  cases h : modB x
  · simp
  · simp only [modB, decide_eq_true_eq] at h
    have := leaS_le x.toNat x.toNat (Nat.le_refl _) (by omega)
    simp only [cond_true]
    omega
def DrawnN (w : World) (e : Ending) (w' : World) : Prop := ∃ x : Int, e = .returned (.int .i64 x) ∧ 0 ≤ x ∧ x ≤ 1049 ∧ Below w.heap.size w w'
theorem c_DrawExactLeast (s : Option Addr) (len cap : Nat) (w : World) (h : Code0 w s len cap) : Calls Try.prog 4 #[.slice s len cap] w (DrawnN w) := by
  go_enter Try.func4, Try.ntmps4
  go_wp2_with fail
  refine (c_l6Open s len cap _ h).mono ?_
  rintro e w2 ⟨B, s', len', hB, rfl, hR2, hb2⟩
  have hBlt := hR2.lt
  go_wp2_with fail
  refine (c_pickR 100 (by omega) (by omega) hR2 (by omega)).mono ?_
  rintro e w3 ⟨x, x1, x2, rfl, hR3, hQ3⟩
  have hb3 := hb2.trans (oth_below hQ3 hR2)
  go_wp2_with fail
  refine (c_pickR 24 (by omega) (by omega) hR3 (by omega)).mono ?_
  rintro e w4 ⟨y, y1, y2, rfl, hR4, hQ4⟩
  have hb4 := hb3.trans (oth_below hQ4 hR3)
  have hy : Int.tdiv y 23 = 0 ∨ Int.tdiv y 23 = 1 := by
    rw [Int.tdiv_eq_ediv_of_nonneg y1]
    omega
  have hw : ∀ q : Int, (q = 0 ∨ q = 1) → IntKind.i64.wrap q = q := fun q h => IntWalk.i64_in _ (by omega)
  have hw2 : ∀ q : Int, (q = 0 ∨ q = 1) → IntKind.i64.wrap (q * 950) = q * 950 := fun q h => IntWalk.i64_in _ (by omega)
  have hw3 : ∀ q : Int, (q = 0 ∨ q = 1) → IntKind.i64.wrap (x + q * 950) = x + q * 950 := fun q h => IntWalk.i64_in _ (by omega)
  have e1 := hw _ hy
  have e2 := hw2 _ hy
  have e3 := hw3 _ hy
  have hy0 : (0 : Int) ≤ y := y1
  clear hw hw2 hw3
  go_wp2_with fail
  go_ret
  exact ⟨_, rfl, by omega, by omega, hb4⟩
set_option maxRecDepth 20000 in
set_option maxHeartbeats 4000000 in
theorem w_FnLeastClasses (s : Option Addr) (len cap : Nat) (w : World) (h : Code0 w s len cap) : Calls Try.prog 3 #[.slice s len cap] w fun e w' => e = .returned (.bool true) ∧ Below w.heap.size w w' := by
  have hlc := h.lc
  have hcm := h.cm
  unfold maxLen at hcm
  by_cases hlen : len ≤ 1048576
  · go_enter Try.func3, Try.ntmps3
    go_wp2_with fail
    refine (c_DrawExactLeast s len cap _ h).mono ?_
    rintro e w1 ⟨x, rfl, x0, x1, hb1⟩
    have hci := fun w1 => c_implExactLeast x w1
    have hcs := fun w1 => c_specExactLeast x w1
    have hct := fun w1 => c_implExactLeast (2 * x) w1
    have HF := Lib.hid (fun h1 h2 => leaI_twice (x := x) h1 h2)
    have hbd := leaI_bd x
    have hw2 : IntKind.i64.wrap (2 * x) = 2 * x := IntWalk.i64_in _ (by omega)
    cases hm : modB x
    · have e0 : leaI x = 0 := by simp [leaI, hm]
      rw [hm, e0] at hci hcs
      clear HF hct hbd
      go_wp2_with fail
      refine (hci _).mono ?_
      rintro e w2 ⟨rfl, hb2⟩
      go_wp2_with fail
      refine (hcs _).mono ?_
      rintro e w3 ⟨rfl, hb3⟩
      go_wp2_with fail
      go_ret
      exact ⟨rfl, bt2 (bt2 hb1 hb2) hb3⟩
    · have hx : 1 ≤ x ∧ x ≤ 1000 := by simpa [modB] using hm
      rw [hm] at hci hcs
      have hLL : (leaI x == leaI x) = true := by simp
      by_cases h2 : 2 * x ≤ 1000
      · have e2 := HF.out hx.1 h2
        have hm2 : modB (2 * x) = true := by simp [modB]; omega
        rw [hm2, e2] at hct
        clear HF e2 hm2 hm
        generalize leaI x = L at *
        have hLL2 : (L + 1 == L + 1) = true := by simp
        have hz : ¬ (1000 : Int) < 2 * x := by omega
        go_wp2_with fail
        refine (hci _).mono ?_
        rintro e w2 ⟨rfl, hb2⟩
        go_wp2_with fail
        refine (hcs _).mono ?_
        rintro e w3 ⟨rfl, hb3⟩
        go_wp2_with fail
        refine (hct _).mono ?_
        rintro e w4 ⟨rfl, hb4⟩
        go_wp2_with fail
        go_ret
        exact ⟨rfl, bt2 (bt2 (bt2 hb1 hb2) hb3) hb4⟩
      · generalize leaI (2 * x) = M at *
        generalize modB (2 * x) = N at *
        generalize leaI x = L at *
        have hz : (1000 : Int) < 2 * x := by omega
        clear HF hm
        go_wp2_with fail
        refine (hci _).mono ?_
        rintro e w2 ⟨rfl, hb2⟩
        go_wp2_with fail
        refine (hcs _).mono ?_
        rintro e w3 ⟨rfl, hb3⟩
        go_wp2_with fail
        refine (hct _).mono ?_
        rintro e w4 ⟨rfl, hb4⟩
        go_wp2_with fail
        go_ret
        exact ⟨rfl, bt2 (bt2 (bt2 hb1 hb2) hb3) hb4⟩
  · go_enter Try.func3, Try.ntmps3
    go_wp2_with fail
    go_ret
    exact ⟨rfl, Below.refl _ _⟩
end Go.Proofs.Ytgpeimfneihdoaa
