/- The walk of the promise law FnSystemSame. -/
import Derived.Test.YtgdpebnnmklbjaaMg4
import Derived.Test.YtgdpebnnmklbjaaS17
import Derived.Test.YtgdpebnnmklbjaaS32
import Derived.Test.YtgdpebnnmklbjaaMathD
namespace Go.Proofs.Ytgdpebnnmklbjaa
open Go.RowKit
theorem cnt_per {zs : List Cl} (h : sysB zs = true) (y : Int) : cntN zs y = cntN zs (y % perI zs) := by
  have hk : ∀ k, k ≤ zs.length → cntK zs y k = cntK zs (y % perI zs) k := by
    intro k
    induction k with
    | zero => intro _; rfl
    | succ k ih =>
      intro hk
      simp only [cntK]
      rw [ih (by omega), Int.emod_emod_of_dvd y (sys_dvd h k (by omega))]
  exact hk _ (Nat.le_refl _)
/-- it covers all just if it has no hole below a number that is at least its period -/
theorem al_below {zs : List Cl} (hs : sysB zs = true) (M : Nat) (hM : perI zs ≤ M) : alB zs = true ↔ holK zs M = [] := by
  obtain ⟨P, hP⟩ := per_nat hs
  obtain ⟨_, _, _, _, P1, _⟩ := sysB_facts hs
  rw [al_iff hs P hP, holK_nil]
  constructor
  · intro h x _
    rw [cnt_per hs, hP]
    have h0 := Int.emod_nonneg (x : Int) (show (P : Int) ≠ 0 by omega)
    have h1 := Int.emod_lt_of_pos (x : Int) (show 0 < (P : Int) by omega)
    have := h ((x : Int) % (P : Int)).toNat (by omega)
    rwa [Int.toNat_of_nonneg h0] at this
  · exact fun h x hx => h x (by omega)
theorem lcm_turn {a b : Int} (ha : 1 ≤ a) (hb : 1 ≤ b) : lcmI a b = lcmI b a := by
  have h1 := dvd_lcmI (show 0 ≤ a by omega) (show 0 ≤ b by omega)
  have h2 := dvd_lcmI (show 0 ≤ b by omega) (show 0 ≤ a by omega)
  have p1 := (lcmI_pos ha hb).1
  have p2 := (lcmI_pos hb ha).1
  have d1 := lcmI_dvd (show 0 ≤ a by omega) (show 0 ≤ b by omega) h2.2 h2.1
  have d2 := lcmI_dvd (show 0 ≤ b by omega) (show 0 ≤ a by omega) h1.2 h1.1
  have := Int.le_of_dvd (by omega) d1
  have := Int.le_of_dvd (by omega) d2
  omega
theorem sam_facts {zs ys : List Cl} (h : samB zs ys = true) : samB ys zs = true ∧ alB zs = alB ys := by
  unfold samB at h
  obtain ⟨h1, h2⟩ := Bool.and_eq_true_iff.1 h
  unfold comB at h1
  obtain ⟨h3, h4⟩ := Bool.and_eq_true_iff.1 h1
  obtain ⟨hs, hy⟩ := Bool.and_eq_true_iff.1 h3
  obtain ⟨_, _, _, _, P1, _⟩ := sysB_facts hs
  obtain ⟨_, _, _, _, Q1, _⟩ := sysB_facts hy
  have hc := lcm_turn P1 Q1
  have hl := lcmI_pos P1 Q1
  have he : holK zs (comI zs ys).toNat = holK ys (comI zs ys).toNat := by simpa using h2
  constructor
  · unfold samB comB comI
    rw [hy, hs, ← hc, h4]
    unfold comI at he
    simp [he]
  · have hM : ((comI zs ys).toNat : Int) = lcmI (perI zs) (perI ys) := by unfold comI; omega
    rw [Bool.eq_iff_iff, al_below hs (comI zs ys).toNat (by omega), al_below hy (comI zs ys).toNat (by omega), he]
def DrawnSS (w : World) (e : Ending) (w' : World) : Prop := ∃ v zs u ys, e = .returned (.tuple #[v, u]) ∧ OwnC w' w.heap.size 34 v zs ∧ zs.length ≤ 9 ∧ OwnC w' w.heap.size 34 u ys ∧ ys.length ≤ 9 ∧ Below w.heap.size w w'
set_option maxRecDepth 20000 in
set_option maxHeartbeats 1000000 in
theorem c_DrawSystemSame (s : Option Addr) (len cap : Nat) (w : World) (h : Code0 w s len cap) : Calls Try.prog 45 #[.slice s len cap] w (DrawnSS w) := by
  go_enter Try.func45, Try.ntmps45
  go_wp2_with fail
  refine (c_l6Open s len cap _ h).mono ?_
  rintro e w2 ⟨B, s', len', hB, rfl, hR2, hb2⟩
  go_wp2_with fail
  refine (c_l91System hR2 (by omega)).mono ?_
  rintro e w3 ⟨v, zs, p', rfl, hO3, hl3, hR3, hp3, hQ3⟩
  have hb3 := hb2.trans (oth_below hQ3 hR2)
  have hBlt := hR2.lt
  obtain ⟨so, co, rfl, hC, hc1, hc2⟩ := hO3.all
  obtain ⟨n, hn⟩ : ∃ n, zs.length = n := ⟨_, rfl⟩
  rw [hn] at hC hc1 hl3 hO3 ⊢
  have hle := hleR_le zs
  have hcon := c_specHoleLeast so n co zs (by omega) hc1 hc2 w3 hC
  go_wp2_with fail
  refine hcon.mono ?_
  rintro e w4 ⟨v4, rfl, hO4, hb4⟩
  have hO34 := hO3.keep hb4
  have hR4 := hR3.below hb4
  have hb14 := bt2 hb3 hb4
  have hQ4 := hQ3.trans (Oth.of_below hb4)
  have hO4' := hO4.low hQ3.size
  clear hcon hO3 hO4 hC hb3 hb4 hQ3 hR3
  generalize hleR zs = ys at *
  cases hs : sysB zs
  · go_wp2_with fail
    refine (c_l91System hR4 (by omega)).mono ?_
    rintro e w5 ⟨v5, xs, p5, rfl, hO5, hl5, hR5, hp5, hQ5⟩
    have hOa := (hO34.oth hQ5 hBlt).low hb2.size
    have hOb := hO5.low (show w.heap.size ≤ w4.heap.size from Nat.le_trans hb2.size hQ4.size)
    have hb5 := hb14.trans (oth_below hQ5 hR4)
    clear hO34 hO4' hO5
    go_wp2_with fail
    go_ret2
    exact ⟨_, zs, _, xs, rfl, hOa, by omega, hOb, hl5, hb5⟩
  · go_wp2_with fail
    refine (c_pickR 2 (by omega) (by omega) hR4 (by omega)).mono ?_
    rintro e w5 ⟨x, x1, x2, rfl, hR5, hQ5⟩
    have hO5 := hO34.oth hQ5 hBlt
    have hO5' := hO4'.oth hQ5 hBlt
    have hb5 := hb14.trans (oth_below hQ5 hR4)
    have hs5 := hQ5.size
    have hs4 := hQ4.size
    clear hO34 hO4'
    have hx : x = 0 ∨ x = 1 := by omega
    rcases hx with rfl | rfl
    · go_wp2_with fail
      go_ret2
      exact ⟨_, zs, _, ys, rfl, hO5.low hb2.size, by omega, hO5'.low hb2.size, by omega, hb5⟩
    · go_wp2_with fail
      refine (c_l91System hR5 (by omega)).mono ?_
      rintro e w6 ⟨v6, xs, p6, rfl, hO6, hl6, hR6, hp6, hQ6⟩
      have hOa := (hO5.oth hQ6 hBlt).low hb2.size
      have hOb := hO6.low (show w.heap.size ≤ w5.heap.size from Nat.le_trans hb2.size (Nat.le_trans hs4 hs5))
      have hb6 := hb5.trans (oth_below hQ6 hR5)
      clear hO5 hO5' hO6
      go_wp2_with fail
      go_ret2
      exact ⟨_, zs, _, xs, rfl, hOa, by omega, hOb, hl6, hb6⟩
set_option maxRecDepth 20000 in
set_option maxHeartbeats 4000000 in
theorem w_FnSystemSame (s : Option Addr) (len cap : Nat) (w : World) (h : Code0 w s len cap) : Calls Try.prog 12 #[.slice s len cap] w fun e w' => e = .returned (.bool true) ∧ Below w.heap.size w w' := by
  have hlc := h.lc
  have hcm := h.cm
  unfold maxLen at hcm
  by_cases hlen : len ≤ 1048576
  · go_enter Try.func12, Try.ntmps12
    go_wp2_with fail
    refine (c_DrawSystemSame s len cap _ h).mono ?_
    rintro e w1 ⟨v, zs, u, ys, rfl, hO, hl, hP, hk, hb1⟩
    obtain ⟨so, co, rfl, hC, hc1, hc2⟩ := hO.all
    obtain ⟨st, ct, rfl, hD, hd1, hd2⟩ := hP.all
    obtain ⟨n, hn⟩ : ∃ n, zs.length = n := ⟨_, rfl⟩
    obtain ⟨m, hm⟩ : ∃ m, ys.length = m := ⟨_, rfl⟩
    rw [hn] at hC hc1 hl ⊢
    rw [hm] at hD hd1 hk ⊢
    clear hO hP
    have hcon := c_implSystemSame so st n m co ct zs ys (by omega) (by omega) _ hC hD
    have hcos := fun w1 (h1 : Cls w1 so n zs) (h2 : Cls w1 st m ys) => c_specSystemSame so st n m co ct zs ys (by omega) (by omega) w1 h1 h2
    have hrev := fun w1 (h1 : Cls w1 so n zs) (h2 : Cls w1 st m ys) => c_implSystemSame st so m n ct co ys zs (by omega) (by omega) w1 h2 h1
    have hal1 := fun w1 (h1 : Cls w1 so n zs) => c_implSystemAll so n co zs (by omega) w1 h1
    have hal2 := fun w1 (h1 : Cls w1 st m ys) => c_implSystemAll st m ct ys (by omega) w1 h1
    have hF := Lib.hid (fun h => sam_facts (zs := zs) (ys := ys) h)
    cases hs : samB zs ys
    · rw [hs] at hcon hcos
      clear hrev hal1 hal2 hF
      go_wp2_with fail
      refine hcon.mono ?_
      rintro e w2 ⟨rfl, hb2⟩
      go_wp2_with fail
      refine (hcos _ (hC.keep hb2) (hD.keep hb2)).mono ?_
      rintro e w3 ⟨rfl, hb3⟩
      go_wp2_with fail
      go_ret
      exact ⟨rfl, bt2 (bt2 hb1 hb2) hb3⟩
    · obtain ⟨f1, f2⟩ := hF.out hs
      rw [hs] at hcon hcos
      rw [f1] at hrev
      rw [f2] at hal1
      clear hF hs f1 f2
      generalize alB ys = X at *
      have hXX : (X == X) = true := by simp
      go_wp2_with fail
      refine hcon.mono ?_
      rintro e w2 ⟨rfl, hb2⟩
      have hC2 := hC.keep hb2
      have hD2 := hD.keep hb2
      go_wp2_with fail
      refine (hcos _ hC2 hD2).mono ?_
      rintro e w3 ⟨rfl, hb3⟩
      have hC3 := hC2.keep hb3
      have hD3 := hD2.keep hb3
      have hB3 := bt2 (bt2 hb1 hb2) hb3
      have hrv := hrev _ hC3 hD3
      have ha1 := fun w4 (h4 : Below w3.heap.size w3 w4) => hal1 w4 (hC3.keep h4)
      have ha2 := fun w4 (h4 : Below w3.heap.size w3 w4) => hal2 w4 (hD3.keep h4)
      clear hcon hcos hrev hal1 hal2 hC hD hC2 hD2 hC3 hD3
      go_wp2_with fail
      refine hrv.mono ?_
      rintro e w4 ⟨rfl, hb4⟩
      have ha1' := ha1 _ hb4
      clear ha1 hrv
      go_wp2_with fail
      refine ha1'.mono ?_
      rintro e w5 ⟨rfl, hb5⟩
      have hB5 := bt2 hb4 hb5
      have ha2' := ha2 _ hB5
      clear ha1' ha2
      go_wp2_with fail
      refine ha2'.mono ?_
      rintro e w6 ⟨rfl, hb6⟩
      have hB6 := bt2 hB5 hb6
      clear ha2'
      go_wp2_with fail
      go_ret
      exact ⟨rfl, bt2 hB3 hB6⟩
  · go_enter Try.func12, Try.ntmps12
    go_wp2_with fail
    go_ret
    exact ⟨rfl, Below.refl _ _⟩
end Go.Proofs.Ytgdpebnnmklbjaa
