/- The walk of the promise law FnSystemMoved. -/
import Derived.Test.YtgdpebnnmklbjaaMg4
import Derived.Test.YtgdpebnnmklbjaaMathV
import Derived.BigQuiet
namespace Go.Proofs.Ytgdpebnnmklbjaa
open Go.RowKit
theorem sumF_shift (g : Nat → Int) (n : Nat) : sumF (fun y => g (y + 1)) n = sumF g n + g n - g 0 := by
  induction n with
  | zero => simp [sumF]
  | succ n ih => simp only [sumF, ih]; omega
theorem sumF_turn (f : Nat → Int) (P : Nat) (k : Nat) : sumF (fun y => f ((y + k) % P)) P = sumF f P := by
  induction k with
  | zero => exact sumF_congr fun y hy => by rw [Nat.add_zero, Nat.mod_eq_of_lt hy]
  | succ k ih =>
    have h := sumF_shift (fun y => f ((y + k) % P)) P
    rw [ih] at h
    have e : (P + k) % P = (0 + k) % P := by rw [Nat.add_mod_left, Nat.zero_add]
    simp only [e] at h
    have e2 : (fun y => f ((y + (k + 1)) % P)) = fun y => f ((y + 1 + k) % P) := by
      funext y
      rw [show y + (k + 1) = y + 1 + k by omega]
    rw [e2]
    omega
def indN (zs : List Cl) (x : Nat) : Int := bif cntN zs x == 0 then 1 else 0
theorem hol_count (zs : List Cl) (k : Nat) : ((holK zs k).length : Int) = sumF (indN zs) k := by
  induction k with
  | zero => rfl
  | succ k ih =>
    simp only [holK, sumF, indN]
    cases (cntN zs k == 0)
    · simp only [cond_false]; omega
    · simp only [cond_true, List.length_append, List.length_singleton]; omega
theorem movL_hol {x : Int} {zs : List Cl} (h : sysB zs = true) : (holL (movL x zs)).length = (holL zs).length := by
  obtain ⟨P, hP⟩ := per_nat h
  obtain ⟨h2, e⟩ := movL_sys (x := x) h
  obtain ⟨_, _, ha, _, P1, _⟩ := sysB_facts h
  have hk0 := Int.emod_nonneg (-x) (show (P : Int) ≠ 0 by omega)
  obtain ⟨k, hk⟩ := Int.eq_ofNat_of_zero_le hk0
  have key : ((holK (movL x zs) P).length : Int) = (holK zs P).length := by
    rw [hol_count, hol_count, ← sumF_turn (indN zs) P k]
    refine sumF_congr fun y _ => ?_
    unfold indN
    have e1 : cntN (movL x zs) y = cntN zs (y - x) := by
      unfold cntN
      rw [movL_length]
      exact movL_cnt ha y _ (Nat.le_refl _)
    have e2 : ((y : Int) - x) % (P : Int) = (((y + k) % P : Nat) : Int) := by
      rw [Int.natCast_emod, Int.natCast_add, ← hk, Int.add_emod (y : Int) (-x % (P : Int)), Int.emod_emod, ← Int.add_emod, Int.sub_eq_add_neg]
    rw [e1, cnt_mod h, hP, e2]
  unfold holL
  rw [e, hP, Int.toNat_natCast]
  omega
theorem movL_back {x : Int} {zs : List Cl} (ha : allB zs = true) : movL (-x) (movL x zs) = zs := by
  induction zs with
  | nil => rfl
  | cons c t ih =>
    obtain ⟨hc, ht⟩ : inB c.1 c.2 = true ∧ allB t = true := by simpa [allB] using ha
    obtain ⟨m1, _, r1, r2⟩ := inB_iff.1 hc
    have e : movL (-x) (movL x (c :: t)) = (((c.1 + x) % c.2 + -x) % c.2, c.2) :: movL (-x) (movL x t) := rfl
    rw [e, ih ht]
    have h2 : ((c.1 + x) % c.2 + -x) % c.2 = c.1 := by
      rw [Int.add_emod, Int.emod_emod, ← Int.add_emod, Int.add_assoc, Int.add_right_neg, Int.add_zero, Int.emod_eq_of_lt r1 r2]
    rw [h2]
set_option maxRecDepth 20000 in
set_option maxHeartbeats 400000 in
theorem c_sameCls (s t : Option Addr) (n c1 c2 : Nat) (zs : List Cl) (hn : n ≤ 1048576) (w : World) (hs : Cls w s n zs) (ht : Cls w t n zs) : Calls Try.prog 44 #[.slice s n c1, .slice t n c2] w fun e w' => e = .returned (.bool true) ∧ Below w.heap.size w w' := by
  go_enter Try.func44, Try.ntmps44
  go_wp2_with fail
  go_loopw [5] (fun i wr => ∃ k : Nat, k ≤ n ∧ i = .int .i64 k ∧ Below w.heap.size w wr) (fun i _ => n - (intOf i).toNat)
  case atStart => exact ⟨0, Nat.zero_le _, rfl, Below.refl _ _⟩
  case round =>
    obtain ⟨k, hk, rfl, hB⟩ := hrel
    by_cases hlt : k < n
    · rcases (hs.keep hB).lies with h0 | ⟨b1, o1, rfl, hb1, hcells1⟩
      · omega
      rcases (ht.keep hB).lies with h0 | ⟨b2, o2, rfl, hb2, hcells2⟩
      · omega
      obtain ⟨hx, hy⟩ := hcells1 k hlt
      obtain ⟨hx2, hy2⟩ := hcells2 k hlt
      clear hcells1 hcells2
      go_wp2_with fail
      go_quiet (fail)
      go_wp2_with fail
      go_roundw
      case rel => exact ⟨k + 1, by omega, by go_num, bel_drewN hB _⟩
      case measure => simp [intOf]; omega
    · go_wp2_with fail
      go_ret
      exact ⟨rfl, hB⟩
def DrawnSI (w : World) (e : Ending) (w' : World) : Prop := ∃ v zs x, e = .returned (.tuple #[v, .int .i64 x]) ∧ OwnC w' w.heap.size 34 v zs ∧ zs.length ≤ 9 ∧ -100 ≤ x ∧ x ≤ 2000099 ∧ Below w.heap.size w w'
theorem c_DrawSystemMoved (s : Option Addr) (len cap : Nat) (w : World) (h : Code0 w s len cap) : Calls Try.prog 42 #[.slice s len cap] w (DrawnSI w) := by
  go_enter Try.func42, Try.ntmps42
  go_wp2_with fail
  refine (c_l6Open s len cap _ h).mono ?_
  rintro e w2 ⟨B, s', len', hB, rfl, hR2, hb2⟩
  go_wp2_with fail
  refine (c_l91System hR2 (by omega)).mono ?_
  rintro e w3 ⟨v, zs, p', rfl, hO3, hl3, hR3, hp3, hQ3⟩
  have hb3 := hb2.trans (oth_below hQ3 hR2)
  go_wp2_with fail
  refine (c_l91Number hR3 (by omega)).mono ?_
  rintro e w4 ⟨x, q, x1, x2, rfl, hR4, hq4, hQ4⟩
  have hb4 := hb3.trans (oth_below hQ4 hR3)
  have hO4 := (hO3.oth hQ4 hR2.lt).low hb2.size
  clear hO3
  go_wp2_with fail
  go_ret2
  exact ⟨_, zs, x, rfl, hO4, hl3, x1, x2, hb4⟩
theorem num_neg {x : Int} (h : numB x = true) : numB (-x) = true := by
  unfold numB at *
  simp only [decide_eq_true_eq] at *
  omega
set_option maxRecDepth 20000 in
set_option maxHeartbeats 4000000 in
theorem w_FnSystemMoved (s : Option Addr) (len cap : Nat) (w : World) (h : Code0 w s len cap) : Calls Try.prog 11 #[.slice s len cap] w fun e w' => e = .returned (.bool true) ∧ Below w.heap.size w w' := by
  have hlc := h.lc
  have hcm := h.cm
  unfold maxLen at hcm
  by_cases hlen : len ≤ 1048576
  · go_enter Try.func11, Try.ntmps11
    go_wp2_with fail
    refine (c_DrawSystemMoved s len cap _ h).mono ?_
    rintro e w1 ⟨v, zs, x, rfl, hO, hl, x1, x2, hb1⟩
    obtain ⟨so, co, rfl, hC, hc1, hc2⟩ := hO.all
    obtain ⟨n, hn⟩ : ∃ n, zs.length = n := ⟨_, rfl⟩
    rw [hn] at hC hc1 hl ⊢
    clear hO
    have hcon := c_implSystemMoved so n co zs x (by omega) _ hC
    have hcos := fun w1 (h1 : Cls w1 so n zs) => c_specSystemMoved so n co zs x (by omega) w1 h1
    cases hm : movsB x zs
    · have hmr : movR x zs = [] := by simp [movR, hm]
      rw [hm, hmr] at hcon hcos
      go_wp2_with fail
      refine hcon.mono ?_
      rintro e w2 ⟨v2, rfl, hO2, hb2⟩
      obtain ⟨s2, k2, rfl, hI2, _⟩ := hO2.spread
      go_wp2_with fail
      refine (hcos _ (hC.keep hb2)).mono ?_
      rintro e w3 ⟨v3, rfl, hO3, hb3⟩
      obtain ⟨s3, k3, rfl, hI3, _⟩ := hO3.spread
      have hI23 := hI2.keep hb3
      have hsame := fun w1 (h1 : Below w3.heap.size w3 w1) => c_sameCls s2 s3 0 k2 k3 [] (by omega) w1 (hI23.keep h1) (hI3.keep h1)
      have hB3 := bt2 (bt2 hb1 hb2) hb3
      clear hcon hcos hO2 hO3 hI2 hI3 hI23 hC
      go_wp2_with (first | (go_at_call 44; refine (hsame _ (Below.refl _ _)).mono ?_; rintro e w4 ⟨rfl, hb4⟩; have hB4 := bt2 hB3 hb4) | (go_at_call 44; refine (hsame _ hb4).mono ?_; rintro e w5 ⟨rfl, hb5⟩; have hB5 := bt2 hB4 hb5) | fail)
      go_ret
      exact ⟨rfl, hB5⟩
    · have hmr : movR x zs = movL x zs := by simp [movR, hm]
      rw [hm, hmr] at hcon hcos
      obtain ⟨hs, hx⟩ := Bool.and_eq_true_iff.1 (show (sysB zs && numB x) = true from hm)
      have hxb : -1000000 ≤ x ∧ x ≤ 1000000 := by
        unfold numB at hx
        simpa using hx
      obtain ⟨hs2, _⟩ := movL_sys (x := x) hs
      have hm2 : movsB (-x) (movL x zs) = true := by unfold movsB; rw [hs2, num_neg hx]; rfl
      have hmr2 : movR (-x) (movL x zs) = zs := by
        obtain ⟨_, _, ha, _, _, _⟩ := sysB_facts hs
        simp [movR, hm2, movL_back ha]
      have hml : (movL x zs).length = n := by rw [movL_length, hn]
      have hback := fun (s' : Option Addr) (c' : Nat) w1 (h1 : Cls w1 s' n (movL x zs)) => c_implSystemMoved s' n c' (movL x zs) (-x) (by omega) w1 h1
      rw [hm2, hmr2] at hback
      have hh1 := fun w1 (h1 : Cls w1 so n zs) => c_implSystemHoles so n co zs (by omega) w1 h1
      have hh2 := fun (s' : Option Addr) (c' : Nat) w1 (h1 : Cls w1 s' n (movL x zs)) => c_implSystemHoles s' n c' (movL x zs) (by omega) w1 h1
      rw [hs, holR_t hs] at hh1
      rw [hs2, holR_t hs2] at hh2
      have hcnt := movL_hol (x := x) hs
      obtain ⟨L, hL⟩ : ∃ L, (holL zs).length = L := ⟨_, rfl⟩
      rw [hL] at hcnt
      clear hm hmr hmr2 hm2 hx
      generalize movL x zs = ms at *
      generalize holL zs = Q1 at *
      generalize holL ms = Q2 at *
      go_wp2_with fail
      refine hcon.mono ?_
      rintro e w2 ⟨v2, rfl, hO2, hb2⟩
      obtain ⟨s2, k2, hv2, hI2, _⟩ := hO2.spread
      rw [hml] at hv2 hI2
      subst hv2
      go_wp2_with fail
      refine (hcos _ (hC.keep hb2)).mono ?_
      rintro e w3 ⟨v3, rfl, hO3, hb3⟩
      obtain ⟨s3, k3, hv3, hI3, _⟩ := hO3.spread
      rw [hml] at hv3 hI3
      subst hv3
      have hI23 := hI2.keep hb3
      have hC3 := (hC.keep hb2).keep hb3
      have hsame := c_sameCls s2 s3 n k2 k3 ms (by omega) w3 hI23 hI3
      have hB3 := bt2 (bt2 hb1 hb2) hb3
      clear hcon hcos hO2 hO3 hI2 hI3 hC hb1 hb2 hb3
      go_wp2_with (first | (go_at_call 44; refine hsame.mono ?_; rintro e w4 ⟨rfl, hb4⟩; have hb4' := hb4) | fail)
      have hI24 := hI23.keep hb4
      have hC4 := hC3.keep hb4
      have hB4 := bt2 hB3 hb4
      clear hsame hb4 hb4' hC3 hI23
      have hbk := hback s2 k2 _ hI24
      clear hback
      refine hbk.mono ?_
      rintro e w5 ⟨v5, rfl, hO5, hb5⟩
      obtain ⟨s5, k5, hv5, hC5, _⟩ := hO5.spread
      rw [hn] at hv5 hC5
      subst hv5
      have hC45 := hC4.keep hb5
      have hI25 := hI24.keep hb5
      have hB5 := bt2 hB4 hb5
      clear hO5 hI24 hC4 hbk
      go_wp2_with fail
      refine (hh1 _ hC45).mono ?_
      rintro e w6 ⟨v6, rfl, hO6, hb6⟩
      obtain ⟨s6, k6, hv6, _, _⟩ := hO6.spread
      rw [hL] at hv6
      subst hv6
      have hC46 := hC45.keep hb6
      have hC56 := hC5.keep hb6
      have hI26 := hI25.keep hb6
      have hB6 := bt2 hB5 hb6
      clear hh1 hO6 hC45 hC5 hI25
      go_wp2_with fail
      refine (hh2 _ _ _ hI26).mono ?_
      rintro e w7 ⟨v7, rfl, hO7, hb7⟩
      obtain ⟨s7, k7, hv7, _, _⟩ := hO7.spread
      rw [hcnt] at hv7
      subst hv7
      have hC47 := hC46.keep hb7
      have hC57 := hC56.keep hb7
      have hB7 := bt2 hB6 hb7
      have hsm := c_sameCls s5 so n k5 co zs (by omega) w7 hC57 hC47
      have hLL : ((L : Int) == (L : Int)) = true := by simp
      clear hh2 hO7 hC46 hC56 hI26 hC47 hC57
      go_wp2_with (go_at_call 44; refine hsm.mono ?_; rintro e w8 ⟨rfl, hb8⟩; have hB8 := bt2 hB7 hb8)
      go_ret
      exact ⟨rfl, hB8⟩
  · go_enter Try.func11, Try.ntmps11
    go_wp2_with fail
    go_ret
    exact ⟨rfl, Below.refl _ _⟩
end Go.Proofs.Ytgdpebnnmklbjaa
