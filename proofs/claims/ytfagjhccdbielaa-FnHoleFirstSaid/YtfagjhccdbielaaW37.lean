/- The walk of the promise law FnHoleFirst. -/
import Derived.Test.YtfagjhccdbielaaMg4
import Derived.Test.YtfagjhccdbielaaMathD
import Derived.Test.YtfagjhccdbielaaS33
import Derived.BigQuiet
namespace Go.Proofs.Ytfagjhccdbielaa
open Go.RowKit
theorem first_no {p : Nat → Bool} : ∀ N : Nat, (∀ j, j < N → p j = true) ∨ ∃ x, x < N ∧ p x = false ∧ ∀ j, j < x → p j = true
  | 0 => .inl fun j h => by omega
  | N + 1 => by
    rcases first_no (p := p) N with h | ⟨x, h1, h2, h3⟩
    · cases hp : p N
      · exact .inr ⟨N, by omega, hp, h⟩
      · refine .inl fun j hj => ?_
        rcases Nat.lt_or_ge j N with h' | h'
        · exact h j h'
        · obtain rfl : j = N := by omega
          exact hp
    · exact .inr ⟨x, by omega, h2, h3⟩
theorem fis_none {zs : List Cl} (h : fisB zs = false) : fisR zs = 0 := by
  unfold fisB at h
  unfold fisR
  cases hl : holR zs with
  | nil => rfl
  | cons x t => rw [hl] at h; cases h
theorem fis_facts {zs : List Cl} (h : fisB zs = true) : sysB zs = true ∧ ∃ x : Nat, fisR zs = (x : Int) ∧ x < 2 ^ zs.length ∧ ∃ t, holL zs = (x : Int) :: t := by
  have hs : sysB zs = true := by
    cases hs : sysB zs
    · simp [fisB, holR_f hs] at h
    · rfl
  refine ⟨hs, ?_⟩
  rcases first_no (p := fun j => covB zs (j : Int)) (2 ^ zs.length) with h1 | ⟨x, h1, h2, h3⟩
  · have := (first_all hs h1).2
    rw [h] at this
    cases this
  · have h4 := (first_at hs h3 h2).1
    refine ⟨x, h4, h1, ?_⟩
    cases hl : holR zs with
    | nil => simp [fisB, hl] at h
    | cons y t =>
      have e : fisR zs = y := by simp [fisR, hl]
      rw [holR_t hs] at hl
      exact ⟨t, by rw [hl, ← e, h4]⟩
set_option maxRecDepth 20000 in
set_option maxHeartbeats 4000000 in
theorem w_FnHoleFirst (s : Option Addr) (len cap : Nat) (w : World) (h : Code0 w s len cap) : Calls Try.prog 3 #[.slice s len cap] w fun e w' => e = .returned (.bool true) ∧ Below w.heap.size w w' := by
  have hlc := h.lc
  have hcm := h.cm
  unfold maxLen at hcm
  by_cases hlen : len ≤ 1048576
  · go_enter Try.func3, Try.ntmps3
    go_wp2_with fail
    refine (c_DrawHoleFirst s len cap _ h).mono ?_
    rintro e w1 ⟨v, zs, rfl, hO, hl, hb1⟩
    obtain ⟨so, co, rfl, hC, hc1, hc2⟩ := hO.all
    obtain ⟨n, hn⟩ : ∃ n, zs.length = n := ⟨_, rfl⟩
    rw [hn] at hC hc1 hl ⊢
    clear hO
    have hcon := c_implHoleFirst so n co zs (by omega) _ hC
    have hcos := fun w1 (h1 : Cls w1 so n zs) => c_specHoleFirst so n co zs (by omega) w1 h1
    have hhol := fun w1 (h1 : Cls w1 so n zs) => c_implSystemHoles so n co zs (by omega) w1 h1
    have hLb := holR_le zs
    cases hf : fisB zs
    · have e0 := fis_none hf
      rw [hf, e0] at hcon hcos
      clear hhol hLb
      go_wp2_with fail
      refine hcon.mono ?_
      rintro e w2 ⟨rfl, hb2⟩
      go_wp2_with fail
      refine (hcos _ (hC.keep hb2)).mono ?_
      rintro e w3 ⟨rfl, hb3⟩
      go_wp2_with fail
      go_ret
      exact ⟨rfl, bt2 (bt2 hb1 hb2) hb3⟩
    · obtain ⟨hs, x, hx, hxb, t, ht⟩ := fis_facts hf
      rw [hf, hx] at hcon hcos
      rw [hs, holR_t hs, ht] at hhol
      rw [holR_t hs, ht] at hLb
      obtain ⟨L, hL⟩ : ∃ L, ((x : Int) :: t).length = L := ⟨_, rfl⟩
      rw [hL] at hLb
      have hL0 : 0 < L := by rw [← hL]; simp
      have hz0 : (0 : Int) < (L : Int) := by omega
      have HX := Lib.hid (show ((x : Int) :: t)[0]?.getD (0 : Int) = (x : Int) by simp)
      rw [hn] at hxb
      have hl2 := (sysB_facts hs).2.1
      have hl1 := (sysB_facts hs).1
      rw [hn] at hl1 hl2
      generalize hQ : (x : Int) :: t = Q at *
      have hxx : ((x : Int) == (x : Int)) = true := by simp
      clear hQ hf hs hx ht
      go_wp2_with fail
      refine hcon.mono ?_
      rintro e w2 ⟨rfl, hb2⟩
      go_wp2_with fail
      refine (hcos _ (hC.keep hb2)).mono ?_
      rintro e w3 ⟨rfl, hb3⟩
      have hB3 := bt2 (bt2 hb1 hb2) hb3
      have hC3 := (hC.keep hb2).keep hb3
      have hhl := hhol _ hC3
      have hn8 : n = 1 ∨ n = 2 ∨ n = 3 ∨ n = 4 ∨ n = 5 ∨ n = 6 ∨ n = 7 ∨ n = 8 := by omega
      clear hcon hcos hhol hC hC3 hb1 hb2 hb3
      go_wp2_with fail
      refine hhl.mono ?_
      rintro e w4 ⟨v4, rfl, hO4, hb4⟩
      obtain ⟨s4, k4, hv4, hI4, _⟩ := hO4.spread
      rw [hL] at hv4 hI4
      subst hv4
      obtain ⟨pb, poff, rfl, hpb, hpx⟩ := ints_at hI4 0 hL0
      rw [HX.out, Nat.add_zero] at hpx
      have hB4 := bt2 hB3 hb4
      clear hhl hO4 hI4 HX
      have hs8 : IntKind.i64.wrap (2 ^ n) = 2 ^ n ∧ (x : Int) < 2 ^ n := by
        rcases hn8 with rfl | rfl | rfl | rfl | rfl | rfl | rfl | rfl <;> exact ⟨rfl, by omega⟩
      rcases hn8 with rfl | rfl | rfl | rfl | rfl | rfl | rfl | rfl
      all_goals
        have hxz : (x : Int) < _ := hs8.2
        go_wp2_with fail
        go_ret
        exact ⟨rfl, hB4⟩
  · go_enter Try.func3, Try.ntmps3
    go_wp2_with fail
    go_ret
    exact ⟨rfl, Below.refl _ _⟩
end Go.Proofs.Ytfagjhccdbielaa
