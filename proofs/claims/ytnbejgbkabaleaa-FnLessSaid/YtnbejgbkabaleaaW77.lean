/- The walk of the promise law FnLess. -/
import Derived.Test.YtnbejgbkabaleaaDd
import Derived.Test.YtnbejgbkabaleaaBj
namespace Go.Proofs.Ytnbejgbkabaleaa
open Go.RowKit
set_option maxRecDepth 20000 in
set_option maxHeartbeats 4000000 in
theorem w_FnLess (s : Option Addr) (len cap : Nat) (w : World) (h : Code0 w s len cap) : Calls Try.prog 10 #[.slice s len cap] w fun e w' => e = .returned (.bool true) ∧ Below w.heap.size w w' := by
  have hlc := h.lc
  have hcm := h.cm
  unfold maxLen at hcm
  by_cases hlen : ¬ len ≤ 1048576
  · go_enter Try.func10, Try.ntmps10
    go_wp2_with fail
    go_ret
    exact ⟨rfl, Below.refl _ _⟩
  have hlen2 : len ≤ 1048576 := by omega
  clear hlen
  go_enter Try.func10, Try.ntmps10
  go_wp2_with fail
  refine (c_DrawRestLess s len cap _ h).mono ?_
  rintro e w0 ⟨v_zs, v_ys, v_xs, zs, ys, xs, rfl, hO_zs, hO_ys, hO_xs, hl_zs, hl_ys, hl_xs, hT⟩
  obtain ⟨so_zs, co_zs, rfl, hI_zs, _⟩ := hO_zs.spread
  have hm_zs : zs.length ≤ 1048576 := by omega
  obtain ⟨so_ys, co_ys, rfl, hI_ys, _⟩ := hO_ys.spread
  have hm_ys : ys.length ≤ 1048576 := by omega
  obtain ⟨so_xs, co_xs, rfl, hI_xs, _⟩ := hO_xs.spread
  have hm_xs : xs.length ≤ 1048576 := by omega
  clear hO_zs hO_ys hO_xs h
  go_wp2_with fail
  refine (c_implRestLess so_zs so_ys so_xs zs.length co_zs ys.length co_ys xs.length co_xs zs ys xs hm_zs hm_ys hm_xs _ hI_zs hI_ys hI_xs).mono ?_
  rintro e w1 ⟨rfl, hb1⟩
  have hI_zs := hI_zs.keep hb1
  have hI_ys := hI_ys.keep hb1
  have hI_xs := hI_xs.keep hb1
  have hT := bt2 hT hb1
  go_wp2_with fail
  refine (c_specRestLess so_zs so_ys so_xs zs.length co_zs ys.length co_ys xs.length co_xs zs ys xs hm_zs hm_ys hm_xs _ hI_zs hI_ys hI_xs).mono ?_
  rintro e w2 ⟨rfl, hb2⟩
  have hI_zs := hI_zs.keep hb2
  have hI_ys := hI_ys.keep hb2
  have hI_xs := hI_xs.keep hb2
  have hT := bt2 hT hb2
  cases hb : lesZ zs ys xs
  · clear hb
    go_wp2_with fail
    go_ret
    exact ⟨rfl, hT⟩
  · have h2 : twoB zs ys xs = true ∧ decide (numZ zs ys < numZ zs xs) = true := by
      unfold lesZ at hb; simpa only [Bool.and_eq_true] using hb
    obtain ⟨h1, h3⟩ := h2
    obtain ⟨o1, o2⟩ := twoB_parts h1
    have k1 := fun W a b => c_implRestNumber so_zs so_ys zs.length co_zs ys.length co_ys zs ys hm_zs hm_ys W a b
    have k2 := fun W a b => c_implRestNumber so_zs so_xs zs.length co_zs xs.length co_xs zs xs hm_zs hm_xs W a b
    rw [o1] at k1
    rw [o2] at k2
    simp only [selI_t] at k1 k2
    have hlt : numZ zs ys < numZ zs xs := by simpa using h3
    clear hb h1 h3 o1 o2
    go_wp2_with fail
    refine (k1 _ hI_zs hI_ys).mono ?_
    rintro e w3 ⟨rfl, hb3⟩
    have hI_zs := hI_zs.keep hb3
    have hI_ys := hI_ys.keep hb3
    have hI_xs := hI_xs.keep hb3
    have hT := bt2 hT hb3
    go_wp2_with fail
    refine (k2 _ hI_zs hI_xs).mono ?_
    rintro e w4 ⟨rfl, hb4⟩
    have hI_zs := hI_zs.keep hb4
    have hI_ys := hI_ys.keep hb4
    have hI_xs := hI_xs.keep hb4
    have hT := bt2 hT hb4
    go_wp2_with fail
    go_ret
    exact ⟨rfl, hT⟩
end Go.Proofs.Ytnbejgbkabaleaa
