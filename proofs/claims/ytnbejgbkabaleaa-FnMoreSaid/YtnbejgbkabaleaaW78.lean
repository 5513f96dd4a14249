/- The walk of the promise law FnMore. -/
import Derived.Test.YtnbejgbkabaleaaDd
import Derived.Test.YtnbejgbkabaleaaBg
namespace Go.Proofs.Ytnbejgbkabaleaa
open Go.RowKit
set_option maxRecDepth 20000 in
set_option maxHeartbeats 4000000 in
theorem w_FnMore (s : Option Addr) (len cap : Nat) (w : World) (h : Code0 w s len cap) : Calls Try.prog 11 #[.slice s len cap] w fun e w' => e = .returned (.bool true) ∧ Below w.heap.size w w' := by
  have hlc := h.lc
  have hcm := h.cm
  unfold maxLen at hcm
  by_cases hlen : ¬ len ≤ 1048576
  · go_enter Try.func11, Try.ntmps11
    go_wp2_with fail
    go_ret
    exact ⟨rfl, Below.refl _ _⟩
  have hlen2 : len ≤ 1048576 := by omega
  clear hlen
  go_enter Try.func11, Try.ntmps11
  go_wp2_with fail
  refine (c_DrawRestMore s len cap _ h).mono ?_
  rintro e w0 ⟨v_zs, v_ys, zs, ys, x, rfl, hO_zs, hO_ys, hl_zs, hl_ys, hT⟩
  obtain ⟨so_zs, co_zs, rfl, hI_zs, _⟩ := hO_zs.spread
  have hm_zs : zs.length ≤ 1048576 := by omega
  obtain ⟨so_ys, co_ys, rfl, hI_ys, _⟩ := hO_ys.spread
  have hm_ys : ys.length ≤ 1048576 := by omega
  clear hO_zs hO_ys h
  go_wp2_with fail
  refine (c_implRestMore so_zs so_ys zs.length co_zs ys.length co_ys zs ys x hm_zs hm_ys _ hI_zs hI_ys).mono ?_
  rintro e w1 ⟨rfl, hb1⟩
  have hI_zs := hI_zs.keep hb1
  have hI_ys := hI_ys.keep hb1
  have hT := bt2 hT hb1
  go_wp2_with fail
  refine (c_specRestMore so_zs so_ys zs.length co_zs ys.length co_ys zs ys x hm_zs hm_ys _ hI_zs hI_ys).mono ?_
  rintro e w2 ⟨rfl, hb2⟩
  have hI_zs := hI_zs.keep hb2
  have hI_ys := hI_ys.keep hb2
  have hT := bt2 hT hb2
  cases hb : morB zs ys x
  · simp only [selI_f]
    clear hb
    go_wp2_with fail
    go_ret
    exact ⟨rfl, hT⟩
  · have h2 : okZ zs ys = true ∧ modB x = true := by
      unfold morB at hb; simpa only [Bool.and_eq_true] using hb
    obtain ⟨h1, h3⟩ := h2
    obtain ⟨x1, x2⟩ := modB_iff.1 h3
    have k1 := fun W a b => c_implRestNumber so_zs so_ys zs.length co_zs ys.length co_ys zs ys hm_zs hm_ys W a b
    rw [h1] at k1
    simp only [selI_t] at k1 ⊢
    have hn := numZ_bd h1
    obtain ⟨n1, n2, n3⟩ := hn
    generalize numZ zs ys = X at *
    have hm := emod_bd X x x1
    obtain ⟨hm1, hm2⟩ := hm
    have hq : 0 ≤ X - X % x := by have := Int.emod_add_mul_ediv X x; have := Int.mul_nonneg (show 0 ≤ x by omega) (Int.ediv_nonneg n1 (show 0 ≤ x by omega)); omega
    have hz : (X - X % x).tmod x = 0 := by
      rw [Int.tmod_eq_emod_of_nonneg hq, Int.sub_emod, Int.emod_emod_of_dvd _ (Int.dvd_refl _), Int.sub_self, Int.zero_emod]
    have hw : wrap64 (X - X % x) = X - X % x := by unfold wrap64; omega
    clear hb h1 h3
    go_wp2_with fail
    refine (k1 _ hI_zs hI_ys).mono ?_
    rintro e w3 ⟨rfl, hb3⟩
    have hI_zs := hI_zs.keep hb3
    have hI_ys := hI_ys.keep hb3
    have hT := bt2 hT hb3
    go_wp2_with fail
    go_ret
    exact ⟨rfl, hT⟩
end Go.Proofs.Ytnbejgbkabaleaa
