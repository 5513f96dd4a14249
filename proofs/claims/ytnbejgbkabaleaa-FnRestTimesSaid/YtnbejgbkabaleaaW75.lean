/- The walk of the promise law FnRestTimes. -/
import Derived.Test.YtnbejgbkabaleaaDd
import Derived.Test.YtnbejgbkabaleaaBi
namespace Go.Proofs.Ytnbejgbkabaleaa
open Go.RowKit
theorem mulR_leD (zs ys xs : List Int) : (mulR zs ys xs).length ≤ 4 := by
  unfold mulR
  cases twoB zs ys xs
  · simp
  · simp only [cond_true]
    unfold mulL
    exact four_leD _ _
set_option maxRecDepth 20000 in
set_option maxHeartbeats 4000000 in
theorem w_FnRestTimes (s : Option Addr) (len cap : Nat) (w : World) (h : Code0 w s len cap) : Calls Try.prog 8 #[.slice s len cap] w fun e w' => e = .returned (.bool true) ∧ Below w.heap.size w w' := by
  have hlc := h.lc
  have hcm := h.cm
  unfold maxLen at hcm
  by_cases hlen : ¬ len ≤ 1048576
  · go_enter Try.func8, Try.ntmps8
    go_wp2_with fail
    go_ret
    exact ⟨rfl, Below.refl _ _⟩
  have hlen2 : len ≤ 1048576 := by omega
  clear hlen
  go_enter Try.func8, Try.ntmps8
  go_wp2_with fail
  refine (c_DrawRestTimes s len cap _ h).mono ?_
  rintro e w0 ⟨v_zs, v_ys, v_xs, zs, ys, xs, rfl, hO_zs, hO_ys, hO_xs, hl_zs, hl_ys, hl_xs, hT⟩
  obtain ⟨so_zs, co_zs, rfl, hI_zs, _⟩ := hO_zs.spread
  have hm_zs : zs.length ≤ 1048576 := by omega
  obtain ⟨so_ys, co_ys, rfl, hI_ys, _⟩ := hO_ys.spread
  have hm_ys : ys.length ≤ 1048576 := by omega
  obtain ⟨so_xs, co_xs, rfl, hI_xs, _⟩ := hO_xs.spread
  have hm_xs : xs.length ≤ 1048576 := by omega
  clear hO_zs hO_ys hO_xs h
  go_wp2_with fail
  refine (c_implRestTimes so_zs so_ys so_xs zs.length co_zs ys.length co_ys xs.length co_xs zs ys xs hm_zs hm_ys hm_xs _ hI_zs hI_ys hI_xs).mono ?_
  rintro e w1 ⟨u1, rfl, hR1, hb1⟩
  have hI_zs := hI_zs.keep hb1
  have hI_ys := hI_ys.keep hb1
  have hI_xs := hI_xs.keep hb1
  have hT := bt2 hT hb1
  obtain ⟨so_o, co_o, rfl, hI_o, _⟩ := hR1.spread
  go_wp2_with fail
  refine (c_specRestTimes so_zs so_ys so_xs zs.length co_zs ys.length co_ys xs.length co_xs zs ys xs hm_zs hm_ys hm_xs _ hI_zs hI_ys hI_xs).mono ?_
  rintro e w2 ⟨u2, rfl, hR2, hb2⟩
  have hI_zs := hI_zs.keep hb2
  have hI_ys := hI_ys.keep hb2
  have hI_xs := hI_xs.keep hb2
  have hI_o := hI_o.keep hb2
  have hT := bt2 hT hb2
  obtain ⟨so_q, co_q, rfl, hI_q, _⟩ := hR2.spread
  have hRl : (mulR zs ys xs).length ≤ 4 := mulR_leD zs ys xs
  have HR := Lib.hid (show (mulR zs ys xs).length ≤ 1048576 by omega)
  cases hb : twoB zs ys xs
  · clear hb hRl
    go_wp2_with fail
    refine (c_sameInts so_o so_q (mulR zs ys xs).length co_o co_q (mulR zs ys xs) HR.out _ hI_o hI_q).mono ?_
    rintro e w3 ⟨rfl, hb3⟩
    have hI_zs := hI_zs.keep hb3
    have hI_ys := hI_ys.keep hb3
    have hI_xs := hI_xs.keep hb3
    have hI_o := hI_o.keep hb3
    have hI_q := hI_q.keep hb3
    have hT := bt2 hT hb3
    go_wp2_with fail
    refine (c_sameInts so_o so_q (mulR zs ys xs).length co_o co_q (mulR zs ys xs) HR.out _ hI_o hI_q).mono ?_
    rintro e w4 ⟨rfl, hb4⟩
    have hI_zs := hI_zs.keep hb4
    have hI_ys := hI_ys.keep hb4
    have hI_xs := hI_xs.keep hb4
    have hI_o := hI_o.keep hb4
    have hI_q := hI_q.keep hb4
    have hT := bt2 hT hb4
    go_wp2_with fail
    go_ret
    exact ⟨rfl, hT⟩
  · clear hRl
    go_wp2_with fail
    refine (c_sameInts so_o so_q (mulR zs ys xs).length co_o co_q (mulR zs ys xs) HR.out _ hI_o hI_q).mono ?_
    rintro e w3 ⟨rfl, hb3⟩
    have hI_zs := hI_zs.keep hb3
    have hI_ys := hI_ys.keep hb3
    have hI_xs := hI_xs.keep hb3
    have hI_o := hI_o.keep hb3
    have hI_q := hI_q.keep hb3
    have hT := bt2 hT hb3
    obtain ⟨o1, o2⟩ := twoB_parts hb
    have hS := mul_num hb
    have hRR : mulR zs ys xs = four (fun i => (zA ys i * zA xs i) % mo zs i) zs.length := by unfold mulR; rw [hb]; rfl
    rw [← hRR] at hS
    have k0 := fun W a => c_implRestSize so_zs zs.length co_zs zs hm_zs W a
    have k1 := fun W a b => c_implRestNumber so_zs so_ys zs.length co_zs ys.length co_ys zs ys hm_zs hm_ys W a b
    have k2 := fun W a b => c_implRestNumber so_zs so_xs zs.length co_zs xs.length co_xs zs xs hm_zs hm_xs W a b
    have k3 := fun W a b => c_implRestNumber so_zs so_o zs.length co_zs (mulR zs ys xs).length co_o zs (mulR zs ys xs) hm_zs HR.out W a b
    rw [okZ_bas o1] at k0
    rw [o1] at k1
    rw [o2] at k2
    rw [hS.1, hS.2] at k3
    simp only [selI_t] at k0 k1 k2 k3
    have n1 := numZ_bd o1
    have n2 := numZ_bd o2
    clear hb hS hRR o1 o2
    generalize numZ zs ys = Y at *
    generalize numZ zs xs = X at *
    generalize sizZ zs = Z at *
    obtain ⟨y1, y2, y3⟩ := n1
    obtain ⟨x1, x2, x3⟩ := n2
    have hp := mulb y1 (show Y ≤ 810000 by omega) x1 (show X ≤ 810000 by omega)
    obtain ⟨hp1, hp2⟩ := hp
    have hw : wrap64 (Y * X) = Y * X := by unfold wrap64; omega
    have hz : (Y * X).tmod Z = (Y * X) % Z := Int.tmod_eq_emod_of_nonneg hp1
    go_wp2_with fail
    refine (k0 _ hI_zs).mono ?_
    rintro e w4 ⟨rfl, hb4⟩
    have hI_zs := hI_zs.keep hb4
    have hI_ys := hI_ys.keep hb4
    have hI_xs := hI_xs.keep hb4
    have hI_o := hI_o.keep hb4
    have hI_q := hI_q.keep hb4
    have hT := bt2 hT hb4
    go_wp2_with fail
    refine (k1 _ hI_zs hI_ys).mono ?_
    rintro e w5 ⟨rfl, hb5⟩
    have hI_zs := hI_zs.keep hb5
    have hI_ys := hI_ys.keep hb5
    have hI_xs := hI_xs.keep hb5
    have hI_o := hI_o.keep hb5
    have hI_q := hI_q.keep hb5
    have hT := bt2 hT hb5
    go_wp2_with fail
    refine (k2 _ hI_zs hI_xs).mono ?_
    rintro e w6 ⟨rfl, hb6⟩
    have hI_zs := hI_zs.keep hb6
    have hI_ys := hI_ys.keep hb6
    have hI_xs := hI_xs.keep hb6
    have hI_o := hI_o.keep hb6
    have hI_q := hI_q.keep hb6
    have hT := bt2 hT hb6
    go_wp2_with fail
    refine (k3 _ hI_zs hI_o).mono ?_
    rintro e w7 ⟨rfl, hb7⟩
    have hI_zs := hI_zs.keep hb7
    have hI_ys := hI_ys.keep hb7
    have hI_xs := hI_xs.keep hb7
    have hI_o := hI_o.keep hb7
    have hI_q := hI_q.keep hb7
    have hT := bt2 hT hb7
    go_wp2_with fail
    go_ret
    exact ⟨rfl, hT⟩
end Go.Proofs.Ytnbejgbkabaleaa
