/- The walk of the promise law FnRestOf. -/
import Derived.Test.YtnbejgbkabaleaaDd
import Derived.Test.YtnbejgbkabaleaaBe
namespace Go.Proofs.Ytnbejgbkabaleaa
open Go.RowKit
theorem rofR_leD (zs : List Int) (x : Int) : (rofR zs x).length ≤ 4 := by
  unfold rofR
  cases ofZ zs x
  · simp
  · simp only [cond_true]
    unfold rofL
    exact four_leD _ _
set_option maxRecDepth 20000 in
set_option maxHeartbeats 4000000 in
theorem w_FnRestOf (s : Option Addr) (len cap : Nat) (w : World) (h : Code0 w s len cap) : Calls Try.prog 5 #[.slice s len cap] w fun e w' => e = .returned (.bool true) ∧ Below w.heap.size w w' := by
  have hlc := h.lc
  have hcm := h.cm
  unfold maxLen at hcm
  by_cases hlen : ¬ len ≤ 1048576
  · go_enter Try.func5, Try.ntmps5
    go_wp2_with fail
    go_ret
    exact ⟨rfl, Below.refl _ _⟩
  have hlen2 : len ≤ 1048576 := by omega
  clear hlen
  go_enter Try.func5, Try.ntmps5
  go_wp2_with fail
  refine (c_DrawRestOf s len cap _ h).mono ?_
  rintro e w0 ⟨v_zs, zs, x, rfl, hO_zs, hl_zs, hT⟩
  obtain ⟨so_zs, co_zs, rfl, hI_zs, _⟩ := hO_zs.spread
  have hm_zs : zs.length ≤ 1048576 := by omega
  clear hO_zs h
  go_wp2_with fail
  refine (c_implRestOf so_zs zs.length co_zs zs x hm_zs _ hI_zs).mono ?_
  rintro e w1 ⟨u1, rfl, hR1, hb1⟩
  have hI_zs := hI_zs.keep hb1
  have hT := bt2 hT hb1
  obtain ⟨so_o, co_o, rfl, hI_o, _⟩ := hR1.spread
  go_wp2_with fail
  refine (c_specRestOf so_zs zs.length co_zs zs x hm_zs _ hI_zs).mono ?_
  rintro e w2 ⟨u2, rfl, hR2, hb2⟩
  have hI_zs := hI_zs.keep hb2
  have hI_o := hI_o.keep hb2
  have hT := bt2 hT hb2
  obtain ⟨so_q, co_q, rfl, hI_q, _⟩ := hR2.spread
  have hRl : (rofR zs x).length ≤ 4 := rofR_leD zs x
  have HR := Lib.hid (show (rofR zs x).length ≤ 1048576 by omega)
  cases hb : ofZ zs x
  · clear hb hRl
    go_wp2_with fail
    refine (c_sameInts so_o so_q (rofR zs x).length co_o co_q (rofR zs x) HR.out _ hI_o hI_q).mono ?_
    rintro e w3 ⟨rfl, hb3⟩
    have hI_zs := hI_zs.keep hb3
    have hI_o := hI_o.keep hb3
    have hI_q := hI_q.keep hb3
    have hT := bt2 hT hb3
    go_wp2_with fail
    refine (c_sameInts so_o so_q (rofR zs x).length co_o co_q (rofR zs x) HR.out _ hI_o hI_q).mono ?_
    rintro e w4 ⟨rfl, hb4⟩
    have hI_zs := hI_zs.keep hb4
    have hI_o := hI_o.keep hb4
    have hI_q := hI_q.keep hb4
    have hT := bt2 hT hb4
    go_wp2_with fail
    go_ret
    exact ⟨rfl, hT⟩
  · clear hRl
    go_wp2_with fail
    refine (c_sameInts so_o so_q (rofR zs x).length co_o co_q (rofR zs x) HR.out _ hI_o hI_q).mono ?_
    rintro e w3 ⟨rfl, hb3⟩
    have hI_zs := hI_zs.keep hb3
    have hI_o := hI_o.keep hb3
    have hI_q := hI_q.keep hb3
    have hT := bt2 hT hb3
    have hS := rof_num hb
    have hRR : rofR zs x = rofL zs x := by unfold rofR; rw [hb]; rfl
    rw [← hRR] at hS
    have k3 := fun W a b => c_implRestNumber so_zs so_o zs.length co_zs (rofR zs x).length co_o zs (rofR zs x) hm_zs HR.out W a b
    rw [hS.1, hS.2] at k3
    simp only [selI_t] at k3
    clear hb hS hRR
    go_wp2_with fail
    refine (k3 _ hI_zs hI_o).mono ?_
    rintro e w4 ⟨rfl, hb4⟩
    have hI_zs := hI_zs.keep hb4
    have hI_o := hI_o.keep hb4
    have hI_q := hI_q.keep hb4
    have hT := bt2 hT hb4
    go_wp2_with fail
    go_ret
    exact ⟨rfl, hT⟩
end Go.Proofs.Ytnbejgbkabaleaa
