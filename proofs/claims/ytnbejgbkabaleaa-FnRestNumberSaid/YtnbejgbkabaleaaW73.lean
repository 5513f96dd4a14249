/- The walk of the promise law FnRestNumber. -/
import Derived.Test.YtnbejgbkabaleaaDd
import Derived.Test.YtnbejgbkabaleaaBk
namespace Go.Proofs.Ytnbejgbkabaleaa
open Go.RowKit
set_option maxRecDepth 20000 in
set_option maxHeartbeats 4000000 in
theorem w_FnRestNumber (s : Option Addr) (len cap : Nat) (w : World) (h : Code0 w s len cap) : Calls Try.prog 6 #[.slice s len cap] w fun e w' => e = .returned (.bool true) ∧ Below w.heap.size w w' := by
  have hlc := h.lc
  have hcm := h.cm
  unfold maxLen at hcm
  by_cases hlen : ¬ len ≤ 1048576
  · go_enter Try.func6, Try.ntmps6
    go_wp2_with fail
    go_ret
    exact ⟨rfl, Below.refl _ _⟩
  have hlen2 : len ≤ 1048576 := by omega
  clear hlen
  go_enter Try.func6, Try.ntmps6
  go_wp2_with fail
  refine (c_DrawRestNumber s len cap _ h).mono ?_
  rintro e w0 ⟨v_zs, v_ys, zs, ys, rfl, hO_zs, hO_ys, hl_zs, hl_ys, hT⟩
  obtain ⟨so_zs, co_zs, rfl, hI_zs, _⟩ := hO_zs.spread
  have hm_zs : zs.length ≤ 1048576 := by omega
  obtain ⟨so_ys, co_ys, rfl, hI_ys, _⟩ := hO_ys.spread
  have hm_ys : ys.length ≤ 1048576 := by omega
  clear hO_zs hO_ys h
  go_wp2_with fail
  refine (c_implRestNumber so_zs so_ys zs.length co_zs ys.length co_ys zs ys hm_zs hm_ys _ hI_zs hI_ys).mono ?_
  rintro e w1 ⟨rfl, hb1⟩
  have hI_zs := hI_zs.keep hb1
  have hI_ys := hI_ys.keep hb1
  have hT := bt2 hT hb1
  go_wp2_with fail
  refine (c_specRestNumber so_zs so_ys zs.length co_zs ys.length co_ys zs ys hm_zs hm_ys _ hI_zs hI_ys).mono ?_
  rintro e w2 ⟨rfl, hb2⟩
  have hI_zs := hI_zs.keep hb2
  have hI_ys := hI_ys.keep hb2
  have hT := bt2 hT hb2
  cases hb : okZ zs ys
  · simp only [selI_f]
    clear hb
    go_wp2_with fail
    go_ret
    exact ⟨rfl, hT⟩
  · simp only [selI_t]
    have hS := num_of hb
    have hll := bas_len (okZ_bas hb)
    have hRR : rofR zs (numZ zs ys) = ys := by unfold rofR; rw [hS.1]; exact hS.2
    have hm0 := bas_mb (okZ_bas hb) 0
    have hmd := okZ_mod hb 0 (by omega)
    have hr0 := num_rests hb 0 (by omega)
    have HYL := Lib.hid (okZ_len hb)
    have hmo : morB zs ys (mo zs 0) = true := by unfold morB; rw [hb, modB_t ⟨by omega, by have := hm0.2; omega⟩]; rfl
    have k1 := fun W a => c_implRestOf so_zs zs.length co_zs zs (numZ zs ys) hm_zs W a
    rw [hRR, hS.1] at k1
    have k2 := fun W a b => c_implRestMore so_zs so_ys zs.length co_zs ys.length co_ys zs ys (mo zs 0) hm_zs hm_ys W a b
    rw [hmo, hr0] at k2
    simp only [selI_t] at k2
    clear hb hS hRR hmo hr0
    generalize numZ zs ys = X at *
    go_wp2_with fail
    refine (k1 _ hI_zs).mono ?_
    rintro e w3 ⟨u3, rfl, hR3, hb3⟩
    have hI_zs := hI_zs.keep hb3
    have hI_ys := hI_ys.keep hb3
    have hT := bt2 hT hb3
    obtain ⟨so_o, co_o, rfl, hI_o, _⟩ := hR3.spread
    rcases hI_zs.lies with h0 | ⟨b, off, rfl, hbw, hcells⟩
    · omega
    have hx0 := hcells 0 (by omega)
    rw [mo_in (by omega), Nat.add_zero] at hx0
    have hlz : (0 : Int) < (zs.length : Int) := by omega
    clear hcells
    go_wp2_with fail
    refine (k2 _ hI_zs hI_ys).mono ?_
    rintro e w4 ⟨rfl, hb4⟩
    have hI_zs := hI_zs.keep hb4
    have hI_ys := hI_ys.keep hb4
    have hI_o := hI_o.keep hb4
    have hT := bt2 hT hb4
    go_wp2_with fail
    refine (c_sameInts so_o so_ys ys.length co_o co_ys ys hm_ys _ hI_o hI_ys).mono ?_
    rintro e w5 ⟨rfl, hb5⟩
    have hI_zs := hI_zs.keep hb5
    have hI_ys := hI_ys.keep hb5
    have hI_o := hI_o.keep hb5
    have hT := bt2 hT hb5
    have hyp : 0 < ys.length := by have := HYL.out; omega
    rcases hI_ys.lies with h0 | ⟨b2, off2, rfl, hbw2, hcells2⟩
    · omega
    have hx2 := hcells2 0 hyp
    rw [zA_in, Nat.add_zero] at hx2
    have hly : (0 : Int) < (ys.length : Int) := by omega
    clear hcells2
    go_wp2_with fail
    go_ret
    exact ⟨rfl, hT⟩
end Go.Proofs.Ytnbejgbkabaleaa
