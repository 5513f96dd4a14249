/- The walk of the promise law FnBase. -/
import Derived.Test.YtnbejgbkabaleaaDd
import Derived.Test.YtnbejgbkabaleaaBd
namespace Go.Proofs.Ytnbejgbkabaleaa
open Go.RowKit
set_option maxRecDepth 20000 in
set_option maxHeartbeats 4000000 in
theorem w_FnBase (s : Option Addr) (len cap : Nat) (w : World) (h : Code0 w s len cap) : Calls Try.prog 3 #[.slice s len cap] w fun e w' => e = .returned (.bool true) ∧ Below w.heap.size w w' := by
  have hlc := h.lc
  have hcm := h.cm
  unfold maxLen at hcm
  by_cases hlen : ¬ len ≤ 1048576
  · go_enter Try.func3, Try.ntmps3
    go_wp2_with fail
    go_ret
    exact ⟨rfl, Below.refl _ _⟩
  have hlen2 : len ≤ 1048576 := by omega
  clear hlen
  go_enter Try.func3, Try.ntmps3
  go_wp2_with fail
  refine (c_DrawRestIn s len cap _ h).mono ?_
  rintro e w0 ⟨v_zs, zs, rfl, hO_zs, hl_zs, hT⟩
  obtain ⟨so_zs, co_zs, rfl, hI_zs, _⟩ := hO_zs.spread
  have hm_zs : zs.length ≤ 1048576 := by omega
  clear hO_zs h
  go_wp2_with fail
  refine (c_implRestIn so_zs zs.length co_zs zs hm_zs _ hI_zs).mono ?_
  rintro e w1 ⟨rfl, hb1⟩
  have hI_zs := hI_zs.keep hb1
  have hT := bt2 hT hb1
  go_wp2_with fail
  refine (c_specRestIn so_zs zs.length co_zs zs hm_zs _ hI_zs).mono ?_
  rintro e w2 ⟨rfl, hb2⟩
  have hI_zs := hI_zs.keep hb2
  have hT := bt2 hT hb2
  cases hb : basB zs
  · clear hb
    go_wp2_with fail
    go_ret
    exact ⟨rfl, hT⟩
  · have hll := bas_len hb
    have hsb : 1 ≤ sizZ zs ∧ sizZ zs ≤ 810000 := pZ_bd (bas_mb hb) 4 (by omega)
    have hof : ofZ zs (sizZ zs - 1) = true := by unfold ofZ; rw [hb, decide_eq_true (show 0 ≤ sizZ zs - 1 by omega), decide_eq_true (show sizZ zs - 1 < sizZ zs by omega)]; rfl
    have hRR : rofR zs (sizZ zs - 1) = rofL zs (sizZ zs - 1) := by unfold rofR; rw [hof]; rfl
    have HL := Lib.hid (show (rofR zs (sizZ zs - 1)).length = zs.length by rw [hRR]; exact four_len hll.2)
    have HG := Lib.hid (fun k (h : k < zs.length) => show (rofR zs (sizZ zs - 1))[k]?.getD 0 = mo zs k - 1 by
      rw [hRR]
      show (four (fun i => (sizZ zs - 1) % mo zs i) zs.length)[k]?.getD 0 = _
      rw [four_get hll.2 h]; exact last_rest hb k (by omega))
    have HM := Lib.hid (bas_mb hb)
    have k0 := fun W a => c_implRestSize so_zs zs.length co_zs zs hm_zs W a
    have k1 := fun W a => c_implRestOf so_zs zs.length co_zs zs (sizZ zs - 1) hm_zs W a
    rw [hb] at k0
    simp only [selI_t] at k0
    rw [hof] at k1
    obtain ⟨hla, hlb⟩ := hll
    clear hb hof hRR
    generalize rofR zs (sizZ zs - 1) = R at *
    generalize sizZ zs = Z at *
    go_wp2_with fail
    refine (k0 _ hI_zs).mono ?_
    rintro e w3 ⟨rfl, hb3⟩
    have hI_zs := hI_zs.keep hb3
    have hT := bt2 hT hb3
    go_wp2_with fail
    refine (k1 _ hI_zs).mono ?_
    rintro e w4 ⟨u4, rfl, hR4, hb4⟩
    have hI_zs := hI_zs.keep hb4
    have hT := bt2 hT hb4
    obtain ⟨so_o, co_o, rfl, hI_o, _⟩ := hR4.spread
    rw [HL.out] at hI_o
    rw [HL.out]
    clear k0 k1
    go_wp2_with fail
    go_loopw [10] (fun k2 wr => ∃ (k : Nat), k ≤ zs.length ∧ k2 = .int .i64 k ∧ Ints wr so_o zs.length R ∧ Ints wr so_zs zs.length zs ∧ Below w.heap.size w wr) (fun k2 _ => zs.length - (intOf k2).toNat)
    case atStart => exact ⟨0, by omega, rfl, hI_o, hI_zs, hT⟩
    case round =>
      clear hI_o hI_zs hT
      obtain ⟨k, hk, rfl, hI_o, hI_zs, hT⟩ := hrel
      by_cases hlt : k < zs.length
      · rcases hI_o.lies with h0 | ⟨b, off, rfl, hbw, hcells⟩
        · omega
        rcases hI_zs.lies with h0 | ⟨b2, off2, rfl, hbw2, hcells2⟩
        · omega
        have hx := hcells k hlt
        rw [HG.out k hlt] at hx
        have hx2 := hcells2 k hlt
        rw [mo_in hlt] at hx2
        obtain ⟨m1, m2⟩ := HM.out k
        have hkz0 : (0 : Int) ≤ (k : Int) := by omega
        have hkz1 : (k : Int) < (zs.length : Int) := by omega
        have hw : wrap64 (mo zs k - 1) = mo zs k - 1 := by unfold wrap64; omega
        clear hcells hcells2
        go_wp2_with fail
        go_quiet (fail)
        go_wp2_with fail
        go_roundw
        case rel => exact ⟨k + 1, by omega, by go_num, hI_o.keep (bel_drewN (Below.refl _ _) _), hI_zs.keep (bel_drewN (Below.refl _ _) _), bel_drewN hT _⟩
        case measure => simp [intOf]; omega
      · have hk' : k = zs.length := by omega
        subst hk'
        go_wp2_with fail
        go_ret
        exact ⟨rfl, hT⟩
end Go.Proofs.Ytnbejgbkabaleaa
