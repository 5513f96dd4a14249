/- The walk of the promise law FnDigits. -/
import Derived.Test.YtnbejgbkabaleaaDd
import Derived.Test.YtnbejgbkabaleaaBg
namespace Go.Proofs.Ytnbejgbkabaleaa
open Go.RowKit
theorem digR_leD (zs ys : List Int) : (digR zs ys).length ≤ 4 := by
  unfold digR
  cases okZ zs ys
  · simp
  · simp only [cond_true]
    unfold digL
    exact four_leD _ _
set_option maxRecDepth 20000 in
set_option maxHeartbeats 4000000 in
theorem w_FnDigits (s : Option Addr) (len cap : Nat) (w : World) (h : Code0 w s len cap) : Calls Try.prog 9 #[.slice s len cap] w fun e w' => e = .returned (.bool true) ∧ Below w.heap.size w w' := by
  have hlc := h.lc
  have hcm := h.cm
  unfold maxLen at hcm
  by_cases hlen : ¬ len ≤ 1048576
  · go_enter Try.func9, Try.ntmps9
    go_wp2_with fail
    go_ret
    exact ⟨rfl, Below.refl _ _⟩
  have hlen2 : len ≤ 1048576 := by omega
  clear hlen
  go_enter Try.func9, Try.ntmps9
  go_wp2_with fail
  refine (c_DrawRestDigits s len cap _ h).mono ?_
  rintro e w0 ⟨v_zs, v_ys, zs, ys, rfl, hO_zs, hO_ys, hl_zs, hl_ys, hT⟩
  obtain ⟨so_zs, co_zs, rfl, hI_zs, _⟩ := hO_zs.spread
  have hm_zs : zs.length ≤ 1048576 := by omega
  obtain ⟨so_ys, co_ys, rfl, hI_ys, _⟩ := hO_ys.spread
  have hm_ys : ys.length ≤ 1048576 := by omega
  clear hO_zs hO_ys h
  go_wp2_with fail
  refine (c_implRestDigits so_zs so_ys zs.length co_zs ys.length co_ys zs ys hm_zs hm_ys _ hI_zs hI_ys).mono ?_
  rintro e w1 ⟨u1, rfl, hR1, hb1⟩
  have hI_zs := hI_zs.keep hb1
  have hI_ys := hI_ys.keep hb1
  have hT := bt2 hT hb1
  obtain ⟨so_o, co_o, rfl, hI_o, _⟩ := hR1.spread
  go_wp2_with fail
  refine (c_specRestDigits so_zs so_ys zs.length co_zs ys.length co_ys zs ys hm_zs hm_ys _ hI_zs hI_ys).mono ?_
  rintro e w2 ⟨u2, rfl, hR2, hb2⟩
  have hI_zs := hI_zs.keep hb2
  have hI_ys := hI_ys.keep hb2
  have hI_o := hI_o.keep hb2
  have hT := bt2 hT hb2
  obtain ⟨so_q, co_q, rfl, hI_q, _⟩ := hR2.spread
  have hRl : (digR zs ys).length ≤ 4 := digR_leD zs ys
  have HR := Lib.hid (show (digR zs ys).length ≤ 1048576 by omega)
  cases hb : okZ zs ys
  · clear hb hRl
    go_wp2_with fail
    refine (c_sameInts so_o so_q (digR zs ys).length co_o co_q (digR zs ys) HR.out _ hI_o hI_q).mono ?_
    rintro e w3 ⟨rfl, hb3⟩
    have hI_zs := hI_zs.keep hb3
    have hI_ys := hI_ys.keep hb3
    have hI_o := hI_o.keep hb3
    have hI_q := hI_q.keep hb3
    have hT := bt2 hT hb3
    go_wp2_with fail
    refine (c_sameInts so_o so_q (digR zs ys).length co_o co_q (digR zs ys) HR.out _ hI_o hI_q).mono ?_
    rintro e w4 ⟨rfl, hb4⟩
    have hI_zs := hI_zs.keep hb4
    have hI_ys := hI_ys.keep hb4
    have hI_o := hI_o.keep hb4
    have hI_q := hI_q.keep hb4
    have hT := bt2 hT hb4
    go_wp2_with fail
    go_ret
    exact ⟨rfl, hT⟩
  · clear hRl
    go_wp2_with fail
    refine (c_sameInts so_o so_q (digR zs ys).length co_o co_q (digR zs ys) HR.out _ hI_o hI_q).mono ?_
    rintro e w3 ⟨rfl, hb3⟩
    have hI_zs := hI_zs.keep hb3
    have hI_ys := hI_ys.keep hb3
    have hI_o := hI_o.keep hb3
    have hI_q := hI_q.keep hb3
    have hT := bt2 hT hb3
    have hRR : digR zs ys = digL zs ys := by unfold digR; rw [hb]; rfl
    have hll := bas_len (okZ_bas hb)
    have hL : (digR zs ys).length = zs.length := by rw [hRR]; exact four_len hll.2
    have HG := Lib.hid (fun k (h : k < zs.length) => show (digR zs ys)[k]?.getD 0 = digZ zs ys k by rw [hRR]; exact four_get hll.2 h)
    have HM := Lib.hid (bas_mb (okZ_bas hb))
    have HD := Lib.hid (fun k hk => nuZ_dig hb k hk)
    have HB := Lib.hid (fun k hk => nuZ_bd hb k hk)
    have HP := Lib.hid (fun k hk => pZ_bd (bas_mb (okZ_bas hb)) k hk)
    have HS := Lib.hid (fun k (hk : k < 4) => pZ_succ zs k hk)
    have HA := Lib.hid (nuZ_all hb)
    have k1 := fun W a b => c_implRestNumber so_zs so_ys zs.length co_zs ys.length co_ys zs ys hm_zs hm_ys W a b
    rw [hb] at k1
    simp only [selI_t] at k1
    rw [hL] at hI_o
    have HLL := Lib.hid hL
    obtain ⟨hla, hlb⟩ := hll
    clear hb hRR hL hI_q
    go_wp2_with fail
    refine (k1 _ hI_zs hI_ys).mono ?_
    rintro e w4 ⟨rfl, hb4⟩
    have hI_zs := hI_zs.keep hb4
    have hI_ys := hI_ys.keep hb4
    have hI_o := hI_o.keep hb4
    have hT := bt2 hT hb4
    rw [HLL.out]
    go_wp2_with fail
    go_loopw [11, 12, 13] (fun v p k2 wr => ∃ (k : Nat), k ≤ zs.length ∧ k2 = .int .i64 k ∧ v = .int .i64 (nuZ zs ys k) ∧ p = .int .i64 (pZ zs k) ∧ Ints wr so_o zs.length (digR zs ys) ∧ Ints wr so_zs zs.length zs ∧ Below w.heap.size w wr) (fun _ _ k2 _ => zs.length - (intOf k2).toNat)
    case atStart => exact ⟨0, by omega, rfl, rfl, rfl, hI_o, hI_zs, hT⟩
    case round =>
      clear hI_o hI_zs hI_ys hT
      obtain ⟨k, hk, rfl, rfl, rfl, hI_o, hI_zs, hT⟩ := hrel
      by_cases hlt : k < zs.length
      · rcases hI_zs.lies with h0 | ⟨b, off, rfl, hbw, hcells⟩
        · omega
        rcases hI_o.lies with h0 | ⟨b2, off2, rfl, hbw2, hcells2⟩
        · omega
        have hx := hcells k hlt
        rw [mo_in hlt] at hx
        have hx2 := hcells2 k hlt
        rw [HG.out k hlt] at hx2
        have hkz0 : (0 : Int) ≤ (k : Int) := by omega
        have hkz1 : (k : Int) < (zs.length : Int) := by omega
        obtain ⟨m1, m2⟩ := HM.out k
        obtain ⟨hd1, hd2⟩ := (HD.out k (by omega)).1
        have hd3 : ¬ digZ zs ys k < 0 := by omega
        have hd4 : ¬ mo zs k ≤ digZ zs ys k := by omega
        have hp := HP.out k (by omega)
        have hv := HB.out k (by omega)
        have hpm := mulb (show 0 ≤ pZ zs k by omega) hp.2 (show 0 ≤ mo zs k by omega) m2
        have hpd := mulb hd1 (show digZ zs ys k ≤ 30 by omega) (show 0 ≤ pZ zs k by omega) hp.2
        have HS1 := Lib.hid (HS.out k (by omega))
        have HS2 := Lib.hid (nuZ_succ zs ys k)
        have hd5 : decide (digZ zs ys k < 0) = false := decide_eq_false hd3
        have hd6 : decide (mo zs k ≤ digZ zs ys k) = false := decide_eq_false hd4
        clear hcells hcells2
        go_wp2_with fail
        go_quiet (fail)
        go_wp2_with fail
        go_roundw
        case rel => exact ⟨k + 1, by omega, by go_num, by rw [HS2.out], by rw [HS1.out], hI_o.keep (bel_drewN (Below.refl _ _) _), hI_zs.keep (bel_drewN (Below.refl _ _) _), bel_drewN hT _⟩
        case measure => simp [intOf]; omega
      · have hk' : k = zs.length := by omega
        subst hk'
        rw [HA.out]
        go_wp2_with fail
        go_ret
        exact ⟨rfl, hT⟩
end Go.Proofs.Ytnbejgbkabaleaa
