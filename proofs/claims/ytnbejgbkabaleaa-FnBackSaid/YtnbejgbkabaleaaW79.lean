/- The walk of the promise law FnBack. -/
import Derived.Test.YtnbejgbkabaleaaDd
import Derived.Test.YtnbejgbkabaleaaMathX
import Derived.Test.YtnbejgbkabaleaaBi
namespace Go.Proofs.Ytnbejgbkabaleaa
open Go.RowKit
theorem bacR_leD (zs ys : List Int) : (bacR zs ys).length ≤ 4 := by
  unfold bacR
  cases bacB zs ys
  · simp
  · simp only [cond_true]
    unfold bacL
    exact four_leD _ _
set_option maxRecDepth 20000 in
set_option maxHeartbeats 4000000 in
theorem w_FnBack (s : Option Addr) (len cap : Nat) (w : World) (h : Code0 w s len cap) : Calls Try.prog 12 #[.slice s len cap] w fun e w' => e = .returned (.bool true) ∧ Below w.heap.size w w' := by
  have hlc := h.lc
  have hcm := h.cm
  unfold maxLen at hcm
  by_cases hlen : ¬ len ≤ 1048576
  · go_enter Try.func12, Try.ntmps12
    go_wp2_with fail
    go_ret
    exact ⟨rfl, Below.refl _ _⟩
  have hlen2 : len ≤ 1048576 := by omega
  clear hlen
  go_enter Try.func12, Try.ntmps12
  go_wp2_with fail
  refine (c_DrawRestBack s len cap _ h).mono ?_
  rintro e w0 ⟨v_zs, v_ys, zs, ys, rfl, hO_zs, hO_ys, hl_zs, hl_ys, hT⟩
  obtain ⟨so_zs, co_zs, rfl, hI_zs, _⟩ := hO_zs.spread
  have hm_zs : zs.length ≤ 1048576 := by omega
  obtain ⟨so_ys, co_ys, rfl, hI_ys, _⟩ := hO_ys.spread
  have hm_ys : ys.length ≤ 1048576 := by omega
  clear hO_zs hO_ys h
  go_wp2_with fail
  refine (c_implRestBack so_zs so_ys zs.length co_zs ys.length co_ys zs ys hm_zs hm_ys _ hI_zs hI_ys).mono ?_
  rintro e w1 ⟨u1, rfl, hR1, hb1⟩
  have hI_zs := hI_zs.keep hb1
  have hI_ys := hI_ys.keep hb1
  have hT := bt2 hT hb1
  obtain ⟨so_o, co_o, rfl, hI_o, _⟩ := hR1.spread
  go_wp2_with fail
  refine (c_specRestBack so_zs so_ys zs.length co_zs ys.length co_ys zs ys hm_zs hm_ys _ hI_zs hI_ys).mono ?_
  rintro e w2 ⟨u2, rfl, hR2, hb2⟩
  have hI_zs := hI_zs.keep hb2
  have hI_ys := hI_ys.keep hb2
  have hI_o := hI_o.keep hb2
  have hT := bt2 hT hb2
  obtain ⟨so_q, co_q, rfl, hI_q, _⟩ := hR2.spread
  have hRl : (bacR zs ys).length ≤ 4 := bacR_leD zs ys
  have HR := Lib.hid (show (bacR zs ys).length ≤ 1048576 by omega)
  cases hb : bacB zs ys
  · clear hb hRl
    go_wp2_with fail
    refine (c_sameInts so_o so_q (bacR zs ys).length co_o co_q (bacR zs ys) HR.out _ hI_o hI_q).mono ?_
    rintro e w3 ⟨rfl, hb3⟩
    have hI_zs := hI_zs.keep hb3
    have hI_ys := hI_ys.keep hb3
    have hI_o := hI_o.keep hb3
    have hI_q := hI_q.keep hb3
    have hT := bt2 hT hb3
    go_wp2_with fail
    refine (c_sameInts so_o so_q (bacR zs ys).length co_o co_q (bacR zs ys) HR.out _ hI_o hI_q).mono ?_
    rintro e w4 ⟨rfl, hb4⟩
    have hI_zs := hI_zs.keep hb4
    have hI_ys := hI_ys.keep hb4
    have hI_o := hI_o.keep hb4
    have hI_q := hI_q.keep hb4
    have hT := bt2 hT hb4
    go_wp2_with fail
    go_ret
    exact ⟨rfl, hT⟩
  · clear hRl
    go_wp2_with fail
    refine (c_sameInts so_o so_q (bacR zs ys).length co_o co_q (bacR zs ys) HR.out _ hI_o hI_q).mono ?_
    rintro e w3 ⟨rfl, hb3⟩
    have hI_zs := hI_zs.keep hb3
    have hI_ys := hI_ys.keep hb3
    have hI_o := hI_o.keep hb3
    have hI_q := hI_q.keep hb3
    have hT := bt2 hT hb3
    have hS := bac_back hb
    have hok : okZ zs ys = true := by unfold bacB at hb; simp only [Bool.and_eq_true] at hb; exact hb.1
    have hll := bas_len (okZ_bas hok)
    obtain ⟨s1, s2, s3, s4, s5⟩ := hS
    have k1 := fun W a b c => c_implRestTimes so_zs so_ys so_o zs.length co_zs ys.length co_ys (bacR zs ys).length co_o zs ys (bacR zs ys) hm_zs hm_ys HR.out W a b c
    have k2 := fun W a b => c_implRestBack so_zs so_o zs.length co_zs (bacR zs ys).length co_o zs (bacR zs ys) hm_zs HR.out W a b
    rw [s1] at k1
    rw [s4, s5] at k2
    have HG := Lib.hid s3
    have HL := Lib.hid s2
    obtain ⟨hla, hlb⟩ := hll
    clear hb hok s1 s2 s3 s4 s5 hI_q HR
    generalize mulR zs ys (bacR zs ys) = ML at *
    generalize bacR zs ys = V at *
    go_wp2_with fail
    refine (k1 _ hI_zs hI_ys hI_o).mono ?_
    rintro e w4 ⟨u4, rfl, hR4, hb4⟩
    have hI_zs := hI_zs.keep hb4
    have hI_ys := hI_ys.keep hb4
    have hI_o := hI_o.keep hb4
    have hT := bt2 hT hb4
    obtain ⟨so_m, co_m, rfl, hI_m, _⟩ := hR4.spread
    go_wp2_with fail
    refine (k2 _ hI_zs hI_o).mono ?_
    rintro e w5 ⟨u5, rfl, hR5, hb5⟩
    have hI_zs := hI_zs.keep hb5
    have hI_ys := hI_ys.keep hb5
    have hI_o := hI_o.keep hb5
    have hI_m := hI_m.keep hb5
    have hT := bt2 hT hb5
    obtain ⟨so_y, co_y, rfl, hI_y, _⟩ := hR5.spread
    rw [HL.out] at hI_m
    rw [HL.out]
    clear k1 k2
    go_wp2_with fail
    go_loopw [13] (fun k2 wr => ∃ (k : Nat), k ≤ zs.length ∧ k2 = .int .i64 k ∧ Ints wr so_m zs.length ML ∧ Ints wr so_y ys.length ys ∧ Ints wr so_ys ys.length ys ∧ Below w.heap.size w wr) (fun k2 _ => zs.length - (intOf k2).toNat)
    case atStart => exact ⟨0, by omega, rfl, hI_m, hI_y, hI_ys, hT⟩
    case round =>
      clear hI_m hI_zs hI_ys hI_o hI_y hT
      obtain ⟨k, hk, rfl, hI_m, hI_y, hI_ys, hT⟩ := hrel
      by_cases hlt : k < zs.length
      · rcases hI_m.lies with h0 | ⟨b, off, rfl, hbw, hcells⟩
        · omega
        have hx := hcells k hlt
        rw [HG.out k hlt] at hx
        have hkz0 : (0 : Int) ≤ (k : Int) := by omega
        have hkz1 : (k : Int) < (zs.length : Int) := by omega
        clear hcells
        go_wp2_with fail
        go_roundw
        case rel => exact ⟨k + 1, by omega, by go_num, hI_m, hI_y, hI_ys, hT⟩
        case measure => simp [intOf]; omega
      · have hk' : k = zs.length := by omega
        subst hk'
        go_wp2_with fail
        refine (c_sameInts so_y so_ys ys.length co_y co_ys ys hm_ys _ hI_y hI_ys).mono ?_
        rintro e w9 ⟨rfl, hb9⟩
        go_wp2_with fail
        go_ret
        exact ⟨rfl, bt2 hT hb9⟩
end Go.Proofs.Ytnbejgbkabaleaa
