/- The walk of the promise law FnModuli. -/
import Derived.Test.YtcokcnpnemhdfaaDoorDe
import Derived.Test.YtcokcnpnemhdfaaDoorS56
import Derived.Test.YtcokcnpnemhdfaaDoorS45
import Derived.Test.YtcokcnpnemhdfaaDoorSame5
import Derived.BigQuiet
namespace Go.Proofs.YtcokcnpnemhdfaaDoor
open Go.RowKit
set_option maxRecDepth 20000 in
set_option maxHeartbeats 4000000 in
theorem w_FnModuli (s : Option Addr) (len cap : Nat) (w : World) (hgE : LaidE w) (h : Code0 w s len cap) : Calls Tryd.prog 3 #[.slice s len cap] w fun e w' => e = .returned (.bool true) ∧ Below w.heap.size w w' := by
  have hlc := h.lc
  have hcm := h.cm
  unfold maxLen at hcm
  by_cases hlen : ¬ len ≤ 1048576
  · go_enter Tryd.func3, Tryd.ntmps3
    go_wp2_with fail
    go_ret
    exact ⟨rfl, Below.refl _ _⟩
  have hlen2 : len ≤ 1048576 := by omega
  clear hlen
  go_enter Tryd.func3, Tryd.ntmps3
  go_wp2_with fail
  refine (c_DrawExactModuli s len cap _ h).mono ?_
  rintro e w0 ⟨v0, zs, rfl, hO0, hl0, hT⟩
  obtain ⟨so, co, rfl, hC, hc1, hc2⟩ := hO0.all
  clear hO0 h
  go_wp2_with fail
  refine (c_implExactModuli so zs.length co zs (by omega) _ (hgE.keep hT) hC).mono ?_
  rintro e w1 ⟨v1, rfl, hR1, hb1⟩
  have hC := hC.keep hb1
  have hT := bt2 hT hb1
  obtain ⟨so1, co1, rfl, hI1, _⟩ := hR1.spread
  clear hR1
  go_wp2_with fail
  refine (c_specExactModuli so zs.length co zs (by omega) _ hC).mono ?_
  rintro e w2 ⟨v2, rfl, hR2, hb2⟩
  have hC := hC.keep hb2
  have hI1 := hI1.keep hb2
  have hT := bt2 hT hb2
  obtain ⟨so2, co2, rfl, hI2, _⟩ := hR2.spread
  clear hR2
  have hle := modR_le zs
  have HL := Lib.hid (show (modR zs).length ≤ 1048576 by omega)
  clear hle
  go_wp2_with fail
  refine (c_sameInts so1 so2 (modR zs).length co1 co2 (modR zs) HL.out _ hI1 hI2).mono ?_
  rintro e w3 ⟨rfl, hb3⟩
  have hC := hC.keep hb3
  have hI1 := hI1.keep hb3
  have hI2 := hI2.keep hb3
  have hT := bt2 hT hb3
  cases hs : sysB zs
  · clear hs
    go_wp2_with fail
    refine (c_sameInts so1 so2 (modR zs).length co1 co2 (modR zs) HL.out _ hI1 hI2).mono ?_
    rintro e w4 ⟨rfl, hb4⟩
    go_wp2_with fail
    go_ret
    exact ⟨rfl, bt2 hT hb4⟩
  · obtain ⟨l1, l2, _⟩ := sysB_facts hs
    obtain ⟨N, hN⟩ : ∃ N, zs.length = N + 1 := ⟨zs.length - 1, by omega⟩
    have HR := Lib.hid (modR_t hs)
    have HML := Lib.hid (show (modR zs).length = N + 1 by rw [modR_t hs, modL_length, hN])
    have HA := Lib.hid (fun k j (h : k < j) (hj : j < N + 1) => show (modR zs)[k]?.getD 0 ≤ (modR zs)[j]?.getD 0 by rw [modR_t hs]; exact modL_le zs k j h (by omega))
    have HC := Lib.hid (show cntM (modR zs) ((modR zs)[N]?.getD 0) (N + 1) = twiI zs by
      have := twi_count hs
      rw [hN] at this
      rw [modR_t hs]; exact this)
    have HS := Lib.hid (fun k (hk : k < N + 1) => cntM_succ (modR zs) ((modR zs)[N]?.getD 0) k (by rw [modR_t hs, modL_length, hN]; exact hk))
    have HB := Lib.hid (fun k => cntM_bd (modR zs) ((modR zs)[N]?.getD 0) k)
    have k1 := fun W hg hc => c_implExactTwins so zs.length co zs (by omega) W hg hc
    rw [hs] at k1
    rw [HML.out] at hI1
    have HNN := Lib.hid hN
    have hN7 : N ≤ 7 := by omega
    clear hs HR hI2 hN
    go_wp2_with fail
    refine (k1 _ (hgE.keep hT) hC).mono ?_
    rintro e w4 ⟨rfl, hb4⟩
    have hI1 := hI1.keep hb4
    have hT := bt2 hT hb4
    rw [HML.out, ← HC.out, HNN.out]
    clear k1 HC HL hC HML
    generalize modR zs = L at *
    clear HNN l1 l2 hl0 hc1
    go_wp2_with fail
    go_loopw [10, 11] (fun c k2 wr => ∃ (k : Nat), k ≤ N + 1 ∧ k2 = .int .i64 k ∧ c = .int .i64 (cntM L (L[N]?.getD 0) k) ∧ Ints wr so1 (N + 1) L ∧ Below w.heap.size w wr) (fun _ k2 _ => N + 1 - (intOf k2).toNat)
    case atStart => exact ⟨0, by omega, rfl, by simp [cntM], hI1, hT⟩
    case round =>
      clear hI1 hT
      obtain ⟨k, hk, rfl, rfl, hI1, hT⟩ := hrel
      by_cases hlt : k < N + 1
      · rcases hI1.lies with h0 | ⟨b, off, rfl, hbw, hcells⟩
        · omega
        have hxN := hcells N (by omega)
        have hkz0 : (0 : Int) ≤ (k : Int) := by omega
        have hkz1 : (k : Int) < (N : Int) + 1 := by omega
        have hnz1 : (N : Int) < (N : Int) + 1 := by omega
        have hnz0 : (0 : Int) ≤ (N : Int) := by omega
        have hcb := HB.out k
        have HS1 := Lib.hid (HS.out k hlt)
        generalize hM : L[N]?.getD 0 = M at *
        have hb1 := hI1.keep (bel_drewN (Below.refl _ _) 0)
        rcases (show k = 0 ∨ ∃ j, k = j + 1 by cases k with | zero => exact .inl rfl | succ j => exact .inr ⟨j, rfl⟩) with hk0 | ⟨j, hj⟩
        · have hx := hcells k hlt
          have hd0 : decide (0 < k) = false := decide_eq_false (by omega)
          clear hk0 hcells
          generalize hX : L[k]?.getD 0 = X at *
          clear hX
          by_cases he : X = M
          · have heb : (X == M) = true := by simp [he]
            rw [heb] at HS1
            clear he
            go_wp2_with fail
            go_quiet (fail)
            go_wp2_with fail
            go_quiet (fail)
            go_wp2_with fail
            go_roundw
            case rel => exact ⟨k + 1, by omega, by go_num, by rw [HS1.out]; rfl, hI1.keep (bel_drewN (Below.refl _ _) _), bel_drewN hT _⟩
            case measure => simp [intOf]; omega
          · have heb : (X == M) = false := by simpa using he
            rw [heb] at HS1
            clear he
            go_wp2_with fail
            go_quiet (fail)
            go_wp2_with fail
            go_quiet (fail)
            go_wp2_with fail
            go_roundw
            case rel => exact ⟨k + 1, by omega, by go_num, by rw [HS1.out]; simp, hI1.keep (bel_drewN (Below.refl _ _) _), bel_drewN hT _⟩
            case measure => simp [intOf]; omega
        · subst hj
          have hx := hcells (j + 1) hlt
          have hx1 := hcells j (by omega)
          have hle := HA.out j (j + 1) (by omega) hlt
          have hjz1 : (j : Int) < (N : Int) + 1 := by omega
          have hjz0 : (0 : Int) ≤ (j : Int) := by omega
          have hd0 : decide (0 < j + 1) = true := decide_eq_true (by omega)
          clear hcells
          generalize hX : L[j + 1]?.getD 0 = X at *
          generalize hY : L[j]?.getD 0 = Y at *
          have hd1 : decide (X < Y) = false := decide_eq_false (by omega)
          have hd2 : ¬ X < Y := by omega
          clear hX hY hle
          by_cases he : X = M
          · have heb : (X == M) = true := by simp [he]
            rw [heb] at HS1
            clear he
            go_wp2_with fail
            go_quiet (fail)
            go_wp2_with fail
            go_quiet (fail)
            go_wp2_with fail
            go_roundw
            case rel => exact ⟨j + 1 + 1, by omega, by go_num, by rw [HS1.out]; rfl, hI1.keep (bel_drewN (Below.refl _ _) _), bel_drewN hT _⟩
            case measure => simp [intOf]; omega
          · have heb : (X == M) = false := by simpa using he
            rw [heb] at HS1
            clear he
            go_wp2_with fail
            go_quiet (fail)
            go_wp2_with fail
            go_quiet (fail)
            go_wp2_with fail
            go_roundw
            case rel => exact ⟨j + 1 + 1, by omega, by go_num, by rw [HS1.out]; simp, hI1.keep (bel_drewN (Below.refl _ _) _), bel_drewN hT _⟩
            case measure => simp [intOf]; omega
      · have hk' : k = N + 1 := by omega
        subst hk'
        go_wp2_with fail
        go_ret
        exact ⟨rfl, hT⟩
end Go.Proofs.YtcokcnpnemhdfaaDoor
