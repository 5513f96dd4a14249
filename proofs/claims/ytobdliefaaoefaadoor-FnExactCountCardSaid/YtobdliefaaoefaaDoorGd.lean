/- Chapter 4, the model: l4Grown, ExactCount. -/
import Derived.Test.YtobdliefaaoefaaDoorGa
import Derived.Test.YtobdliefaaoefaaDoorS51
import Derived.Test.YtobdliefaaoefaaDoorS42
import Derived.Maps.AppendAt
import Derived.RangeFuncBox
namespace Go.Proofs.YtobdliefaaoefaaDoor
open Go.RowKit
theorem eqC_comm (a b : List Cl) : eqC a b = eqC b a := by
  unfold eqC
  by_cases h : a = b
  · subst h; rfl
  · rw [decide_eq_false h, decide_eq_false (fun e => h e.symm)]
theorem hasL_take {out : List (List Cl)} {t : List Cl} {j : Nat} (h : j < out.length) : hasL (out.take (j + 1)) t = (hasL (out.take j) t || eqC (out[j]?.getD []) t) := by
  unfold hasL
  rw [List.take_succ_eq_append_getElem h, List.any_append, List.getElem?_eq_getElem h, Option.getD_some, eqC_comm out[j] t]
  simp
/-- what one step adds -/
theorem addP_step (out : List (List Cl)) (s : List Cl) (i j : Nat) : addL out (sucP s i (j + 1)) = bif (decide (0 < (srtL (spiR s (i : Int) ((j : Int) + 2))).length) && !(hasL (addL out (sucP s i j)) (srtL (spiR s (i : Int) ((j : Int) + 2))))) then addL out (sucP s i j) ++ [srtL (spiR s (i : Int) ((j : Int) + 2))] else addL out (sucP s i j) := by
  rw [show sucP s i (j + 1) = sucP s i j ++ (bif spiB s (i : Int) ((j : Int) + 2) then [srtL (spiR s (i : Int) ((j : Int) + 2))] else []) from rfl, addL_app]
  generalize sucP s i j = P
  cases h : spiB s (i : Int) ((j : Int) + 2)
  · rw [spi_nil h]
    rfl
  · obtain ⟨_, h2⟩ := spi_len h
    have h3 : (srtL (spiR s (i : Int) ((j : Int) + 2))).length = s.length + j + 1 := by rw [srtL_len, h2]
    rw [h3, decide_eq_true (by omega), Bool.true_and]
    show addS _ _ = _
    unfold addS
    cases hasL (addL out P) (srtL (spiR s (i : Int) ((j : Int) + 2))) <;> rfl
/-- the list after i classes and j numbers of parts of the system at n -/
def stI (k n i j : Nat) : List (List Cl) := addL (stG k n) (sucI k ((stG k n)[n]?.getD []) i ++ sucP ((stG k n)[n]?.getD []) i j)
theorem stI_start (k n : Nat) : stI k n 0 0 = stG k n := rfl
theorem stI_class (k n i : Nat) : stI k n (i + 1) 0 = stI k n i (sucN k ((stG k n)[n]?.getD [])) := by
  unfold stI
  rw [show sucP ((stG k n)[n]?.getD []) (i + 1) 0 = [] from rfl, List.append_nil]
  rfl
theorem stI_end (k n : Nat) : stI k n ((stG k n)[n]?.getD []).length 0 = stG k (n + 1) := by
  unfold stI
  rw [show ∀ s i, sucP s i 0 = [] from fun _ _ => rfl, List.append_nil]
  rfl
theorem stI_step (k n i j : Nat) : stI k n i (j + 1) = bif (decide (0 < (srtL (spiR ((stG k n)[n]?.getD []) (i : Int) ((j : Int) + 2))).length) && !(hasL (stI k n i j) (srtL (spiR ((stG k n)[n]?.getD []) (i : Int) ((j : Int) + 2))))) then stI k n i j ++ [srtL (spiR ((stG k n)[n]?.getD []) (i : Int) ((j : Int) + 2))] else stI k n i j := by
  unfold stI
  rw [addL_app, addP_step, ← addL_app]
theorem stI_at {k n i j : Nat} (h : n < (stG k n).length) : (stI k n i j)[n]?.getD [] = (stG k n)[n]?.getD [] := addL_at h
theorem stI_len {k n i j : Nat} : (stG k n).length ≤ (stI k n i j).length := addL_len _ _
theorem stI_bound {k n i j : Nat} (k5 : k ≤ 5) (h54 : (stG k n).length ≤ 54) (hi : i ≤ 5) (hj : j ≤ 5) : (stI k n i j).length ≤ 1000 := by
  obtain ⟨r, h1, h2, _⟩ := addL_pre (sucI k ((stG k n)[n]?.getD []) i ++ sucP ((stG k n)[n]?.getD []) i j) (stG k n)
  unfold stI
  rw [h1, List.length_append]
  rw [List.length_append] at h2
  have h3 := sucI_length k ((stG k n)[n]?.getD []) i
  have h4 := sucP_length ((stG k n)[n]?.getD []) i j
  have h5 : i * sucN k ((stG k n)[n]?.getD []) ≤ 5 * 5 := Nat.mul_le_mul hi (by unfold sucN; omega)
  omega
theorem stI_ok {k n i j : Nat} (k1 : 1 ≤ k) (hj : j ≤ sucN k ((stG k n)[n]?.getD [])) : LenOK k (stI k n i j) := by
  refine addL_ok (stG_ok k1 n) fun z hz => ?_
  rcases List.mem_append.1 hz with hz | hz
  · exact sucI_ok k _ _ z hz
  · exact sucP_ok i j hj z hz
set_option maxRecDepth 20000 in
set_option maxHeartbeats 8000000 in
theorem c_l4Grown (k : Nat) (k1 : 1 ≤ k) (k5 : k ≤ 5) (w : World) : Calls Tryd.prog 13 #[.int .i64 (k : Int)] w fun e w' => ∃ v, e = .returned v ∧ RowS w' w.heap.size v (stG k (numG k)) ∧ Below w.heap.size w w' := by
  obtain ⟨i0, hi, hz0, hz1, hz2⟩ := info_parts infoLC
  have hR0 := rowS_first w
  have hB0 := ba (ba (Below.refl w.heap.size w) (.cells #[.int .i64 0, .int .i64 1] 31)) (.cells #[.slice (some ⟨w.heap.size, 0, none⟩) 1 1] 33)
  go_enter Tryd.func13, Tryd.ntmps13
  go_wp2_with fail
  go_loopw [3, 4] (fun v nn wr => ∃ n g cap : Nat, n ≤ numG k ∧ v = .slice (some ⟨g, 0, none⟩) (stG k n).length cap ∧ nn = .int .i64 (n : Int) ∧ RowS wr w.heap.size (.slice (some ⟨g, 0, none⟩) (stG k n).length cap) (stG k n) ∧ Below w.heap.size w wr) (fun _ nn _ => 54 - (intOf nn).toNat)
  case atStart => exact ⟨0, _, 1, Nat.zero_le _, rfl, rfl, hR0, hB0⟩
  case round =>
    clear hR0 hB0
    obtain ⟨n, g, cap, hn, rfl, rfl, hR, hB⟩ := hrel
    have hNle := @numG_le k
    by_cases hlt : n < numG k
    · have hlen := stG_more k1 k5 hlt
      have hle := stG_le k1 k5 hn
      have hsl : 1 ≤ ((stG k n)[n]?.getD []).length ∧ ((stG k n)[n]?.getD []).length ≤ k := by
        rw [List.getElem?_eq_getElem hlen, Option.getD_some]
        exact stG_ok k1 n _ (List.getElem_mem hlen)
      have HStart := Lib.hid (stI_start k n)
      have HClass := Lib.hid (fun i => stI_class k n i)
      have HEnd := Lib.hid (stI_end k n)
      have HStep := Lib.hid (fun i j => stI_step k n i j)
      have HAt := Lib.hid (fun i j => @stI_at k n i j hlen)
      have HBd := Lib.hid (fun i j => @stI_bound k n i j k5 hle)
      have HOk := Lib.hid (fun i j => @stI_ok k n i j k1)
      have HLe := Lib.hid (fun i j => Nat.lt_of_lt_of_le hlen (@stI_len k n i j))
      have HN := Lib.hid (show sucN k ((stG k n)[n]?.getD []) = k - ((stG k n)[n]?.getD []).length from rfl)
      have hl2 : (n : Int) < ((stG k n).length : Int) := by omega
      have HR := Lib.hid hR
      rw [← HStart.out] at hR
      generalize (stG k n)[n]?.getD [] = z at *
      go_wp2_with fail
      go_loopw [3, 5] (fun v ii wr => ∃ i g2 cap2 : Nat, i ≤ z.length ∧ v = .slice (some ⟨g2, 0, none⟩) (stI k n i 0).length cap2 ∧ ii = .int .i64 (i : Int) ∧ RowS wr w.heap.size (.slice (some ⟨g2, 0, none⟩) (stI k n i 0).length cap2) (stI k n i 0) ∧ Below w.heap.size w wr) (fun _ ii _ => 5 - (intOf ii).toNat)
      case atStart => exact ⟨0, g, cap, Nat.zero_le _, by rw [HStart.out], rfl, hR, hB⟩
      case round =>
        clear hR hB HR
        obtain ⟨i, g2, cap2, hi2, rfl, rfl, hR2, hB2⟩ := hrel
        obtain ⟨si, ci, hcell, _⟩ := hR2.at rfl n (HLe.out i 0)
        rw [HAt.out i 0] at hcell
        have hle2 := HLe.out i 0
        have hle2z : (n : Int) < ((stI k n i 0).length : Int) := by omega
        have HR2 := Lib.hid hR2
        clear hR2
        by_cases hil : i < z.length
        · generalize hX : stI k n i 0 = X at *
          have HX := Lib.hid hX
          clear hX
          go_wp2_with fail
          go_loopw [3, 6] (fun v pp wr => ∃ j g3 cap3 : Nat, j ≤ k - z.length ∧ v = .slice (some ⟨g3, 0, none⟩) (stI k n i j).length cap3 ∧ pp = .int .i64 ((j : Int) + 2) ∧ RowS wr w.heap.size (.slice (some ⟨g3, 0, none⟩) (stI k n i j).length cap3) (stI k n i j) ∧ Below w.heap.size w wr) (fun _ pp _ => 10 - (intOf pp).toNat)
          case atStart => exact ⟨0, g2, cap2, Nat.zero_le _, by rw [HX.out], rfl, by rw [HX.out]; exact HR2.out, hB2⟩
          case round =>
            clear hcell HR2 hB2 hle2 hle2z
            obtain ⟨j, g3, cap3, hj, rfl, rfl, hR3, hB3⟩ := hrel
            obtain ⟨si, ci, hcell, _, hCz, hci1, hci2⟩ := hR3.at rfl n (HLe.out i j)
            rw [HAt.out i j] at hcell hCz hci1
            have hle3 := HLe.out i j
            have hle3z : (n : Int) < ((stI k n i j).length : Int) := by omega
            by_cases hjl : j < k - z.length
            · have hd : (z.length : Int) + ((j : Int) + 2) - 1 ≤ (k : Int) := by omega
              have hsp := c_specExactSplit si z.length ci z (i : Int) ((j : Int) + 2) (by omega) hci1 hci2 wr hCz
              have HNx := Lib.hid (HStep.out i j)
              have hbd := HBd.out i j (by omega) (by omega)
              have hok := Lib.hid (HOk.out i j (by rw [HN.out]; omega))
              have hZl : (spiR z (i : Int) ((j : Int) + 2)).length ≤ 1000 := by
                cases hb : spiB z (i : Int) ((j : Int) + 2)
                · unfold spiR; rw [hb]; simp
                · rw [(spi_len hb).2]; omega
              have hTl := srtL_len (spiR z (i : Int) ((j : Int) + 2))
              generalize stI k n i j = X2 at *
              generalize spiR z (i : Int) ((j : Int) + 2) = Z at *
              go_wp2_with (first
                | (go_at_call 21; refine hsp.mono ?_; rintro e w2 ⟨v2, rfl, hO2, hB4⟩; obtain ⟨so, co, rfl, hC2, _⟩ := ownC_all hO2)
                | (go_at_call 22; refine (c_l4Sorted so _ co Z hZl _ hC2).mono ?_; rintro e w3 ⟨v3, rfl, hO3, hB5⟩; obtain ⟨s3, c3, rfl, hC3, _⟩ := ownC_all hO3)
                | fail)
              have hB35 := bt2 hB4 hB5
              have hR5 := hR3.keep hB35
              have hB33 := bt2 hB3 hB35
              have hbase3 : w.heap.size ≤ w3.heap.size := hB33.size
              have hbw : w.heap.size ≤ w2.heap.size := Nat.le_trans hB3.size hB4.size
              have HT3 := Lib.hid hO3
              have HC3 := Lib.hid hC3
              have HTl := Lib.hid hTl
              have hZ1 : Z.length ≤ 1000000 := by omega
              clear hO2 hC2 hB4 hB5 hR3 hcell hCz hO3 hsp hC3
              rw [hTl] at *
              obtain ⟨F0, hF0⟩ : ∃ F0, decide (0 < Z.length) = F0 := ⟨_, rfl⟩
              rw [hF0] at HNx ⊢
              clear hF0 hTl
              go_loopw [9, 10] (fun ff jj wq => ∃ (j4 : Nat) (b : Bool), j4 ≤ X2.length ∧ ff = .bool b ∧ jj = .int .i64 (j4 : Int) ∧ Hid (b = (F0 && !(hasL (X2.take j4) (srtL Z)))) ∧ Below w3.heap.size w3 wq) (fun _ jj _ => X2.length - (intOf jj).toNat)
              case atStart => exact ⟨0, F0, Nat.zero_le _, rfl, rfl, Lib.hid (by simp [hasL]), Below.refl _ _⟩
              case round =>
                obtain ⟨j4, b, hj4, rfl, rfl, hb, hBq⟩ := hrel
                by_cases hl4 : j4 < X2.length
                · have HH := Lib.hid (hasL_take (out := X2) (t := srtL Z) hl4)
                  cases b
                  · have hb2 : Hid (false = (F0 && !(hasL (X2.take (j4 + 1)) (srtL Z)))) := Lib.hid (by
                      have h1 := hb.out
                      rw [HH.out]
                      cases F0
                      · rfl
                      · rw [Bool.true_and] at h1 ⊢
                        rw [Bool.not_or, ← h1]
                        rfl)
                    go_wp2_with fail
                    go_roundw
                    case rel => exact ⟨j4 + 1, false, by omega, rfl, by go_num, hb2, hBq⟩
                    case measure => simp [intOf]; omega
                  · obtain ⟨s4, c4, hcell4, _, hC4, _⟩ := (hR5.keep hBq).at rfl j4 hl4
                    have hXl : (X2[j4]?.getD []).length ≤ 1000000 := by
                      rw [List.getElem?_eq_getElem hl4, Option.getD_some]
                      have := (hok.out _ (List.getElem_mem hl4)).2
                      omega
                    have hl4z : (j4 : Int) < (X2.length : Int) := by omega
                    have hcon := c_l4Equal s4 s3 _ Z.length c4 c3 (X2[j4]?.getD []) (srtL Z) hXl hZ1 wr hC4 (HC3.out.keep hBq)
                    obtain ⟨q, hq⟩ : ∃ q, eqC (X2[j4]?.getD []) (srtL Z) = q := ⟨_, rfl⟩
                    have hb2 : Hid ((!q) = (F0 && !(hasL (X2.take (j4 + 1)) (srtL Z)))) := Lib.hid (by
                      have h1 := hb.out
                      rw [HH.out, hq, Bool.not_or, ← Bool.and_assoc, ← h1, Bool.true_and])
                    rw [hq] at hcon
                    clear hq
                    generalize X2[j4]?.getD [] = y at *
                    go_wp2_with (go_at_call 23; refine (hcon).mono ?_; rintro e w1 ⟨rfl, hb⟩)
                    go_roundw
                    case rel => exact ⟨j4 + 1, !q, by omega, rfl, by go_num, hb2, bt2 hBq hb⟩
                    case measure => simp [intOf]; omega
                · have hj4X : j4 = X2.length := by omega
                  subst hj4X
                  rw [List.take_length] at hb
                  have hRq := hR5.keep hBq
                  have hBqw := hB33.trans (hBq.mono hbase3)
                  have hOq := (HT3.out.keep hBq).low hbw
                  cases b
                  · have HE := Lib.hid (show stI k n i (j + 1) = X2 by rw [HNx.out, ← hb.out]; rfl)
                    go_wp2_with fail
                    refine ⟨⟨j + 1, g3, cap3, by omega, by rw [HE.out], by go_num, by rw [HE.out]; exact hRq, hBqw⟩, ?_⟩
                    simp [intOf]
                    omega
                  · have HE := Lib.hid (show stI k n i (j + 1) = X2 ++ [srtL Z] by rw [HNx.out, ← hb.out]; rfl)
                    obtain ⟨hs, hOh, hHh⟩ := hRq
                    have HHl := Lib.hid hHh.1
                    go_wp2_with (first
                      | (at_builtin; refine wpList_append_own_at _ rfl _ _ 34 rfl w.heap.size 33 i0 (.slice none 0 0) 1 24 Tryd.underlying34 hi hz0 hz1 hz2 rfl (by decide) _ X2.length _ rfl (by have h := hOh.keep (ba (Below.refl _ _) (.cells #[.slice s3 Z.length c3] 33)); unfold OwnV at h; rw [HHl.out] at h; exact h) ⟨wr.heap.size, 0, none⟩ 1 1 [.slice s3 Z.length c3] rfl rfl (one_newS wr _ _) (by simp [Value.oneCell']) (by unfold maxLen; omega) (by omega) (by have := hBqw.size; simp; omega) ?_; intro v7 w7 hown7 hgrow7 _ hat7; obtain ⟨g7, c7, rfl⟩ := ownsRow_succ hown7)
                      | fail)
                    have hBa := ba (Below.refl wr.heap.size wr) (.cells #[.slice s3 Z.length c3] 33)
                    have hHl : hs.length = X2.length := HHl.out
                    rw [← hHl] at hown7
                    have hOq2 : OwnC (wr.alloc (.cells #[.slice s3 Z.length c3] 33)) w.heap.size 31 (.slice s3 Z.length c3) (srtL Z) := by
                      have h := hOq.keep hBa
                      exact h
                    have hR7 := RowS.appended (hOh.keep hBa) (hHh.keep hBa) hOq2 hown7 hgrow7
                    have hB7 := Below.grown (hBqw.trans (hBa.mono hBqw.size)) hgrow7 (by have := hBqw.size; have := hBa.size; omega) (fun g e => (World.ownsRow.lt hOh g e).1)
                    rw [hHl] at hR7
                    refine ⟨⟨j + 1, g7, c7, by omega, by rw [HE.out, List.length_append]; rfl, by go_num, by rw [HE.out, List.length_append]; exact hR7, hB7⟩, ?_⟩
                    simp [intOf]
                    omega
            · have hd : ¬ (z.length : Int) + ((j : Int) + 2) - 1 ≤ (k : Int) := by omega
              have HE := Lib.hid (show stI k n (i + 1) 0 = stI k n i j by rw [HClass.out, HN.out, show j = k - z.length by omega])
              go_wp2_with fail
              refine ⟨⟨i + 1, g3, cap3, by omega, by rw [HE.out], rfl, by rw [HE.out]; exact hR3, hB3⟩, ?_⟩
              simp [intOf]
              omega
        · have hiz : i = z.length := by omega
          subst hiz
          have HE := Lib.hid (HEnd.out)
          go_wp2_with fail
          refine ⟨⟨n + 1, g2, cap2, by omega, by rw [HE.out], rfl, by rw [← HE.out]; exact HR2.out, hB2⟩, ?_⟩
          simp [intOf]
          omega
    · have hnN : n = numG k := by omega
      subst hnN
      have hlen : ¬ (numG k : Int) < ((stG k (numG k)).length : Int) := by rw [stG_num k1 k5]; omega
      go_wp2_with fail
      go_ret
      exact ⟨_, rfl, hR, hB⟩
set_option maxRecDepth 20000 in
set_option maxHeartbeats 2000000 in
theorem c_specCountK (k : Nat) (k1 : 1 ≤ k) (k5 : k ≤ 5) (w : World) : Calls Tryd.prog 6 #[.int .i64 (k : Int)] w fun e w' => e = .returned (.tuple #[.int .i64 (cnnG k : Int), .bool true]) ∧ Below w.heap.size w w' := by
  have hl : l6B (k : Int) 1 5 = true := by unfold l6B; simp; omega
  have HNum := Lib.hid (stG_num k1 k5)
  have hN := @numG_le k
  have HV := Lib.hid (show cnnK k (stG k (numG k)) (numG k) = cnnG k from rfl)
  go_enter Tryd.func6, Tryd.ntmps6
  go_wp2_with (first
    | (go_at_call 12; refine (c_l6In _ _ _ _).mono ?_; rintro e w1 ⟨rfl, rfl⟩)
    | (go_at_call 13; refine (c_l4Grown k k1 k5 _).mono ?_; rintro e w1 ⟨v1, rfl, hR, hB⟩; obtain ⟨s1, c1, rfl, hsh⟩ := hR.shape))
  have HNr := Lib.hid (show (stG k (numG k)).length = numG k from HNum.out)
  have hK0 : cnnK k (stG k (numG k)) 0 = 0 := by simp [cnnK]
  have HK := Lib.hid (fun j => @cnnK_succ k (stG k (numG k)) j)
  have HKl := Lib.hid (fun j => cnnK_le k (stG k (numG k)) j)
  have hlen54 : (stG k (numG k)).length ≤ 54 := by rw [HNr.out]; exact hN
  generalize numG k = NN at *
  generalize stG k NN = X at *
  go_loopw [5, 6] (fun cc ii wr => ∃ j : Nat, j ≤ X.length ∧ cc = .int .i64 (cnnK k X j : Int) ∧ ii = .int .i64 (j : Int) ∧ wr = w1) (fun _ ii _ => X.length - (intOf ii).toNat)
  case atStart => exact ⟨0, Nat.zero_le _, by rw [hK0]; rfl, rfl, rfl⟩
  case round =>
    obtain ⟨j, hj, rfl, rfl, rfl⟩ := hrel
    by_cases hlt : j < X.length
    · obtain ⟨g, rfl⟩ : ∃ g, s1 = some ⟨g, 0, none⟩ := by
        rcases hsh with h0 | ⟨g, h, _⟩
        · omega
        · exact ⟨g, h⟩
      obtain ⟨sj, cj, hcell, _⟩ := hR.at rfl j hlt
      have hst := HK.out j hlt
      have hle := HKl.out j
      have hlz : (j : Int) < (X.length : Int) := by omega
      generalize X[j]?.getD [] = z at *
      generalize hC : cnnK k X j = C at *
      generalize hC1 : cnnK k X (j + 1) = C1 at *
      have HC1 := Lib.hid hC1
      clear hC hC1 hK0
      cases hq : (z.length == k)
      · rw [hq, cond_false] at hst
        have hz1 : ¬ (z.length : Int) = (k : Int) := by have : ¬ z.length = k := by simpa using hq
                                                        omega
        have hz2 : ((z.length : Int) == (k : Int)) = false := by rw [beq_eq_false_iff_ne]; exact hz1
        have HST := Lib.hid hst
        clear hst hq
        go_wp2_with fail
        refine ⟨⟨j + 1, by omega, by rw [HC1.out, HST.out]; rfl, rfl, trivial⟩, ?_⟩
        simp [intOf]
        omega
      · rw [hq, cond_true] at hst
        have hz1 : z.length = k := by simpa using hq
        have HST := Lib.hid hst
        rw [hz1] at hcell
        clear hst hq hz1
        go_wp2_with fail
        refine ⟨⟨j + 1, by omega, by rw [HC1.out, HST.out]; rfl, rfl, trivial⟩, ?_⟩
        simp [intOf]
        omega
    · have hjX : j = X.length := by omega
      have HV2 := Lib.hid (show cnnK k X j = cnnG k by rw [hjX, HNr.out, HV.out])
      have hlz : ¬ (j : Int) < (X.length : Int) := by omega
      clear hjX
      go_wp2_with fail
      go_ret2
      exact ⟨by rw [HV2.out]; rfl, hB⟩
theorem c_specExactCount (k : Int) (w : World) : Calls Tryd.prog 6 #[.int .i64 k] w fun e w' => e = .returned (.tuple #[.int .i64 (cnnR k), .bool (decide (1 ≤ k ∧ k ≤ 5))]) ∧ Below w.heap.size w w' := by
  by_cases h : 1 ≤ k ∧ k ≤ 5
  · obtain ⟨K, rfl⟩ : ∃ K : Nat, k = (K : Int) := ⟨k.toNat, by omega⟩
    have e1 : cnnR (K : Int) = (cnnG K : Int) := by unfold cnnR; rw [decide_eq_true h]; rfl
    rw [e1, decide_eq_true h]
    exact c_specCountK K (by omega) (by omega) w
  · have e1 : cnnR k = 0 := by unfold cnnR; rw [decide_eq_false h]; rfl
    have hl : l6B k 1 5 = false := by unfold l6B; simp; omega
    rw [e1, decide_eq_false h]
    clear e1 h
    go_enter Tryd.func6, Tryd.ntmps6
    go_wp2_with (go_at_call 12; refine (c_l6In _ _ _ _).mono ?_; rintro e w1 ⟨rfl, rfl⟩)
    go_ret2
    exact ⟨rfl, Below.refl _ _⟩
end Go.Proofs.YtobdliefaaoefaaDoor
