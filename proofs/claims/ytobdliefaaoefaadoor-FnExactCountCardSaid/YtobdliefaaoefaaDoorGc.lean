/- Chapter 4, the program: splitsOf, ExactCount. -/
import Derived.Test.YtobdliefaaoefaaDoorGb
import Derived.Test.YtobdliefaaoefaaDoorS41
import Derived.Test.YtobdliefaaoefaaDoorWh
import Derived.Deep.Cut
import Derived.Deep.CutRange
import Derived.Maps.AppendAt
namespace Go.Proofs.YtobdliefaaoefaaDoor
open Go.RowKit
set_option maxRecDepth 20000 in
set_option maxHeartbeats 4000000 in
theorem c_splitsOf (s : Option Addr) (n cap : Nat) (zs : List Cl) (k : Nat) (h1 : 1 ≤ n) (hk : n ≤ k) (k5 : k ≤ 5) (hcap : n ≤ cap) (hcb : cap ≤ 9223372036854775807) (w : World) (hgE : LaidE w) (hc : Cls w s n zs) :
    Calls Tryd.prog 10 #[.slice s n cap, .int .i64 (k : Int)] w fun e w' => ∃ v, e = .returned v ∧ RowS w' w.heap.size v (sucI k zs zs.length) ∧ Below w.heap.size w w' := by
  have hlen := hc.len
  obtain ⟨i0, hi, hz0, hz1, hz2⟩ := info_parts infoLC
  have HN := Lib.hid (show sucN k zs = k - n by unfold sucN; rw [hlen])
  have HL := Lib.hid hlen
  have HI := Lib.hid (fun i => show sucI k zs (i + 1) = sucI k zs i ++ sucP zs i (sucN k zs) from rfl)
  have HP := Lib.hid (fun i j => show sucP zs i (j + 1) = sucP zs i j ++ (bif spiB zs (i : Int) ((j : Int) + 2) then [srtL (spiR zs (i : Int) ((j : Int) + 2))] else []) from rfl)
  have HSL := Lib.hid (fun i j => @spi_len zs i j)
  have HLI := Lib.hid (fun i => sucI_length k zs i)
  have HLP := Lib.hid (fun i j => sucP_length zs i j)
  clear hlen
  go_enter Tryd.func10, Tryd.ntmps10
  go_wp2_with fail
  go_loopw [5, 12] (fun v ii wr => ∃ i : Nat, i ≤ n ∧ ii = .int .i64 (i : Int) ∧ RowS wr w.heap.size v (sucI k zs i) ∧ Below w.heap.size w wr) (fun _ ii _ => n - (intOf ii).toNat)
  case atStart => exact ⟨0, Nat.zero_le _, rfl, RowS.nil _ _, Below.refl _ _⟩
  case round =>
    obtain ⟨i, hi', rfl, hR, hB⟩ := hrel
    by_cases hlt : i < n
    · go_wp2_with fail
      go_loopw [5, 7] (fun v pp wr => ∃ j : Nat, j ≤ k - n ∧ pp = .int .i64 ((j : Int) + 2) ∧ RowS wr w.heap.size v (sucI k zs i ++ sucP zs i j) ∧ Below w.heap.size w wr) (fun _ pp _ => k + 2 - (intOf pp).toNat)
      case atStart => exact ⟨0, Nat.zero_le _, rfl, by rw [show sucI k zs i ++ sucP zs i 0 = sucI k zs i by simp [sucP]]; exact hR, hB⟩
      case round =>
        clear hR hB
        obtain ⟨j, hj, rfl, hR, hB⟩ := hrel
        by_cases hjl : j < k - n
        · have hcon := c_implExactSplit s n cap zs (i : Int) ((j : Int) + 2) (by omega) hcap hcb wr (hgE.keep hB) (hc.keep hB)
          have hd : ((n : Int) - 1 + ((j : Int) + 2)) ≤ (k : Int) := by omega
          have HPj := Lib.hid (HP.out i j)
          have HSj := Lib.hid (HSL.out i j)
          cases hsB : spiB zs (i : Int) ((j : Int) + 2)
          · have HE := Lib.hid (show sucI k zs i ++ sucP zs i (j + 1) = sucI k zs i ++ sucP zs i j by rw [HPj.out, hsB, cond_false, List.append_nil])
            rw [hsB] at hcon
            clear hsB
            go_wp2_with (go_at_call 15; refine hcon.mono ?_; rintro e w2 ⟨v2, rfl, hO2, hB2⟩)
            go_roundw
            case rel => exact ⟨j + 1, by omega, by go_num, by rw [HE.out]; exact hR.keep hB2, bt2 hB hB2⟩
            case measure => simp [intOf]; omega
          · obtain ⟨_, hlz⟩ := HSj.out hsB
            have HE := Lib.hid (show sucI k zs i ++ sucP zs i (j + 1) = sucI k zs i ++ sucP zs i j ++ [srtL (spiR zs (i : Int) ((j : Int) + 2))] by rw [HPj.out, hsB, cond_true, List.append_assoc])
            rw [hsB] at hcon
            have hz5 : 0 < (spiR zs (i : Int) ((j : Int) + 2)).length ∧ (spiR zs (i : Int) ((j : Int) + 2)).length ≤ 5 := by rw [hlz, HL.out]; omega
            have HLs := Lib.hid (srtL_len (spiR zs (i : Int) ((j : Int) + 2)))
            have HLn := Lib.hid (show (sucI k zs i ++ sucP zs i j).length ≤ 1000 by
              have a1 := HLI.out i
              have a2 := HLP.out i j
              have a3 : i * sucN k zs ≤ 5 * 5 := Nat.mul_le_mul (by omega) (by rw [HN.out]; omega)
              rw [List.length_append]
              omega)
            clear hsB hlz HPj
            generalize sucI k zs i ++ sucP zs i j = L at *
            generalize spiR zs (i : Int) ((j : Int) + 2) = Z at *
            go_wp2_with (first
              | (go_at_call 15; refine hcon.mono ?_; rintro e w2 ⟨v2, rfl, hO2, hB2⟩; obtain ⟨so, co, rfl, hC2, _⟩ := ownC_all hO2)
              | (go_at_call 16; refine (c_inOrderOwn so _ co Z hz5.1 (by omega) _ hC2).mono ?_; rintro e w3 ⟨v3, rfl, hO3, hB3⟩; obtain ⟨s3, c3, rfl, hC3, _⟩ := ownC_all hO3; obtain ⟨hs, hOh, hHh⟩ := (hR.keep hB2).keep hB3; have hHl : hs.length ≤ 1000 := by rw [hHh.1]; exact HLn.out)
              | (at_builtin; refine wpList_append_own _ rfl _ _ 34 rfl w.heap.size 33 i0 (.slice none 0 0) 1 24 Tryd.underlying34 hi hz0 hz1 hz2 rfl (by decide) _ hs.length _ rfl (hOh.keep (ba (Below.refl _ _) _)) ⟨w3.heap.size, 0, none⟩ 1 1 [.slice s3 (srtL Z).length c3] rfl rfl (one_newS w3 _ _) (by simp [Value.oneCell']) (by unfold maxLen; omega) (by omega) (by have := hB.size; have := hB2.size; have := hB3.size; simp; omega) ?_; intro v7 w7 hown7 hgrow7 _)
              | fail)
            have hB13 := bt2 (bt2 hB hB2) hB3
            have hB3a := ba (Below.refl w3.heap.size w3) (.cells #[.slice s3 (srtL Z).length c3] 33)
            have hR7 := RowS.appended (hOh.keep hB3a) (hHh.keep hB3a) ((hO3.low (by have := hB.size; have := hB2.size; omega)).keep hB3a) hown7 hgrow7
            have hB7 := Below.grown (hB13.trans (hB3a.mono hB13.size)) hgrow7 (by have := hB13.size; simp; omega) (fun g e => (World.ownsRow.lt hOh g e).1)
            clear hown7 hgrow7 hB13 hB3a hO3 hO2 hOh hHh hC2 hC3
            go_roundw
            case rel => exact ⟨j + 1, by omega, by go_num, by rw [HE.out]; exact hR7, hB7⟩
            case measure => simp [intOf]; omega
        · have hjk : j = k - n := by omega
          have hd : ¬ ((n : Int) - 1 + ((j : Int) + 2)) ≤ (k : Int) := by omega
          have HE := Lib.hid (show sucI k zs (i + 1) = sucI k zs i ++ sucP zs i j by rw [HI.out, HN.out, hjk])
          clear hjk
          go_wp2_with fail
          go_roundw
          case rel => exact ⟨i + 1, by omega, by go_num, by rw [HE.out]; exact hR, hB⟩
          case measure => simp [intOf]; omega
    · have hin : i = n := by omega
      subst hin
      go_wp2_with fail
      go_ret
      exact ⟨_, rfl, by rw [HL.out]; exact hR, hB⟩
set_option maxRecDepth 20000 in
set_option maxHeartbeats 4000000 in
theorem c_implCountK (k : Nat) (k1 : 1 ≤ k) (k5 : k ≤ 5) (w : World) (hgE : LaidE w) : Calls Tryd.prog 5 #[.int .i64 (k : Int)] w fun e w' => e = .returned (.tuple #[.int .i64 (cnnG k : Int), .bool true]) ∧ Below w.heap.size w w' := by
  obtain ⟨i0, hi, hz0, hz1, hz2⟩ := info_parts infoLC
  have hd1 : ¬ (k : Int) < 1 := by omega
  have hd2 : ¬ (5 : Int) < (k : Int) := by omega
  go_enter Tryd.func5, Tryd.ntmps5
  go_wp2_with (go_at_call 9; refine (c_wholeClass _).mono ?_; rintro e w1 ⟨rfl, hB1⟩)
  have hR0 := (rowS_first w1).low hB1.size
  have hB0 := ba (ba hB1 (.cells #[.int .i64 0, .int .i64 1] 31)) (.cells #[.slice (some ⟨w1.heap.size, 0, none⟩) 1 1] 33)
  go_loopw [4, 5, 6] (fun v cc ii wr => ∃ n g cap : Nat, n ≤ numG k ∧ v = .slice (some ⟨g, 0, none⟩) (stG k n).length cap ∧ cc = .int .i64 (cnnK k (stG k n) n : Int) ∧ ii = .int .i64 (n : Int) ∧ RowS wr w.heap.size (.slice (some ⟨g, 0, none⟩) (stG k n).length cap) (stG k n) ∧ Below w.heap.size w wr) (fun _ _ ii _ => 54 - (intOf ii).toNat)
  case atStart => exact ⟨0, _, 1, Nat.zero_le _, rfl, rfl, rfl, hR0, hB0⟩
  case round =>
    clear hR0 hB0
    obtain ⟨n, g, cap, hn, rfl, rfl, rfl, hR, hB⟩ := hrel
    have hNle := @numG_le k
    by_cases hlt : n < numG k
    · have hlen := stG_more k1 k5 hlt
      have hle := stG_le k1 k5 hn
      have hcs := cnn_step hlen
      have hcle := cnnK_le k (stG k n) n
      have HOK := Lib.hid (stG_ok k1 n)
      have HPart := Lib.hid (fun j => @stG_part k n j k1 k5 hlt)
      have HNext := Lib.hid (show stG k (n + 1) = addL (stG k n) (sucI k ((stG k n)[n]?.getD []) ((stG k n)[n]?.getD []).length) from rfl)
      obtain ⟨si, ci, hcell, _, hCi, hci1, hci2⟩ := hR.at rfl n hlen
      have hsl : 1 ≤ ((stG k n)[n]?.getD []).length ∧ ((stG k n)[n]?.getD []).length ≤ k := by
        rw [List.getElem?_eq_getElem hlen, Option.getD_some]
        exact HOK.out _ (List.getElem_mem hlen)
      have HSOK := Lib.hid (sucI_ok k ((stG k n)[n]?.getD []) ((stG k n)[n]?.getD []).length)
      have HSlen := Lib.hid (show (sucI k ((stG k n)[n]?.getD []) ((stG k n)[n]?.getD []).length).length ≤ 1000 by
        have a1 := sucI_length k ((stG k n)[n]?.getD []) ((stG k n)[n]?.getD []).length
        have a3 : ((stG k n)[n]?.getD []).length * sucN k ((stG k n)[n]?.getD []) ≤ 5 * 5 := Nat.mul_le_mul (by omega) (by unfold sucN; omega)
        omega)
      have HSP := Lib.hid (fun w1 hgE1 hC1 => c_splitsOf si ((stG k n)[n]?.getD []).length ci ((stG k n)[n]?.getD []) k hsl.1 hsl.2 k5 hci1 hci2 w1 hgE1 hC1)
      obtain ⟨C1, hC1⟩ : ∃ C1, cnnK k (stG k (n + 1)) (n + 1) = C1 := ⟨_, rfl⟩
      rw [hC1] at hcs
      obtain ⟨out2, hO2⟩ : ∃ o, stG k (n + 1) = o := ⟨_, rfl⟩
      have HC1 := Lib.hid hC1
      have HO2 := Lib.hid hO2
      clear hC1 hO2
      generalize cnnK k (stG k n) n = C0 at *
      generalize stG k n = out at *
      generalize out[n]?.getD [] = z at *
      generalize sucI k z z.length = L at *
      have hlen2 : (n : Int) < (out.length : Int) := by omega
      go_upto_if 30 with fail
      go_cut [5] from 18 to 32 (fun cc wx => cc = .int .i64 (C1 : Int) ∧ wx = wr)
      case first =>
        cases hq : (z.length == k)
        · rw [hq, cond_false] at hcs
          have hz1 : ¬ (z.length : Int) = (k : Int) := by have : ¬ z.length = k := by simpa using hq
                                                          omega
          have hz2 : ((z.length : Int) == (k : Int)) = false := by rw [beq_eq_false_iff_ne]; exact hz1
          have HCS := Lib.hid hcs
          clear hcs hq
          go_wp2_with fail
          go_meet
          case rel => exact ⟨by rw [HCS.out]; rfl, rfl⟩
        · rw [hq, cond_true] at hcs
          have hz1 : z.length = k := by simpa using hq
          have HCS := Lib.hid hcs
          rw [hz1]
          clear hcs hq
          go_wp2_with fail
          go_meet
          case rel => exact ⟨by rw [HCS.out]; rfl, rfl⟩
      case rest =>
        obtain ⟨rfl, rfl⟩ := hcut
        clear hcs hcle
        go_wp2_with (go_at_call 10; refine (HSP.out _ (hgE.keep hB) hCi).mono ?_; rintro e w4 ⟨vl, rfl, hRl, hB4⟩; obtain ⟨sl, cl, rfl, hsh⟩ := hRl.shape)
        have hg0 := (hR.cases)
        have hBws := Lib.hid hB.size
        have hRs := hR.keep hB4
        have hBs := bt2 hB hB4
        have hgl : ∀ gl, sl = some ⟨gl, 0, none⟩ → L.length ≠ 0 → g ≠ gl ∧ gl < w4.heap.size := by
          intro gl e hne
          rcases hsh with h0 | ⟨g', h1, h2, h3⟩
          · exact absurd h0 hne
          · rw [h1] at e
            cases e
            refine ⟨?_, h3⟩
            rcases hg0 with ⟨h4, _⟩ | ⟨g2, c2, h4, _, h5⟩
            · cases h4
            · cases h4
              omega
        clear hg0 hR hB hcell hCi
        go_loopw [4, 40] (fun v jj wr2 => ∃ j g2 cap2 : Nat, j ≤ L.length ∧ v = .slice (some ⟨g2, 0, none⟩) (addL out (L.take j)).length cap2 ∧ jj = .int .i64 (j : Int) ∧ RowS wr2 w.heap.size (.slice (some ⟨g2, 0, none⟩) (addL out (L.take j)).length cap2) (addL out (L.take j)) ∧ RowS wr2 wc.heap.size (.slice sl L.length cl) L ∧ (∀ gl, sl = some ⟨gl, 0, none⟩ → L.length ≠ 0 → g2 ≠ gl) ∧ w4.heap.size ≤ wr2.heap.size ∧ Below w.heap.size w wr2) (fun _ jj _ => L.length - (intOf jj).toNat)
        case atStart => exact ⟨0, g, cap, Nat.zero_le _, rfl, rfl, hRs, hRl, (fun gl e hne => (hgl gl e hne).1), Nat.le_refl _, hBs⟩
        case round =>
          clear hRs hBs hRl
          obtain ⟨j, g2, cap2, hj, rfl, rfl, hR2, hRl2, hg2, hw4, hB2⟩ := hrel
          by_cases hjl : j < L.length
          · obtain ⟨gl, rfl⟩ : ∃ gl, sl = some ⟨gl, 0, none⟩ := by
              rcases hsh with h0 | ⟨g', h1, _⟩
              · omega
              · exact ⟨g', h1⟩
            obtain ⟨st, ct, hcellt, hOt, hCt, _⟩ := hRl2.at rfl j hjl
            have HAT := Lib.hid (addL_take (out := out) hjl)
            have hjb : j < 1000 := by have := HSlen.out; omega
            have hle3 := HPart.out j
            have hle4 := HPart.out (j + 1)
            have HZ : Hid (∀ z ∈ addL out (L.take j), z.length ≤ 1000000) := Lib.hid fun z hz => by
              have := addL_ok HOK.out (fun z hz => HSOK.out z (List.mem_of_mem_take hz)) z hz
              omega
            have htl : (L[j]?.getD []).length ≤ 1000000 := by
              rw [List.getElem?_eq_getElem hjl, Option.getD_some]
              have := (HSOK.out _ (List.getElem_mem hjl)).2
              omega
            have hcon := c_hasSystem g2 _ cap2 w.heap.size st _ ct (addL out (L.take j)) (L[j]?.getD []) (by omega) HZ.out htl wr hR2 rfl hCt
            generalize L[j]?.getD [] = t at *
            generalize addL out (L.take j) = o2 at *
            have hgg := hg2 gl rfl (by omega)
            have hglt := (hgl gl rfl (by omega)).2
            cases hh : hasL o2 t
            · rw [hh] at hcon
              have HE := Lib.hid (show addL out (L.take (j + 1)) = o2 ++ [t] by rw [HAT.out]; unfold addS; rw [hh]; rfl)
              rw [HE.out] at hle4
              clear hh hgl
              obtain ⟨hs, hOh, hHh⟩ := hR2
              have hHl := hHh.1
              have HHl := Lib.hid hHl
              clear hHl
              go_wp2_with (first
                | (go_at_call 11; refine hcon.mono ?_; rintro e w5 ⟨rfl, hB5⟩)
                | (at_builtin; refine wpList_append_own_at _ rfl _ _ 34 rfl w.heap.size 33 i0 (.slice none 0 0) 1 24 Tryd.underlying34 hi hz0 hz1 hz2 rfl (by decide) _ o2.length _ rfl (by have h := hOh.keep (ba hB5 (.cells #[.slice st t.length ct] 33)); unfold OwnV at h; rw [HHl.out] at h; exact h) ⟨w5.heap.size, 0, none⟩ 1 1 [.slice st t.length ct] rfl rfl (one_newS w5 _ _) (by simp [Value.oneCell']) (by unfold maxLen; omega) (by omega) (by have := hB2.size; have := hB5.size; simp; omega) ?_; intro v7 w7 hown7 hgrow7 _ hat7; obtain ⟨g7, c7, rfl⟩ := ownsRow_succ hown7)
                | fail)
              have hB5a := ba hB5 (.cells #[.slice st t.length ct] 33)
              have hHl : hs.length = o2.length := HHl.out
              rw [← hHl] at hown7
              have hR7 := RowS.appended (hOh.keep hB5a) (hHh.keep hB5a) ((hOt.low (show w.heap.size ≤ wc.heap.size from hBws.out)).keep hB5a) hown7 hgrow7
              have hO5 : OwnV (w5.alloc (.cells #[.slice st t.length ct] 33)) w.heap.size 33 (.slice (some ⟨g2, 0, none⟩) o2.length cap2) hs := hOh.keep hB5a
              have hRl7 := RowS.other (hRl2.keep hB5a) hO5 hgrow7 (.inr fun e => hgg (by cases e; rfl))
              have hB7 := Below.grown (hB2.trans (hB5a.mono hB2.size)) hgrow7 (by have := hB2.size; have := hB5a.size; omega) (fun g e => (World.ownsRow.lt hOh g e).1)
              have hg7 : g7 ≠ gl := by
                rcases hat7 with h | h
                · have h' : (Value.slice (some ⟨g7, 0, none⟩) (o2.length + 1) c7).ownBlock = (Value.slice (some ⟨g2, 0, none⟩) o2.length cap2).ownBlock := h
                  have e : g7 = g2 := by simpa [Value.ownBlock] using h'
                  omega
                · have e : g7 = (w5.alloc (.cells #[.slice st t.length ct] 33)).heap.size := by simpa [Value.ownBlock] using h
                  have := hB5a.size
                  omega
              have hw7 : w4.heap.size ≤ w7.heap.size := Nat.le_trans hw4 (Nat.le_trans hB5a.size hgrow7.size)
              clear hown7 hgrow7 hat7 hB5 hB5a hO5 hOh hHh hOt hCt hHl
              go_roundw
              case rel => exact ⟨j + 1, g7, c7, by omega, by rw [HE.out, List.length_append]; rfl, by go_num, by rw [HE.out, List.length_append]; rw [HHl.out] at hR7; exact hR7, hRl7, (fun _ e _ => by cases e; exact hg7), hw7, hB7⟩
              case measure => simp [intOf]; omega
            · rw [hh] at hcon
              have HE := Lib.hid (show addL out (L.take (j + 1)) = o2 by rw [HAT.out]; unfold addS; rw [hh]; rfl)
              clear hh hgl
              go_wp2_with (go_at_call 11; refine (hcon).mono ?_; rintro e w1 ⟨rfl, hb⟩)
              go_roundw
              case rel => exact ⟨j + 1, g2, cap2, by omega, by rw [HE.out], by go_num, by rw [HE.out]; exact hR2.keep hb, hRl2.keep hb, hg2, Nat.le_trans hw4 hb.size, bt2 hB2 hb⟩
              case measure => simp [intOf]; omega
          · have hjL : j = L.length := by omega
            subst hjL
            have HE := Lib.hid (show addL out (L.take L.length) = out2 by rw [List.take_length, ← HO2.out, HNext.out])
            rw [HE.out] at hR2 ⊢
            go_wp2_with fail
            refine ⟨⟨n + 1, g2, cap2, by omega, by rw [HO2.out], by rw [HC1.out], rfl, by rw [HO2.out]; exact hR2, hB2⟩, ?_⟩
            simp [intOf]
            omega
    · have hnN : n = numG k := by omega
      subst hnN
      have hlen : ¬ (numG k : Int) < ((stG k (numG k)).length : Int) := by rw [stG_num k1 k5]; omega
      have HV := Lib.hid (show cnnK k (stG k (numG k)) (numG k) = cnnG k from rfl)
      go_wp2_with fail
      go_ret2
      exact ⟨by rw [HV.out]; rfl, hB⟩
theorem c_implExactCount (k : Int) (w : World) (hgE : LaidE w) : Calls Tryd.prog 5 #[.int .i64 k] w fun e w' => e = .returned (.tuple #[.int .i64 (cnnR k), .bool (decide (1 ≤ k ∧ k ≤ 5))]) ∧ Below w.heap.size w w' := by
  by_cases h : 1 ≤ k ∧ k ≤ 5
  · obtain ⟨K, rfl⟩ : ∃ K : Nat, k = (K : Int) := ⟨k.toNat, by omega⟩
    have e1 : cnnR (K : Int) = (cnnG K : Int) := by unfold cnnR; rw [decide_eq_true h]; rfl
    rw [e1, decide_eq_true h]
    exact c_implCountK K (by omega) (by omega) w hgE
  · have e1 : cnnR k = 0 := by unfold cnnR; rw [decide_eq_false h]; rfl
    rw [e1, decide_eq_false h]
    clear e1
    rcases (show k < 1 ∨ (¬ k < 1 ∧ 5 < k) by omega) with h1 | ⟨h1, h2⟩
    · clear h
      go_enter Tryd.func5, Tryd.ntmps5
      go_wp2_with fail
      go_ret2
      exact ⟨rfl, Below.refl _ _⟩
    · clear h
      go_enter Tryd.func5, Tryd.ntmps5
      go_wp2_with fail
      go_ret2
      exact ⟨rfl, Below.refl _ _⟩
end Go.Proofs.YtobdliefaaoefaaDoor
