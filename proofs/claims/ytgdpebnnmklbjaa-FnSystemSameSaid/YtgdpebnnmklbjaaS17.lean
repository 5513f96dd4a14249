/- The model's SystemSame. -/
import Derived.Test.YtgdpebnnmklbjaaS16
namespace Go.Proofs.Ytgdpebnnmklbjaa
open Go.RowKit
set_option maxRecDepth 20000 in
set_option maxHeartbeats 1000000 in
theorem c_specSystemSame (s t : Option Addr) (n m c1 c2 : Nat) (zs ys : List Cl) (hn : n ≤ 1048576) (hm : m ≤ 1048576) (w : World) (hc : Cls w s n zs) (hd : Cls w t m ys) :
    Calls Try.prog 46 #[.slice s n c1, .slice t m c2] w fun e w' => e = .returned (.bool (samB zs ys)) ∧ Below w.heap.size w w' := by
  cases hs : sysB zs
  · have HA := Lib.hid (show samB zs ys = false by simp [samB, comB, hs])
    have hcon := c_specSystemIn s n c1 zs hn w hc
    rw [hs] at hcon
    go_enter Try.func46, Try.ntmps46
    go_wp2_with (go_at_call 15; refine hcon.mono ?_; rintro e w2 ⟨rfl, hb⟩)
    go_ret
    exact ⟨rb HA.out.symm, hb⟩
  · have hcon := c_specSystemIn s n c1 zs hn w hc
    rw [hs] at hcon
    cases ht : sysB ys
    · have HA := Lib.hid (show samB zs ys = false by simp [samB, comB, ht])
      go_enter Try.func46, Try.ntmps46
      go_wp2_with fail
      refine hcon.mono ?_
      rintro e w2 ⟨rfl, hb⟩
      have hd2 := hd.keep hb
      have hcon2 := c_specSystemIn t m c2 ys hm _ hd2
      rw [ht] at hcon2
      go_wp2_with (go_at_call 15; refine hcon2.mono ?_; rintro e w3 ⟨rfl, hb3⟩)
      go_ret
      exact ⟨rb HA.out.symm, bt2 hb hb3⟩
    · obtain ⟨hl1, hl2, ha, _, _, _⟩ := sysB_facts hs
      obtain ⟨kl1, kl2, ka, _, _, _⟩ := sysB_facts ht
      have hlen := hc.len
      have klen := hd.len
      have hpb := per_both hs ht
      obtain ⟨i0, hi, hz0, hz1, hz2⟩ := info_parts infoC
      obtain ⟨M, hM⟩ : ∃ M : Nat, perI (zs ++ ys) = (M : Int) := by
        rw [hpb]
        cases hB : comB zs ys
        · exact ⟨0, rfl⟩
        · exact ⟨(comI zs ys).toNat, by have := (com_bd hB).2.2.1; simp [selI]; omega⟩
      have HM := Lib.hid hM
      have hM2 : M ≤ 1000 := by
        rw [hpb] at hM
        cases hB : comB zs ys
        · rw [hB] at hM; simp [selI] at hM; omega
        · rw [hB] at hM; have := (com_bd hB).2.2.2; simp [selI] at hM; omega
      have HE := Lib.hid (show samB zs ys = (decide (0 < M) && (holK zs M == holK ys M)) by
        rw [hpb] at hM
        cases hB : comB zs ys
        · rw [hB] at hM; simp [selI] at hM
          obtain rfl : M = 0 := by omega
          simp [samB, hB]
        · rw [hB] at hM; have := (com_bd hB).2.2.1; simp [selI] at hM
          have e : (comI zs ys).toNat = M := by omega
          have e2 : 0 < M := by omega
          simp [samB, hB, e, e2])
      have HAA := Lib.hid (allB_app ha ka)
      have HA := Lib.hid ha
      have KA := Lib.hid ka
      have hn8 : n ≤ 8 := by omega
      have hm8 : m ≤ 8 := by omega
      have hn1 : 1 ≤ n := by omega
      have hm1 : 1 ≤ m := by omega
      have HL := Lib.hid hlen
      have KL := Lib.hid klen
      have HO1 := Lib.hid (cells2_oc zs)
      have HO2 := Lib.hid (cells2_oc ys)
      have HN1 := Lib.hid (show (cells2 zs).length = n * 2 by rw [cells2_length, hlen])
      have HN2 := Lib.hid (show (cells2 ys).length = m * 2 by rw [cells2_length, klen])
      rcases hc.lies with h0 | ⟨b1, o1, rfl, hb1, _⟩
      · omega
      rcases hd.lies with h0 | ⟨b2, o2, rfl, hb2, _⟩
      · omega
      clear hM hpb ha ka hl1 hl2 kl1 kl2 hlen klen
      go_enter Try.func46, Try.ntmps46
      go_wp2_with fail
      refine hcon.mono ?_
      rintro e w2 ⟨rfl, hb⟩
      have hd2 := hd.keep hb
      have hc2 := hc.keep hb
      have hcon2 := c_specSystemIn _ m c2 ys hm _ hd2
      rw [ht] at hcon2
      go_wp2_with fail
      refine hcon2.mono ?_
      rintro e w3 ⟨rfl, hb3⟩
      have hB3 := bt2 hb hb3
      have hc3 := hc2.keep hb3
      have hd3 := hd2.keep hb3
      have hO4 : (w3.alloc (.cells #[] 34)).ownsRow w3.heap.size 34 2 (.slice (some ⟨w3.heap.size, 0, none⟩) 0 0) 0 [] := World.ownsRow_lit w3 #[] 0 (Nat.le_refl _) (by unfold maxLen; omega) rfl
      have hB4 := ba hB3 (.cells #[] 34)
      have hc4 := hc3.keep (ba (Below.refl _ _) (.cells #[] 34))
      have hd4 := hd3.keep (ba (Below.refl _ _) (.cells #[] 34))
      have hs4 : w3.heap.size ≤ (w3.alloc (.cells #[] 34)).heap.size := by simp
      have HC1 := Lib.hid (cls_at hc4 (by omega))
      have hne2 : w3.heap.size ≠ b2 := by have := hB3.size; omega
      have hs3 := hB3.size
      have hz : ∀ j, some w3.heap.size = some j → w.heap.size ≤ j := fun j hj => by cases hj; exact hs3
      go_wp2_with (first
        | (at_builtin; refine wpList_append_own _ rfl _ _ 23 rfl w3.heap.size 34 i0 (.agg #[.int .i64 0, .int .i64 0]) 2 16 Try.underlying23 hi hz0 hz1 hz2 rfl (by decide) (.slice (some ⟨w3.heap.size, 0, none⟩) 0 0) 0 [] rfl hO4 ⟨b1, o1, none⟩ n c1 (cells2 zs) rfl HN1.out HC1.out HO1.out (by unfold maxLen; omega) (by omega) hs4 ?_; intro v5 w5 hown5 hgrow5 _; have hd5 : Cls w5 (some ⟨b2, o2, none⟩) m ys := hd4.other hgrow5 hne2; have HC2 := Lib.hid (cls_at hd5 (by omega)); have hB5 : Below w.heap.size w w5 := hB4.grown hgrow5 (Nat.le_trans hs3 hs4) hz; have hs5 : w3.heap.size ≤ w5.heap.size := Nat.le_trans hs4 hgrow5.size; have hl5 := fun g e => (hown5.lt g e).1)
        | (at_builtin; refine wpList_append_own _ rfl _ _ 23 rfl w3.heap.size 34 i0 (.agg #[.int .i64 0, .int .i64 0]) 2 16 Try.underlying23 hi hz0 hz1 hz2 rfl (by decide) v5 (0 + n) ([] ++ cells2 zs) rfl hown5 ⟨b2, o2, none⟩ m c2 (cells2 ys) rfl HN2.out HC2.out HO2.out (by unfold maxLen; omega) (by omega) hs5 ?_; intro v7 w7 hown7 hgrow7 _)
        | fail)
      have hB7 : Below w.heap.size w w7 := hB5.grown hgrow7 hB5.size (fun j e => Nat.le_trans hs3 (hl5 j e))
      have hO7 : OwnC w7 w3.heap.size 34 v7 (zs ++ ys) := by
        unfold OwnC
        rw [List.length_append, HL.out, KL.out, cells2_append]
        simpa using hown7
      obtain ⟨s7, cap7, rfl, hC7, _⟩ := hO7.spread
      have hlp := c_l2Period s7 (zs ++ ys).length cap7 (zs ++ ys) (by rw [List.length_append, HL.out, KL.out]; omega) HAA.out _ hC7
      rw [HM.out] at hlp
      clear hown5 hown7 hgrow5 hgrow7 hO4 hO7 hC7
      refine hlp.mono ?_
      rintro e w8 ⟨nq, rfl, rfl⟩
      have hB8 := bel_drewN hB7 nq
      generalize w7.drewN nq = w8 at *
      clear hlp hB7 hB5 hB4
      go_wp2_with fail
      go_loopw [6] (fun i wr => ∃ k : Nat, k ≤ M ∧ i = .int .i64 k ∧ (∀ j : Nat, j < k → Hid ((cntN zs j == 0) = (cntN ys j == 0))) ∧ Below w.heap.size w wr) (fun i _ => M - (intOf i).toNat)
      case atStart => exact ⟨0, Nat.zero_le _, rfl, fun j hj => by omega, hB8⟩
      case round =>
        obtain ⟨k, hk, rfl, hv, hB⟩ := hrel
        have HV := Lib.hid hv
        clear hv
        have hcr := hc.keep hB
        have hdr := hd.keep hB
        by_cases hlt : k < M
        · cases he : (cntN zs k == 0)
          · cases hf : (cntN ys k == 0)
            · have HK := Lib.hid (show ∀ j : Nat, j < k + 1 → Hid ((cntN zs j == 0) = (cntN ys j == 0)) by
                intro j hj
                by_cases e : j < k
                · exact HV.out j e
                · have : j = k := by omega
                  subst this; exact Lib.hid (he.trans hf.symm))
              go_wp2_with fail
              refine (c_l2Count _ _ _ zs _ hn HA.out _ hcr).mono ?_
              rintro e w5 ⟨rfl, hb5⟩
              have hdr5 := hdr.keep hb5
              go_wp2_with fail
              refine (c_l2Count _ _ _ ys _ hm KA.out _ hdr5).mono ?_
              rintro e w6 ⟨rfl, hb6⟩
              go_wp2_with fail
              go_roundw
              case rel => exact ⟨k + 1, by omega, by go_num, HK.out, bt2 (bt2 hB hb5) hb6⟩
              case measure => simp [intOf]; omega
            · have HF := Lib.hid (show samB zs ys = false by
                rw [HE.out]
                have := holK_differ (zs := zs) (ys := ys) hlt (by rw [he, hf]; simp)
                rw [show (holK zs M == holK ys M) = false from by simpa using this]
                simp)
              go_wp2_with fail
              refine (c_l2Count _ _ _ zs _ hn HA.out _ hcr).mono ?_
              rintro e w5 ⟨rfl, hb5⟩
              have hdr5 := hdr.keep hb5
              go_wp2_with fail
              refine (c_l2Count _ _ _ ys _ hm KA.out _ hdr5).mono ?_
              rintro e w6 ⟨rfl, hb6⟩
              go_wp2_with fail
              go_ret
              exact ⟨rb HF.out.symm, bt2 (bt2 hB hb5) hb6⟩
          · cases hf : (cntN ys k == 0)
            · have HF := Lib.hid (show samB zs ys = false by
                rw [HE.out]
                have := holK_differ (zs := zs) (ys := ys) hlt (by rw [he, hf]; simp)
                rw [show (holK zs M == holK ys M) = false from by simpa using this]
                simp)
              go_wp2_with fail
              refine (c_l2Count _ _ _ zs _ hn HA.out _ hcr).mono ?_
              rintro e w5 ⟨rfl, hb5⟩
              have hdr5 := hdr.keep hb5
              go_wp2_with fail
              refine (c_l2Count _ _ _ ys _ hm KA.out _ hdr5).mono ?_
              rintro e w6 ⟨rfl, hb6⟩
              go_wp2_with fail
              go_ret
              exact ⟨rb HF.out.symm, bt2 (bt2 hB hb5) hb6⟩
            · have HK := Lib.hid (show ∀ j : Nat, j < k + 1 → Hid ((cntN zs j == 0) = (cntN ys j == 0)) by
                intro j hj
                by_cases e : j < k
                · exact HV.out j e
                · have : j = k := by omega
                  subst this; exact Lib.hid (he.trans hf.symm))
              go_wp2_with fail
              refine (c_l2Count _ _ _ zs _ hn HA.out _ hcr).mono ?_
              rintro e w5 ⟨rfl, hb5⟩
              have hdr5 := hdr.keep hb5
              go_wp2_with fail
              refine (c_l2Count _ _ _ ys _ hm KA.out _ hdr5).mono ?_
              rintro e w6 ⟨rfl, hb6⟩
              go_wp2_with fail
              go_roundw
              case rel => exact ⟨k + 1, by omega, by go_num, HK.out, bt2 (bt2 hB hb5) hb6⟩
              case measure => simp [intOf]; omega
        · have hk' : k = M := by omega
          subst hk'
          have HF := Lib.hid (show samB zs ys = decide (0 < (k : Int)) by
            rw [HE.out, holK_same (fun j hj => (HV.out j hj).out)]
            simp only [beq_self_eq_true, Bool.and_true]
            exact decide_eq_decide.2 (by omega))
          go_wp2_with fail
          go_ret
          refine ⟨rb ?_, hB⟩
          rw [HF.out]
          exact decide_eq_decide.2 (by omega)
end Go.Proofs.Ytgdpebnnmklbjaa
