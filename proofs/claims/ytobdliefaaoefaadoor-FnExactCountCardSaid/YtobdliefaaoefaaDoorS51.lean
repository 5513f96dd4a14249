/- The model's ExactSplit. -/
import Derived.Test.YtobdliefaaoefaaDoorS49
namespace Go.Proofs.YtobdliefaaoefaaDoor
open Go.RowKit
set_option maxRecDepth 20000 in
set_option maxHeartbeats 4000000 in
theorem c_specExactSplit (s : Option Addr) (n cap : Nat) (zs : List Cl) (i k : Int) (hn : n ≤ 1048576) (hcap : n ≤ cap) (hcb : cap ≤ 9223372036854775807) (w : World) (hc : Cls w s n zs) :
    Calls Tryd.prog 21 #[.slice s n cap, .int .i64 i, .int .i64 k] w (RetC w (spiR zs i k) (spiB zs i k)) := by
  have hcon := c_specSystemIn s n cap zs hn w hc
  have hlen := hc.len
  cases hs : sysB zs
  · obtain ⟨e1, e2⟩ := spi_f0 (i := i) (k := k) hs
    rw [e1, e2]
    rw [hs] at hcon
    go_enter Tryd.func21, Tryd.ntmps21
    go_wp2_with fail
    refine hcon.mono ?_
    rintro e w2 ⟨rfl, hb⟩
    go_wp2_with fail
    go_ret2
    exact ⟨_, rfl, (own_lit0 w2).low hb.size, ba hb _⟩
  · rw [hs] at hcon
    have hwn : IntKind.i64.wrap ((n : Int) - 1) = (n : Int) - 1 := IntWalk.i64_in _ (by omega)
    by_cases hi : 0 ≤ i ∧ i < (zs.length : Int)
    · obtain ⟨h1, h2⟩ := hi
      rw [hlen] at h2
      obtain ⟨j, rfl⟩ := Int.eq_ofNat_of_zero_le h1
      have hjn : j < n := by omega
      have hl6 : l6B (j : Int) 0 ((n : Int) - 1) = true := by simp [l6B]; omega
      rcases hc.lies with h0 | ⟨b, off, rfl, hbw, hcells⟩
      · omega
      obtain ⟨x0, x1⟩ := hcells j hjn
      have HF2 := Lib.hid (fun h => spi_f2 (zs := zs) (i := j) (k := k) h)
      have HTT := Lib.hid (fun h => spi_t (k := k) hs (show j < zs.length by omega) h)
      have HLn := Lib.hid (spiL_len (k := k) (show j < zs.length by omega))
      have HSp := Lib.hid (show spiL zs j k = zs.take j ++ parL (rAt zs j) (mAt zs j) k ++ zs.drop (j + 1) from rfl)
      have hpar := fun w1 => c_specClassParts (rAt zs j) (mAt zs j) k w1
      have hple := parR_le (rAt zs j) (mAt zs j) k
      have hl8 := (sysB_facts hs).2.1
      rw [hlen] at hl8
      clear hcells
      generalize hr : rAt zs j = r at *
      generalize hm : mAt zs j = m at *
      go_enter Tryd.func21, Tryd.ntmps21
      go_wp2_with (first | (go_at_call 35; refine hcon.mono ?_; rintro e w2 ⟨rfl, hb⟩; have y0 := keepc hb x0; have y1 := keepc hb x1) | (go_at_call 12; refine (c_l6In _ _ _ _).mono ?_; rintro e w1 ⟨rfl, rfl⟩))
      refine (hpar w2).mono ?_
      rintro e w3 ⟨v3, rfl, hO3, hb3⟩
      have hB3 := bt2 hb hb3
      obtain ⟨s3, c3, rfl, hP3, _⟩ := hO3.spread
      generalize hpl : parR r m k = pl at *
      generalize hLp : pl.length = lp at *
      have hjz0 : (0 : Int) ≤ (j : Int) := by omega
      have hjz1 : (j : Int) ≤ (cap : Int) := by omega
      have hjz2 : (j : Int) ≤ (n : Int) := by omega
      have hjz : (j : Int) < (n : Int) := by omega
      have hnc : (n : Int) ≤ (cap : Int) := by omega
      have hA1 : (j : Int) + 1 ≤ (n : Int) := by omega
      have hA0 : (0 : Int) ≤ (j : Int) + 1 := by omega
      have hw : IntKind.i64.wrap ((j : Int) + 1) = (j : Int) + 1 := IntWalk.i64_in _ (by omega)
      have hAt : ((j : Int) + 1).toNat = j + 1 := by omega
      have hcap2 : j + 1 < cap ∨ cap = j + 1 := by omega
      have hc3 := hc.keep hB3
      have hFr := Lib.hid (fun W (h : Below w3.heap.size w3 W) => (hc3.keep h).front (k := j) (by omega))
      have hBk := Lib.hid (fun W (h : Below w3.heap.size w3 W) => (hc3.keep h).back (k := j + 1) (by omega))
      have hPk := Lib.hid (fun W (h : Below w3.heap.size w3 W) => hP3.keep h)
      have hO0 := own_lit0 w3
      have hlt : (zs.take j).length = j := by rw [List.length_take]; omega
      have hb30 := (ba (Below.refl w3.heap.size w3) (.cells #[] 31)).size
      clear hcon hpar y0 y1 x0 x1 hO3 hP3 hl6 hwn hc3
      go_wp2_with fail
      rcases hcap2 with hA | hA
      · have hAn : ¬ cap = j + 1 := by omega
        go_region_held3 (fun _ => True) (trivial) (first
          | (refine step_append_cls rfl (.tmp 32) (.tmp 35) rfl w3.heap.size _ [] rfl hO0 (some ⟨b, off, none⟩) j cap (zs.take j) rfl (hFr.out _ (by repeat (first | exact Below.refl _ _ | assumption | refine Below.drew ?_ | refine bel_drewN ?_ _ | refine ba ?_ _ | refine bt2 ?_ (by assumption) | refine Below.setCell ?_ (by simp <;> omega) _))) (by simp; omega) hb30 ?_; intro v5 w5 hO5 hg5; have hB5 : Below w3.heap.size w3 w5 := Below.grown (by repeat (first | exact Below.refl _ _ | assumption | refine Below.drew ?_ | refine bel_drewN ?_ _ | refine ba ?_ _ | refine bt2 ?_ (by assumption) | refine Below.setCell ?_ (by simp <;> omega) _)) hg5 hb30 (fun g e => by cases e; exact Nat.le_refl _); have hs5 := hB5.size)
          | (refine step_append_cls rfl (.tmp 36) (.tmp 37) rfl w3.heap.size v5 _ rfl hO5 s3 lp c3 pl rfl (hPk.out _ hB5) (by simp; omega) hs5 ?_; intro v7 w7 hO7 hg7; have hB7 : Below w3.heap.size w3 w7 := Below.grown hB5 hg7 hs5 (fun g e => (World.ownsRow.lt hO5 g e).1); have hs7 := hB7.size)
          | (refine step_append_cls rfl (.tmp 38) (.tmp 42) rfl w3.heap.size v7 _ rfl hO7 (some ⟨b, off + (j + 1) * 2, none⟩) (n - (j + 1)) (cap - (j + 1)) (zs.drop (j + 1)) rfl (hBk.out _ hB7) (by simp; omega) hs7 ?_; intro v9 w9 hO9 hg9; have hB9 : Below w3.heap.size w3 w9 := Below.grown hB7 hg9 hs7 (fun g e => (World.ownsRow.lt hO7 g e).1))
          | fail)
        have hBw := bt2 hB3 hB9
        have hOw := hO9.low hB3.size
        cases hp : parB r m k
        · obtain ⟨e1, e2⟩ := HF2.out hp
          obtain ⟨s9, c9, hv9, hC9, _⟩ := hOw.spread
          generalize ([] ++ zs.take j ++ pl ++ zs.drop (j + 1) : List Cl).length = LZ at *
          subst hv9
          clear hO9 hOw hC9 hB9 hFr hBk hPk HTT HLn HSp hple hlt hLp hpl hA hAn hw hAt
          go_wp2_with fail
          go_ret2
          rw [e1, e2]
          exact ⟨_, rfl, (own_lit0 w9).low hBw.size, ba hBw _⟩
        · obtain ⟨e1, e2⟩ := HTT.out hp
          have eZ : [] ++ zs.take j ++ pl ++ zs.drop (j + 1) = spiL zs j k := by rw [HSp.out, ← hpl, parR_t hp]; simp
          rw [eZ] at hOw
          have hLL := HLn.out
          have hk12 : k.toNat ≤ 12 := by rw [← hpl, parR_t hp, parL_length] at hLp; omega
          obtain ⟨s9, c9, hv9, hC9, _⟩ := hOw.spread
          clear eZ
          generalize spiL zs j k = Y at *
          generalize hYl : Y.length = LY at *
          subst hv9
          have hck := c_specSystemIn s9 LY c9 Y (by omega) w9 hC9
          clear hO9 hC9 hB9 hFr hBk hPk HF2 HTT HLn HSp hple hlt hLp hpl hA hAn hw hAt hLL hYl hk12 hlen hjz0 hjz1 hjz2 hjz hnc hA1 hA0 h1 h2 hr hm hjn hl8 hc hO0 hb30
          cases hq : sysB Y
          · rw [hq] at hck e1 e2
            go_wp2_with fail
            refine hck.mono ?_
            rintro e wa ⟨rfl, hba⟩
            have hBa := bt2 hBw hba
            go_wp2_with fail
            go_ret2
            rw [e1, e2]
            exact ⟨_, rfl, (own_lit0 wa).low hBa.size, ba hBa _⟩
          · rw [hq] at hck e1 e2
            go_wp2_with fail
            refine hck.mono ?_
            rintro e wa ⟨rfl, hba⟩
            have hBa := bt2 hBw hba
            have hOa := hOw.keep hba
            go_wp2_with fail
            go_ret2
            rw [e1, e2]
            exact ⟨_, rfl, hOa, hBa⟩
      · have hAn : cap = j + 1 := hA
        have hnn : n = j + 1 := by omega
        have hz1' : (j : Int) ≤ (j : Int) + 1 := by omega
        have hz2' : (j : Int) < (j : Int) + 1 := by omega
        have hz3 : j < j + 1 := by omega
        have hz4 : j ≤ j + 1 := by omega
        have hdr : zs.drop (j + 1) = [] := List.drop_eq_nil_of_le (by omega)
        go_region_held3 (fun _ => True) (trivial) (first
          | (refine step_append_cls rfl (.tmp 32) (.tmp 35) rfl w3.heap.size _ [] rfl hO0 (some ⟨b, off, none⟩) j (j + 1) (zs.take j) rfl (hFr.out _ (by repeat (first | exact Below.refl _ _ | assumption | refine Below.drew ?_ | refine bel_drewN ?_ _ | refine ba ?_ _ | refine bt2 ?_ (by assumption) | refine Below.setCell ?_ (by simp <;> omega) _))) (by simp; omega) hb30 ?_; intro v5 w5 hO5 hg5; have hB5 : Below w3.heap.size w3 w5 := Below.grown (by repeat (first | exact Below.refl _ _ | assumption | refine Below.drew ?_ | refine bel_drewN ?_ _ | refine ba ?_ _ | refine bt2 ?_ (by assumption) | refine Below.setCell ?_ (by simp <;> omega) _)) hg5 hb30 (fun g e => by cases e; exact Nat.le_refl _); have hs5 := hB5.size)
          | (refine step_append_cls rfl (.tmp 36) (.tmp 37) rfl w3.heap.size v5 _ rfl hO5 s3 lp c3 pl rfl (hPk.out _ hB5) (by simp; omega) hs5 ?_; intro v7 w7 hO7 hg7; have hB7 : Below w3.heap.size w3 w7 := Below.grown hB5 hg7 hs5 (fun g e => (World.ownsRow.lt hO5 g e).1); have hs7 := hB7.size)
          | (refine step_append_cls rfl (.tmp 38) (.tmp 42) rfl w3.heap.size v7 _ rfl hO7 (some ⟨b, off, none⟩) 0 0 [] rfl ⟨rfl, .inl rfl⟩ (by simp; omega) hs7 ?_; intro v9 w9 hO9 hg9; have hB9 : Below w3.heap.size w3 w9 := Below.grown hB7 hg9 hs7 (fun g e => (World.ownsRow.lt hO7 g e).1))
          | fail)
        have hBw := bt2 hB3 hB9
        have hOw := hO9.low hB3.size
        cases hp : parB r m k
        · obtain ⟨e1, e2⟩ := HF2.out hp
          obtain ⟨s9, c9, hv9, hC9, _⟩ := hOw.spread
          generalize ([] ++ zs.take j ++ pl ++ [] : List Cl).length = LZ at *
          subst hv9
          clear hO9 hOw hC9 hB9 hFr hBk hPk HTT HLn HSp hple hlt hLp hpl hA hAn hw hAt hnn hz1' hz2' hz3 hz4 hdr
          go_wp2_with fail
          go_ret2
          rw [e1, e2]
          exact ⟨_, rfl, (own_lit0 w9).low hBw.size, ba hBw _⟩
        · obtain ⟨e1, e2⟩ := HTT.out hp
          have eZ : [] ++ zs.take j ++ pl ++ [] = spiL zs j k := by rw [HSp.out, ← hpl, parR_t hp]; rw [hdr]; simp
          rw [eZ] at hOw
          have hLL := HLn.out
          have hk12 : k.toNat ≤ 12 := by rw [← hpl, parR_t hp, parL_length] at hLp; omega
          obtain ⟨s9, c9, hv9, hC9, _⟩ := hOw.spread
          clear eZ
          generalize spiL zs j k = Y at *
          generalize hYl : Y.length = LY at *
          subst hv9
          have hck := c_specSystemIn s9 LY c9 Y (by omega) w9 hC9
          clear hO9 hC9 hB9 hFr hBk hPk HF2 HTT HLn HSp hple hlt hLp hpl hA hAn hw hAt hLL hYl hk12 hlen hjz0 hjz1 hjz2 hjz hnc hA1 hA0 h1 h2 hr hm hjn hl8 hc hO0 hb30 hnn hz1' hz2' hz3 hz4 hdr
          cases hq : sysB Y
          · rw [hq] at hck e1 e2
            go_wp2_with fail
            refine hck.mono ?_
            rintro e wa ⟨rfl, hba⟩
            have hBa := bt2 hBw hba
            go_wp2_with fail
            go_ret2
            rw [e1, e2]
            exact ⟨_, rfl, (own_lit0 wa).low hBa.size, ba hBa _⟩
          · rw [hq] at hck e1 e2
            go_wp2_with fail
            refine hck.mono ?_
            rintro e wa ⟨rfl, hba⟩
            have hBa := bt2 hBw hba
            have hOa := hOw.keep hba
            go_wp2_with fail
            go_ret2
            rw [e1, e2]
            exact ⟨_, rfl, hOa, hBa⟩
    · obtain ⟨e1, e2⟩ := spi_f1 (k := k) hi
      rw [e1, e2]
      have hl6 : l6B i 0 ((n : Int) - 1) = false := by simp [l6B]; omega
      go_enter Tryd.func21, Tryd.ntmps21
      go_wp2_with (first | (go_at_call 35; refine hcon.mono ?_; rintro e w2 ⟨rfl, hb⟩) | (go_at_call 12; refine (c_l6In _ _ _ _).mono ?_; rintro e w1 ⟨rfl, rfl⟩))
      go_ret2
      exact ⟨_, rfl, (own_lit0 w2).low hb.size, ba hb _⟩
end Go.Proofs.YtobdliefaaoefaaDoor
