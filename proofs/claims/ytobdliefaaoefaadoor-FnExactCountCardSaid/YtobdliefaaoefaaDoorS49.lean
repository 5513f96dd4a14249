/- The program's ExactSplit. -/
import Derived.Test.YtobdliefaaoefaaDoorS47
import Derived.Test.YtobdliefaaoefaaDoorS48
import Derived.Test.YtobdliefaaoefaaDoorS42
import Derived.Test.YtobdliefaaoefaaDoorAs2
import Derived.Test.YtobdliefaaoefaaDoorS3
import Derived.Deep.RegionHeld3
namespace Go.Proofs.YtobdliefaaoefaaDoor
open Go.RowKit
def spiL (zs : List Cl) (i : Nat) (k : Int) : List Cl := zs.take i ++ parL (rAt zs i) (mAt zs i) k ++ zs.drop (i + 1)
def spiB (zs : List Cl) (i k : Int) : Bool := sysB zs && decide (0 ≤ i ∧ i < (zs.length : Int)) && parB (rAt zs i.toNat) (mAt zs i.toNat) k && sysB (spiL zs i.toNat k)
def spiR (zs : List Cl) (i k : Int) : List Cl := bif spiB zs i k then spiL zs i.toNat k else []
theorem spi_f0 {zs : List Cl} {i k : Int} (h : sysB zs = false) : spiB zs i k = false ∧ spiR zs i k = [] := by
  have e : spiB zs i k = false := by simp [spiB, h]
  exact ⟨e, by simp [spiR, e]⟩
theorem spi_f1 {zs : List Cl} {i k : Int} (h : ¬ (0 ≤ i ∧ i < (zs.length : Int))) : spiB zs i k = false ∧ spiR zs i k = [] := by
  have e : spiB zs i k = false := by unfold spiB; rw [decide_eq_false h]; simp
  exact ⟨e, by simp [spiR, e]⟩
theorem spi_f2 {zs : List Cl} {i : Nat} {k : Int} (h : parB (rAt zs i) (mAt zs i) k = false) : spiB zs i k = false ∧ spiR zs i k = [] := by
  have e : spiB zs i k = false := by unfold spiB; rw [Int.toNat_natCast, h]; simp
  exact ⟨e, by simp [spiR, e]⟩
theorem spi_t {zs : List Cl} {i : Nat} {k : Int} (h0 : sysB zs = true) (h1 : i < zs.length) (h2 : parB (rAt zs i) (mAt zs i) k = true) : spiB zs i k = sysB (spiL zs i k) ∧ spiR zs i k = bif sysB (spiL zs i k) then spiL zs i k else [] := by
  have e : spiB zs i k = sysB (spiL zs i k) := by
    unfold spiB
    rw [Int.toNat_natCast, h0, h2, decide_eq_true (show (0 : Int) ≤ (i : Int) ∧ (i : Int) < (zs.length : Int) by omega)]
    rfl
  exact ⟨e, by unfold spiR; rw [e, Int.toNat_natCast]⟩
theorem spiL_len {zs : List Cl} {i : Nat} {k : Int} (h : i < zs.length) : (spiL zs i k).length = i + k.toNat + (zs.length - (i + 1)) := by
  unfold spiL
  rw [List.length_append, List.length_append, parL_length, List.length_take, List.length_drop]
  omega
set_option maxRecDepth 20000 in
set_option maxHeartbeats 4000000 in
theorem c_implExactSplit (s : Option Addr) (n cap : Nat) (zs : List Cl) (i k : Int) (hn : n ≤ 1048576) (hcap : n ≤ cap) (hcb : cap ≤ 9223372036854775807) (w : World) (hg : LaidE w) (hc : Cls w s n zs) :
    Calls Tryd.prog 15 #[.slice s n cap, .int .i64 i, .int .i64 k] w (RetC w (spiR zs i k) (spiB zs i k)) := by
  have hchk := c_checkSystem s n cap zs hn w hc
  have hlen := hc.len
  cases hs : sysB zs
  · obtain ⟨e1, e2⟩ := spi_f0 (i := i) (k := k) hs
    rw [e1, e2]
    rw [hs] at hchk
    go_enter Tryd.func15, Tryd.ntmps15
    go_wp2_with fail
    refine hchk.mono ?_
    rintro e w2 ⟨rfl, hb⟩
    have hg2 := hg.keep hb
    go_wp2_with fail
    refine (c_isNone false n _ hg2).mono ?_
    rintro e w3 ⟨rfl, hb3⟩
    go_wp2_with fail
    go_ret2
    exact ⟨_, rfl, OwnC.nil _ _ _, bt2 hb hb3⟩
  · rw [hs] at hchk
    have hisn := fun w2 (h : Below w.heap.size w w2) => c_isNone true n w2 (hg.keep h)
    by_cases hi : 0 ≤ i ∧ i < (zs.length : Int)
    · obtain ⟨h1, h2⟩ := hi
      rw [hlen] at h2
      obtain ⟨j, rfl⟩ := Int.eq_ofNat_of_zero_le h1
      have hjn : j < n := by omega
      obtain ⟨l1, l2, _⟩ := sysB_facts hs
      rw [hlen] at l1 l2
      have hi1 : ¬ (j : Int) < 0 := by omega
      have hi2 : ¬ (n : Int) ≤ (j : Int) := by omega
      rcases hc.lies with h0 | ⟨b, off, rfl, hbw, hcells⟩
      · omega
      obtain ⟨x0, x1⟩ := hcells j hjn
      have HF2 := Lib.hid (fun h => spi_f2 (zs := zs) (i := j) (k := k) h)
      have HTT := Lib.hid (fun h => spi_t (k := k) hs (show j < zs.length by omega) h)
      have HLn := Lib.hid (spiL_len (k := k) (show j < zs.length by omega))
      have HSp := Lib.hid (show spiL zs j k = zs.take j ++ parL (rAt zs j) (mAt zs j) k ++ zs.drop (j + 1) from rfl)
      clear hcells
      generalize hr : rAt zs j = r at *
      generalize hm : mAt zs j = m at *
      go_enter Tryd.func15, Tryd.ntmps15
      go_wp2_with fail
      refine hchk.mono ?_
      rintro e w2 ⟨rfl, hb⟩
      go_wp2_with fail
      refine (hisn _ hb).mono ?_
      rintro e w3 ⟨rfl, hb3⟩
      have hB3 := bt2 hb hb3
      have y0 := keepc hB3 x0
      have y1 := keepc hB3 x1
      go_wp2_with fail
      have hN : NodeO (w3.alloc (.cells #[.int .i64 r, .int .i64 m, .pointer none, .pointer none] 57)) w3.heap.size (r, m) (.pointer none) (.pointer none) := Array.getElem?_push_size
      refine (c_split w3.heap.size r m k _ _ hN).mono ?_
      rintro e w4 ⟨rfl, hg4, hp4⟩
      have hB3a := ba hB3 (.cells #[.int .i64 r, .int .i64 m, .pointer none, .pointer none] 57)
      have hB4 : Below w.heap.size w w4 := hB3a.grown hg4 hB3a.size (fun g e => by cases e; exact hB3.size)
      clear hchk hN hg4 hB3a y0 y1
      cases hp : parB r m k
      · obtain ⟨e1, e2⟩ := HF2.out hp
        go_wp2_with fail
        go_ret2
        rw [e1, e2]
        exact ⟨_, rfl, OwnC.nil _ _ _, hB4⟩
      · obtain ⟨W0, hW0, hP⟩ := hp4 hp
        obtain ⟨e1, e2⟩ := HTT.out hp
        have hpl := parL_length r m k
        have hk12 : 1 ≤ k.toNat ∧ k.toNat ≤ 12 := by
          unfold parB at hp
          simp at hp
          omega
        have hlv := fun w5 h5 => c_leaves w3.heap.size W0 k.toNat (r, m) (.pointer none) (parL r m k) w5 h5 hpl hk12.1 hk12.2
        have hc4 := hc.keep hB4
        generalize hPL : parL r m k = pl at *
        generalize hKN : k.toNat = kn at *
        have hjz0 : (0 : Int) ≤ (j : Int) := by omega
        have hjz1 : (j : Int) ≤ (cap : Int) := by omega
        have hjz2 : (j : Int) ≤ (n : Int) := by omega
        have hjz : (j : Int) < (n : Int) := by omega
        have hnc : (n : Int) ≤ (cap : Int) := by omega
        have hA1 : (j : Int) + 1 ≤ (n : Int) := by omega
        have hA0 : (0 : Int) ≤ (j : Int) + 1 := by omega
        have hw : IntKind.i64.wrap ((j : Int) + 1) = (j : Int) + 1 := IntWalk.i64_in _ (by omega)
        have hAt : ((j : Int) + 1).toNat = j + 1 := by omega
        have hcap2 : j + 1 < cap ∨ cap = j + 1 := by omega
        clear hp4 HF2 HTT
        have hFr := Lib.hid (fun W (h : Below w4.heap.size w4 W) => (hc4.keep h).front (k := j) (by omega))
        have hBk := Lib.hid (fun W (h : Below w4.heap.size w4 W) => (hc4.keep h).back (k := j + 1) (by omega))
        have hB4d := hB4.drew
        clear hc4
        go_wp2_with fail
        rcases hcap2 with hA | hA
        · have hAn : ¬ cap = j + 1 := by omega
          go_region_held3 (fun _ => True) (trivial) (first
            | (go_at_call 29; refine (hlv w4.drew hP).mono ?_; rintro e w5 ⟨v5, rfl, hO5, hb5⟩; obtain ⟨s5, c5, hv5, hC5, _⟩ := hO5.spread; rw [hpl] at hv5 hC5; subst hv5; have hB5 := bt2 hB4d hb5)
            | (go_at_call 28; refine (c_concat w5.heap.size (some ⟨b, off, none⟩) s5 (some ⟨b, off + (j + 1) * 2, none⟩) j kn (n - (j + 1)) cap c5 (cap - (j + 1)) (zs.take j) pl (zs.drop (j + 1)) _ ⟨by simp, by simp, by simp⟩ (hFr.out _ (ba (bt2 (Below.refl w4.heap.size w4).drew hb5) _)) (hC5.keep (ba (Below.refl _ _) _)) (hBk.out _ (ba (bt2 (Below.refl w4.heap.size w4).drew hb5) _)) (by omega) (by omega) (by omega) (by omega)).mono ?_; rintro e w7 ⟨v7, rfl, hO7, hb7⟩)
            | fail)
          have hB5a := ba hB5 (.cells #[.slice (some ⟨b, off, none⟩) j cap, .slice s5 kn c5, .slice (some ⟨b, off + (j + 1) * 2, none⟩) (n - (j + 1)) (cap - (j + 1))] 33)
          have hB7 := bt2 hB5a hb7
          have hOw := hO7.low hB5a.size
          rw [← HSp.out] at hOw
          have hLL := HLn.out
          obtain ⟨s7, c7, hv7, hC7, _⟩ := hOw.spread
          generalize spiL zs j k = Y at *
          generalize hYl : Y.length = LY at *
          subst hv7
          have hck := c_checkSystem s7 LY c7 Y (by omega) w7 hC7
          have hgk := fun w8 (h : Below w.heap.size w w8) => hg.keep h
          clear hO7 hb7 hB5a hB5 hC5 hFr hBk HSp HLn hP hlv hLL hpl hlen hA hAn hw hAt hYl hKN hPL hr hm hO5 hb5 hC7 hjz0 hjz1 hjz2 hjz hnc hA1 hA0 h1 h2 hi1 hi2 x0 x1 hB4 hB4d hc hg hisn hk12 hW0 hjn l1 l2
          cases hq : sysB Y
          · rw [hq] at hck e1 e2
            go_wp2_with fail
            refine hck.mono ?_
            rintro e w8 ⟨rfl, hb8⟩
            have hB8 := bt2 hB7 hb8
            go_wp2_with fail
            refine (c_isNone false LY _ (hgk _ hB8)).mono ?_
            rintro e w9 ⟨rfl, hb9⟩
            go_wp2_with fail
            go_ret2
            rw [e1, e2]
            exact ⟨_, rfl, OwnC.nil _ _ _, bt2 hB8 hb9⟩
          · rw [hq] at hck e1 e2
            go_wp2_with fail
            refine hck.mono ?_
            rintro e w8 ⟨rfl, hb8⟩
            have hB8 := bt2 hB7 hb8
            go_wp2_with fail
            refine (c_isNone true LY _ (hgk _ hB8)).mono ?_
            rintro e w9 ⟨rfl, hb9⟩
            have hO9 := (hOw.keep hb8).keep hb9
            go_wp2_with fail
            go_ret2
            rw [e1, e2]
            exact ⟨_, rfl, hO9, bt2 hB8 hb9⟩
        · have hAn : cap = j + 1 := hA
          have hnn : n = j + 1 := by omega
          have hz1' : (j : Int) ≤ (j : Int) + 1 := by omega
          have hz2' : (j : Int) < (j : Int) + 1 := by omega
          have hz3 : j < j + 1 := by omega
          have hz4 : j ≤ j + 1 := by omega
          have hdr : zs.drop (j + 1) = [] := List.drop_eq_nil_of_le (by omega)
          go_region_held3 (fun _ => True) (trivial) (first
            | (go_at_call 29; refine (hlv w4.drew hP).mono ?_; rintro e w5 ⟨v5, rfl, hO5, hb5⟩; obtain ⟨s5, c5, hv5, hC5, _⟩ := hO5.spread; rw [hpl] at hv5 hC5; subst hv5; have hB5 := bt2 hB4d hb5)
            | (go_at_call 28; refine (c_concat w5.heap.size (some ⟨b, off, none⟩) s5 (some ⟨b, off, none⟩) j kn 0 (j + 1) c5 0 (zs.take j) pl [] _ ⟨by simp, by simp, by simp⟩ (hFr.out _ (ba (bt2 (Below.refl w4.heap.size w4).drew hb5) _)) (hC5.keep (ba (Below.refl _ _) _)) ⟨rfl, .inl rfl⟩ (by omega) (by omega) (by omega) (by omega)).mono ?_; rintro e w7 ⟨v7, rfl, hO7, hb7⟩)
            | fail)
          have hB5a := ba hB5 (.cells #[.slice (some ⟨b, off, none⟩) j (j + 1), .slice s5 kn c5, .slice (some ⟨b, off, none⟩) 0 0] 33)
          have hB7 := bt2 hB5a hb7
          have hOw := hO7.low hB5a.size
          rw [← hdr, ← HSp.out] at hOw
          have hLL := HLn.out
          obtain ⟨s7, c7, hv7, hC7, _⟩ := hOw.spread
          generalize spiL zs j k = Y at *
          generalize hYl : Y.length = LY at *
          subst hv7
          have hck := c_checkSystem s7 LY c7 Y (by omega) w7 hC7
          have hgk := fun w8 (h : Below w.heap.size w w8) => hg.keep h
          clear hO7 hb7 hB5a hB5 hC5 hFr hBk HSp HLn hP hlv hLL hpl hlen hA hAn hnn hz1' hz2' hz3 hz4 hdr hw hAt hYl hKN hPL hr hm hO5 hb5 hC7 hjz0 hjz1 hjz2 hjz hnc hA1 hA0 h1 h2 hi1 hi2 x0 x1 hB4 hB4d hc hg hisn hk12 hW0 hjn l1 l2
          cases hq : sysB Y
          · rw [hq] at hck e1 e2
            go_wp2_with fail
            refine hck.mono ?_
            rintro e w8 ⟨rfl, hb8⟩
            have hB8 := bt2 hB7 hb8
            go_wp2_with fail
            refine (c_isNone false LY _ (hgk _ hB8)).mono ?_
            rintro e w9 ⟨rfl, hb9⟩
            go_wp2_with fail
            go_ret2
            rw [e1, e2]
            exact ⟨_, rfl, OwnC.nil _ _ _, bt2 hB8 hb9⟩
          · rw [hq] at hck e1 e2
            go_wp2_with fail
            refine hck.mono ?_
            rintro e w8 ⟨rfl, hb8⟩
            have hB8 := bt2 hB7 hb8
            go_wp2_with fail
            refine (c_isNone true LY _ (hgk _ hB8)).mono ?_
            rintro e w9 ⟨rfl, hb9⟩
            have hO9 := (hOw.keep hb8).keep hb9
            go_wp2_with fail
            go_ret2
            rw [e1, e2]
            exact ⟨_, rfl, hO9, bt2 hB8 hb9⟩
    · obtain ⟨e1, e2⟩ := spi_f1 (k := k) hi
      rw [e1, e2]
      have hi2 : i < 0 ∨ (n : Int) ≤ i := by omega
      go_enter Tryd.func15, Tryd.ntmps15
      rcases hi2 with hi2 | hi2
      · go_wp2_with fail
        refine hchk.mono ?_
        rintro e w2 ⟨rfl, hb⟩
        go_wp2_with fail
        refine (hisn _ hb).mono ?_
        rintro e w3 ⟨rfl, hb3⟩
        go_wp2_with fail
        go_ret2
        exact ⟨_, rfl, OwnC.nil _ _ _, bt2 hb hb3⟩
      · have hi3 : ¬ i < 0 := by omega
        go_wp2_with fail
        refine hchk.mono ?_
        rintro e w2 ⟨rfl, hb⟩
        go_wp2_with fail
        refine (hisn _ hb).mono ?_
        rintro e w3 ⟨rfl, hb3⟩
        go_wp2_with fail
        go_ret2
        exact ⟨_, rfl, OwnC.nil _ _ _, bt2 hb hb3⟩
end Go.Proofs.YtobdliefaaoefaaDoor
