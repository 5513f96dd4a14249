/- The program's sparePlaces and HoleSpare. -/
import Derived.Test.YtonecelkkeakiaaGreatDoorS26
import Derived.Test.YtonecelkkeakiaaGreatDoorS5
import Derived.Test.YtonecelkkeakiaaGreatDoorMz9
import Derived.Test.YtonecelkkeakiaaGreatDoorAs2
namespace Go.Proofs.YtonecelkkeakiaaGreatDoor
open Go.RowKit
/-- the places below k of classes that are spare below E -/
def splK (zs : List Cl) (E : Int) : Nat → List Int
  | 0 => []
  | k + 1 => bif spaB zs k E then splK zs E k ++ [(k : Int)] else splK zs E k
def splL (zs : List Cl) (E : Int) : List Int := splK zs E zs.length
theorem splK_le (zs : List Cl) (E : Int) (k : Nat) : (splK zs E k).length ≤ k := by
  induction k with
  | zero => simp [splK]
  | succ k ih =>
    simp only [splK]
    cases spaB zs k E
    · simp only [cond_false]; omega
    · simp only [cond_true, List.length_append, List.length_singleton]; omega
set_option maxRecDepth 20000 in
set_option maxHeartbeats 1000000 in
theorem c_sparePlaces (s : Option Addr) (n cap : Nat) (zs : List Cl) (E : Int) (hn : n ≤ 1000) (ha : allB zs = true) (hE1 : 1 ≤ E) (hE : E ≤ 1000) (w : World) (hc : Cls w s n zs) :
    Calls Tryz.prog 169 #[.slice s n cap, .int .i64 E] w fun e w' => ∃ v, e = .returned v ∧ OwnI w' w.heap.size 3 v (splL zs E) ∧ Below w.heap.size w w' := by
  have hlen := hc.len
  obtain ⟨i0, hi, hz0, hz1, hz2⟩ := info_parts infoI
  have HT := Lib.hid (show splK zs E n = splL zs E by unfold splL; rw [hlen])
  have HA := Lib.hid ha
  clear hlen ha
  go_enter Tryz.func169, Tryz.ntmps169
  go_wp2_with fail
  go_loopw [5, 9] (fun v i wr => ∃ (k : Nat), k ≤ n ∧ i = .int .i64 k ∧ wr.ownsRow w.heap.size 3 1 v (splK zs E k).length ((splK zs E k).map (Value.int .i64)) ∧ Below w.heap.size w wr) (fun _ i _ => n - (intOf i).toNat)
  case atStart => exact ⟨0, Nat.zero_le _, rfl, World.ownsRow_nil _ _ _ _, Below.refl _ _⟩
  case round =>
    obtain ⟨k, hk, rfl, hO, hB⟩ := hrel
    have hcr := hc.keep hB
    by_cases hlt : k < n
    · have hKl := splK_le zs E k
      cases he : spaB zs k E
      · have HK := Lib.hid (show splK zs E (k + 1) = splK zs E k by simp only [splK, he, cond_false])
        go_wp2_with fail
        refine (c_spareAt _ _ _ zs k E (by omega) hlt HA.out hE1 hE _ hcr).mono ?_
        rintro e w5 ⟨rfl, hb5⟩
        have hB5 := bt2 hB hb5
        have hO5 := row_keep hO hb5
        rw [he]
        go_wp2_with fail
        go_roundw
        case rel => exact ⟨k + 1, by omega, by go_num, by rw [HK.out]; exact hO5, hB5⟩
        case measure => simp [intOf]; omega
      · have HK := Lib.hid (show splK zs E (k + 1) = splK zs E k ++ [(k : Int)] by simp only [splK, he, cond_true])
        go_wp2_with fail
        refine (c_spareAt _ _ _ zs k E (by omega) hlt HA.out hE1 hE _ hcr).mono ?_
        rintro e w5 ⟨rfl, hb5⟩
        have hB5 := bt2 hB hb5
        have hO5 := row_keep hO hb5
        have hbs : w.heap.size ≤ w5.heap.size := hB5.size
        rw [he]
        generalize hLe : (splK zs E k).length = L at *
        go_wp2_with (at_builtin; refine wpList_append_own _ rfl _ _ 79 rfl w.heap.size 3 i0 (.int .i64 0) 1 8 Tryz.underlying79 hi hz0 hz1 hz2 rfl (by decide) u5 L _ rfl (hO5.alloc _) ⟨w5.heap.size, 0, none⟩ 1 1 [.int .i64 k] rfl rfl (one_new w5 _ _) (by simp [Value.oneCell']) (by unfold maxLen; omega) (by omega) (by simp; omega) ?_; intro v7 w7 hown7 hgrow7 _)
        have hb7 : Below w.heap.size w w7 := (hB5.alloc hbs _).grown hgrow7 (by simp; omega) (fun g e => (hO5.lt g e).1)
        go_roundw
        case rel => exact ⟨k + 1, by omega, by go_num, by rw [HK.out, List.map_append, List.length_append, hLe]; exact hown7, hb7⟩
        case measure => simp [intOf]; omega
    · have hk' : k = n := by omega
      subst hk'
      rw [HT.out] at hO
      have hOC : OwnI wr w.heap.size 3 u5 (splL zs E) := hO
      clear hO
      go_wp2_with fail
      go_ret
      exact ⟨_, rfl, hOC, hB⟩
def hspR (zs : List Cl) : List Int := bif sysB zs then splL zs (perI zs) else []
theorem hspR_t {zs : List Cl} (h : sysB zs = true) : hspR zs = splL zs (perI zs) := by simp [hspR, h]
theorem hspR_f {zs : List Cl} (h : sysB zs = false) : hspR zs = [] := by simp [hspR, h]
theorem hspR_le (zs : List Cl) : (hspR zs).length ≤ 1000 := by
  cases h : sysB zs
  · simp [hspR_f h]
  · rw [hspR_t h]
    have := splK_le zs (perI zs) zs.length
    have := (sysB_facts h).2.1
    unfold splL
    omega
set_option maxHeartbeats 400000 in
theorem c_implHoleSpare (s : Option Addr) (n cap : Nat) (zs : List Cl) (hn : n ≤ 1048576) (w : World) (hc : Cls w s n zs) : Calls Tryz.prog 109 #[.slice s n cap] w (RetI w (hspR zs) (sysB zs)) := by
  cases hs : sysB zs
  · rw [hspR_f hs]
    have hcon := c_implSystemPeriod_f s n cap zs hn hs w hc
    go_enter Tryz.func109, Tryz.ntmps109
    go_wp2_with (go_at_call 35; refine hcon.mono ?_; rintro e w2 ⟨rfl, hb⟩)
    go_ret2
    exact ⟨_, rfl, World.ownsRow_nil _ _ _ _, hb⟩
  · rw [hspR_t hs]
    have hcon := c_implSystemPeriod_t s n cap zs hn hs w hc
    obtain ⟨hl1, hl2, ha, _, P1, P2⟩ := sysB_facts hs
    have hlen := hc.len
    go_enter Tryz.func109, Tryz.ntmps109
    go_wp2_with fail
    refine hcon.mono ?_
    rintro e w2 ⟨rfl, hb⟩
    have hc2 := hc.keep hb
    go_wp2_with fail
    refine (c_sparePlaces _ _ _ zs _ (by omega) ha P1 P2 _ hc2).mono ?_
    rintro e w3 ⟨v, rfl, hO, hb3⟩
    go_wp2_with fail
    go_ret2
    exact ⟨_, rfl, hO.low hb.size, bt2 hb hb3⟩
end Go.Proofs.YtonecelkkeakiaaGreatDoor
namespace Go.Proofs.YtonecelkkeakiaaGreatDoor
open Go.RowKit
def srtR (zs : List Cl) : List Cl := bif sysB zs then srtL zs else []
theorem srtR_t {zs : List Cl} (h : sysB zs = true) : srtR zs = srtL zs := by simp [srtR, h]
theorem srtR_f {zs : List Cl} (h : sysB zs = false) : srtR zs = [] := by simp [srtR, h]
theorem c_implExactSorted (s : Option Addr) (n cap : Nat) (zs : List Cl) (hn : n ≤ 1048576) (w : World) (hg : LaidE w) (hc : Cls w s n zs) : Calls Tryz.prog 100 #[.slice s n cap] w (RetC w (srtR zs) (sysB zs)) := by
  have hchk := c_checkSystem s n cap zs hn w hc
  cases hs : sysB zs
  · rw [srtR_f hs]
    rw [hs] at hchk
    go_enter Tryz.func100, Tryz.ntmps100
    go_wp2_with fail
    refine hchk.mono ?_
    rintro e w2 ⟨rfl, hb⟩
    have hg2 := hg.keep hb
    go_wp2_with fail
    refine (c_isNone false n _ hg2).mono ?_
    rintro e w3 ⟨rfl, hb3⟩
    go_wp2_with fail
    go_ret2
    exact ⟨_, rfl, OwnC.nil _ _ _, bt2 hb hb3⟩
  · rw [srtR_t hs]
    rw [hs] at hchk
    obtain ⟨l1, l2, _⟩ := sysB_facts hs
    have hlen := hc.len
    rw [hlen] at l1 l2
    go_enter Tryz.func100, Tryz.ntmps100
    go_wp2_with fail
    refine hchk.mono ?_
    rintro e w2 ⟨rfl, hb⟩
    have hg2 := hg.keep hb
    go_wp2_with fail
    refine (c_isNone true n _ hg2).mono ?_
    rintro e w3 ⟨rfl, hb3⟩
    have hB3 := bt2 hb hb3
    go_wp2_with fail
    refine (c_inOrderOwn s n cap zs (by omega) (by omega) _ (hc.keep hB3)).mono ?_
    rintro e w4 ⟨v, rfl, hO, hb4⟩
    go_wp2_with fail
    go_ret2
    exact ⟨_, rfl, hO.low hB3.size, bt2 hB3 hb4⟩
def modL (zs : List Cl) : List Int := (srtL zs).map fun c => c.2
theorem modL_length (zs : List Cl) : (modL zs).length = zs.length := by unfold modL; rw [List.length_map, srtL_length]
theorem modL_take (zs : List Cl) (k : Nat) (h : k < zs.length) : (modL zs).take (k + 1) = (modL zs).take k ++ [mAt (srtL zs) k] := by
  rw [List.take_succ_eq_append_getElem (by rw [modL_length]; exact h)]
  simp [modL, mAt, show k < (srtL zs).length by rw [srtL_length]; exact h]
def modR (zs : List Cl) : List Int := bif sysB zs then modL zs else []
theorem modR_t {zs : List Cl} (h : sysB zs = true) : modR zs = modL zs := by simp [modR, h]
theorem modR_f {zs : List Cl} (h : sysB zs = false) : modR zs = [] := by simp [modR, h]
set_option maxRecDepth 20000 in
set_option maxHeartbeats 1000000 in
theorem c_implExactModuli (s : Option Addr) (n cap : Nat) (zs : List Cl) (hn : n ≤ 1048576) (w : World) (hg : LaidE w) (hc : Cls w s n zs) : Calls Tryz.prog 179 #[.slice s n cap] w (RetI w (modR zs) (sysB zs)) := by
  have hcon := c_implExactSorted s n cap zs hn w hg hc
  cases hs : sysB zs
  · rw [modR_f hs]
    rw [hs, srtR_f hs] at hcon
    go_enter Tryz.func179, Tryz.ntmps179
    go_wp2_with fail
    refine hcon.mono ?_
    rintro e w2 ⟨v, rfl, hO, hb⟩
    go_wp2_with fail
    go_ret2
    exact ⟨_, rfl, World.ownsRow_nil _ _ _ _, hb⟩
  · rw [modR_t hs]
    rw [hs, srtR_t hs] at hcon
    obtain ⟨l1, l2, _⟩ := sysB_facts hs
    have hlen := hc.len
    rw [hlen] at l1 l2
    have hsl : (srtL zs).length = n := by rw [srtL_length, hlen]
    have HT := Lib.hid (fun k (h : k < n) => modL_take zs k (by rw [hlen]; exact h))
    have HE := Lib.hid (show (modL zs).take n = modL zs from List.take_of_length_le (by rw [modL_length, hlen]; exact Nat.le_refl _))
    have hml : (modL zs).length = n := by rw [modL_length, hlen]
    obtain ⟨i0, hi, hz0, hz1, hz2⟩ := info_parts infoI
    clear hlen hc
    generalize modL zs = ms at *
    generalize srtL zs = ys at *
    go_enter Tryz.func179, Tryz.ntmps179
    go_wp2_with fail
    refine hcon.mono ?_
    rintro e w2 ⟨v, rfl, hO, hb⟩
    obtain ⟨so, co, hv, hL, _⟩ := hO.spread
    rw [hsl] at hv hL
    subst hv
    clear hO hcon
    go_wp2_with (first | (at_make; refine wpList_make_own _ rfl _ _ 79 rfl w.heap.size 3 i0 (.int .i64 0) 1 Tryz.underlying79 hi hz0 hz1 .i64 .i64 _ n rfl rfl rfl (by rw [hz2]; omega) (by unfold maxLen; omega) hb.size ?_; intro w3 hown hgrow) | fail)
    have hb3 : Below w.heap.size w w3 := hb.grown hgrow hb.size (fun k h => by cases h)
    have hb23 : Below w2.heap.size w2 w3 := (Below.refl _ _).grown hgrow (Nat.le_refl _) (fun k h => by cases h)
    have hL3 := hL.keep hb23
    clear hgrow
    go_loopw [6, 21] (fun v i wr => ∃ (k : Nat), k ≤ n ∧ i = .int .i64 k ∧ v = .slice (some ⟨w2.heap.size, 0, none⟩) k n ∧ wr.ownsRow w.heap.size 3 1 (.slice (some ⟨w2.heap.size, 0, none⟩) k n) k ((ms.take k).map (Value.int .i64)) ∧ Cls wr so n ys ∧ Below w.heap.size w wr) (fun _ i _ => n - (intOf i).toNat)
    case atStart => exact ⟨0, Nat.zero_le _, rfl, rfl, hown, hL3, hb3⟩
    case round =>
      obtain ⟨k, hk, rfl, rfl, hO, hLr, hB⟩ := hrel
      by_cases hlt : k < n
      · rcases hLr.lies with h0 | ⟨b, off, rfl, hb', hcells⟩
        · omega
        obtain ⟨hx', hy⟩ := hcells k hlt
        have HT := Lib.hid (HT.out k hlt)
        clear hcells
        go_wp2_with (first | (at_builtin; refine wpList_append_fits _ rfl _ _ 79 rfl w.heap.size 3 i0 1 Tryz.underlying79 hi hz1 w2.heap.size k n _ rfl ((hO.alloc _).alloc _) ⟨wr.heap.size + 1, 0, none⟩ 1 1 [.int .i64 (mAt ys k)] rfl rfl (by simpa using one_new (wr.alloc _) _ _) (by simp [Value.oneCell']) (by omega) ?_; intro w7 hown7 hgrow7) | fail)
        have hb7 : Below w.heap.size w w7 := (ba (ba hB _) _).grown hgrow7 (ba (ba hB _) _).size (fun k e => by cases e; exact hb.size)
        have hbn : b < w2.heap.size := by
          rcases hL.lies with h | ⟨b', o', e, h, _⟩
          · omega
          · cases e; exact h
        have hL7 := Cls.other (hLr.keep (ba (ba (Below.refl _ _) _) _)) hgrow7 (by omega)
        go_roundw
        case rel => exact ⟨k + 1, by omega, by go_num, rfl, by rw [HT.out, List.map_append]; exact hown7, hL7, hb7⟩
        case measure => simp [intOf]; omega
      · have hk' : k = n := by omega
        subst hk'
        rw [HE.out] at hO
        have hOI : OwnI wr w.heap.size 3 (.slice (some ⟨w2.heap.size, 0, none⟩) k k) ms := by
          unfold OwnI; rw [hml]; exact hO
        clear hO
        go_wp2_with fail
        go_ret2
        exact ⟨_, rfl, hOI, hB⟩
end Go.Proofs.YtonecelkkeakiaaGreatDoor
