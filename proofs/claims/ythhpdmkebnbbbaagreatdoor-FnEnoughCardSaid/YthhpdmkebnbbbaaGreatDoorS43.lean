/- The program's ExactSorted and ExactModuli. -/
import Derived.Test.YthhpdmkebnbbbaaGreatDoorMgM
import Derived.Test.YthhpdmkebnbbbaaGreatDoorMg7
import Derived.Test.YthhpdmkebnbbbaaGreatDoorMgD
namespace Go.Proofs.YthhpdmkebnbbbaaGreatDoor
open Go.RowKit
def srtR (zs : List Cl) : List Cl := bif sysB zs then srtL zs else []
theorem srtR_t {zs : List Cl} (h : sysB zs = true) : srtR zs = srtL zs := by simp [srtR, h]
theorem srtR_f {zs : List Cl} (h : sysB zs = false) : srtR zs = [] := by simp [srtR, h]
theorem c_implExactSorted (s : Option Addr) (n cap : Nat) (zs : List Cl) (hn : n ≤ 1048576) (w : World) (hg : LaidE w) (hc : Cls w s n zs) : Calls Tryz.prog 10 #[.slice s n cap] w (RetC w (srtR zs) (sysB zs)) := by
  have hchk := c_checkSystem s n cap zs hn w hc
  cases hs : sysB zs
  · rw [srtR_f hs]
    rw [hs] at hchk
    go_enter Tryz.func10, Tryz.ntmps10
    go_wp2_with fail
    refine hchk.mono ?_
    rintro e w2 ⟨rfl, hb⟩
    have hg2 := hg.keep hb
    go_wp2_with fail
    refine (c_isNone false n _ hg2).mono ?_
    rintro e w3 ⟨rfl, hb3⟩
    go_wp2_with fail
    go_ret2
    exact ⟨_, rfl, OwnC.nil _ _ _, bt2 hb hb3⟩
  · rw [srtR_t hs]
    rw [hs] at hchk
    obtain ⟨l1, l2, _⟩ := sysB_facts hs
    have hlen := hc.len
    rw [hlen] at l1 l2
    go_enter Tryz.func10, Tryz.ntmps10
    go_wp2_with fail
    refine hchk.mono ?_
    rintro e w2 ⟨rfl, hb⟩
    have hg2 := hg.keep hb
    go_wp2_with fail
    refine (c_isNone true n _ hg2).mono ?_
    rintro e w3 ⟨rfl, hb3⟩
    have hB3 := bt2 hb hb3
    go_wp2_with fail
    refine (c_inOrderOwn s n cap zs (by omega) (by omega) _ (hc.keep hB3)).mono ?_
    rintro e w4 ⟨v, rfl, hO, hb4⟩
    go_wp2_with fail
    go_ret2
    exact ⟨_, rfl, hO.low hB3.size, bt2 hB3 hb4⟩
def modL (zs : List Cl) : List Int := (srtL zs).map fun c => c.2
theorem modL_length (zs : List Cl) : (modL zs).length = zs.length := by unfold modL; rw [List.length_map, srtL_length]
theorem modL_take (zs : List Cl) (k : Nat) (h : k < zs.length) : (modL zs).take (k + 1) = (modL zs).take k ++ [mAt (srtL zs) k] := by
  rw [List.take_succ_eq_append_getElem (by rw [modL_length]; exact h)]
  simp [modL, mAt, show k < (srtL zs).length by rw [srtL_length]; exact h]
def modR (zs : List Cl) : List Int := bif sysB zs then modL zs else []
theorem modR_t {zs : List Cl} (h : sysB zs = true) : modR zs = modL zs := by simp [modR, h]
theorem modR_f {zs : List Cl} (h : sysB zs = false) : modR zs = [] := by simp [modR, h]
set_option maxRecDepth 20000 in
set_option maxHeartbeats 1000000 in
theorem c_implExactModuli (s : Option Addr) (n cap : Nat) (zs : List Cl) (hn : n ≤ 1048576) (w : World) (hg : LaidE w) (hc : Cls w s n zs) : Calls Tryz.prog 15 #[.slice s n cap] w (RetI w (modR zs) (sysB zs)) := by
  have hcon := c_implExactSorted s n cap zs hn w hg hc
  cases hs : sysB zs
  · rw [modR_f hs]
    rw [hs, srtR_f hs] at hcon
    go_enter Tryz.func15, Tryz.ntmps15
    go_wp2_with fail
    refine hcon.mono ?_
    rintro e w2 ⟨v, rfl, hO, hb⟩
    go_wp2_with fail
    go_ret2
    exact ⟨_, rfl, World.ownsRow_nil _ _ _ _, hb⟩
  · rw [modR_t hs]
    rw [hs, srtR_t hs] at hcon
    obtain ⟨l1, l2, _⟩ := sysB_facts hs
    have hlen := hc.len
    rw [hlen] at l1 l2
    have hsl : (srtL zs).length = n := by rw [srtL_length, hlen]
    have HT := Lib.hid (fun k (h : k < n) => modL_take zs k (by rw [hlen]; exact h))
    have HE := Lib.hid (show (modL zs).take n = modL zs from List.take_of_length_le (by rw [modL_length, hlen]; exact Nat.le_refl _))
    have hml : (modL zs).length = n := by rw [modL_length, hlen]
    obtain ⟨i0, hi, hz0, hz1, hz2⟩ := info_parts infoI
    clear hlen hc
    generalize modL zs = ms at *
    generalize srtL zs = ys at *
    go_enter Tryz.func15, Tryz.ntmps15
    go_wp2_with fail
    refine hcon.mono ?_
    rintro e w2 ⟨v, rfl, hO, hb⟩
    obtain ⟨so, co, hv, hL, _⟩ := hO.spread
    rw [hsl] at hv hL
    subst hv
    clear hO hcon
    go_wp2_with (first | (at_make; refine wpList_make_own _ rfl _ _ 32 rfl w.heap.size 3 i0 (.int .i64 0) 1 Tryz.underlying32 hi hz0 hz1 .i64 .i64 _ n rfl rfl rfl (by rw [hz2]; omega) (by unfold maxLen; omega) hb.size ?_; intro w3 hown hgrow) | fail)
    have hb3 : Below w.heap.size w w3 := hb.grown hgrow hb.size (fun k h => by cases h)
    have hb23 : Below w2.heap.size w2 w3 := (Below.refl _ _).grown hgrow (Nat.le_refl _) (fun k h => by cases h)
    have hL3 := hL.keep hb23
    clear hgrow
    go_loopw [6, 21] (fun v i wr => ∃ (k : Nat), k ≤ n ∧ i = .int .i64 k ∧ v = .slice (some ⟨w2.heap.size, 0, none⟩) k n ∧ wr.ownsRow w.heap.size 3 1 (.slice (some ⟨w2.heap.size, 0, none⟩) k n) k ((ms.take k).map (Value.int .i64)) ∧ Cls wr so n ys ∧ Below w.heap.size w wr) (fun _ i _ => n - (intOf i).toNat)
    case atStart => exact ⟨0, Nat.zero_le _, rfl, rfl, hown, hL3, hb3⟩
    case round =>
      obtain ⟨k, hk, rfl, rfl, hO, hLr, hB⟩ := hrel
      by_cases hlt : k < n
      · rcases hLr.lies with h0 | ⟨b, off, rfl, hb', hcells⟩
        · omega
        obtain ⟨hx', hy⟩ := hcells k hlt
        have HT := Lib.hid (HT.out k hlt)
        clear hcells
        go_wp2_with (first | (at_builtin; refine wpList_append_fits _ rfl _ _ 32 rfl w.heap.size 3 i0 1 Tryz.underlying32 hi hz1 w2.heap.size k n _ rfl ((hO.alloc _).alloc _) ⟨wr.heap.size + 1, 0, none⟩ 1 1 [.int .i64 (mAt ys k)] rfl rfl (by simpa using one_new (wr.alloc _) _ _) (by simp [Value.oneCell']) (by omega) ?_; intro w7 hown7 hgrow7) | fail)
        have hb7 : Below w.heap.size w w7 := (ba (ba hB _) _).grown hgrow7 (ba (ba hB _) _).size (fun k e => by cases e; exact hb.size)
        have hbn : b < w2.heap.size := by
          rcases hL.lies with h | ⟨b', o', e, h, _⟩
          · omega
          · cases e; exact h
        have hL7 := Cls.other (hLr.keep (ba (ba (Below.refl _ _) _) _)) hgrow7 (by omega)
        go_roundw
        case rel => exact ⟨k + 1, by omega, by go_num, rfl, by rw [HT.out, List.map_append]; exact hown7, hL7, hb7⟩
        case measure => simp [intOf]; omega
      · have hk' : k = n := by omega
        subst hk'
        rw [HE.out] at hO
        have hOI : OwnI wr w.heap.size 3 (.slice (some ⟨w2.heap.size, 0, none⟩) k k) ms := by
          unfold OwnI; rw [hml]; exact hO
        clear hO
        go_wp2_with fail
        go_ret2
        exact ⟨_, rfl, hOI, hB⟩
end Go.Proofs.YthhpdmkebnbbbaaGreatDoor
