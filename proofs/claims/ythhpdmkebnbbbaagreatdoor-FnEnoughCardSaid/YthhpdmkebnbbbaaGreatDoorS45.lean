/- The model's ExactSorted and ExactModuli. -/
import Derived.Test.YthhpdmkebnbbbaaGreatDoorS42
import Derived.Test.YthhpdmkebnbbbaaGreatDoorS43
import Derived.Maps.AppendAt
namespace Go.Proofs.YthhpdmkebnbbbaaGreatDoor
open Go.RowKit
theorem srtR_le (zs : List Cl) : (srtR zs).length ≤ zs.length := by
  cases h : sysB zs
  · rw [srtR_f h]; simp
  · rw [srtR_t h, srtL_length]; exact Nat.le_refl _
theorem modR_le (zs : List Cl) : (modR zs).length ≤ 1000 := by
  cases h : sysB zs
  · rw [modR_f h]; simp
  · rw [modR_t h, modL_length]
    have := (sysB_facts h).2.1
    omega
set_option maxRecDepth 20000 in
set_option maxHeartbeats 1000000 in
theorem c_specExactModuli (s : Option Addr) (n cap : Nat) (zs : List Cl) (hn : n ≤ 1048576) (w : World) (hc : Cls w s n zs) : Calls Tryz.prog 17 #[.slice s n cap] w (RetI w (modR zs) (sysB zs)) := by
  have hcon := c_specSystemIn s n cap zs hn w hc
  obtain ⟨i0, hi, hz0, hz1, hz2⟩ := info_parts infoI
  have hO0 : (w.alloc (.cells #[] 3)).ownsRow w.heap.size 3 1 (.slice (some ⟨w.heap.size, 0, none⟩) 0 0) 0 [] := World.ownsRow_lit w #[] 0 (Nat.le_refl _) (by unfold maxLen; omega) rfl
  have hcon := c_specSystemIn s n cap zs hn _ (hc.keep (ba (Below.refl _ _) (.cells #[] 3)))
  cases hs : sysB zs
  · rw [modR_f hs]
    rw [hs] at hcon
    go_enter Tryz.func17, Tryz.ntmps17
    go_wp2_with fail
    refine hcon.mono ?_
    rintro e w2 ⟨rfl, hb⟩
    have hO2 := row_keep hO0 hb
    go_wp2_with fail
    go_ret2
    exact ⟨_, rfl, hO2, bt2 (ba (Below.refl _ _) _) hb⟩
  · rw [modR_t hs]
    rw [hs] at hcon
    obtain ⟨l1, l2, _⟩ := sysB_facts hs
    have hlen := hc.len
    have hsl : (srtL zs).length = n := by rw [srtL_length, hlen]
    have HT := Lib.hid (fun k (h : k < n) => modL_take zs k (by rw [hlen]; exact h))
    have HE := Lib.hid (show (modL zs).take n = modL zs from List.take_of_length_le (by rw [modL_length, hlen]; exact Nat.le_refl _))
    have hml : (modL zs).length = n := by rw [modL_length, hlen]
    rw [hlen] at l1 l2
    have hsrt := fun w1 (h1 : Cls w1 s n zs) => c_l4Sorted s n cap zs (by omega) w1 h1
    clear hlen
    generalize modL zs = ms at *
    generalize srtL zs = ys at *
    go_enter Tryz.func17, Tryz.ntmps17
    go_wp2_with fail
    refine hcon.mono ?_
    rintro e w2 ⟨rfl, hb⟩
    have hO2 := row_keep hO0 hb
    have hB2 := bt2 (ba (Below.refl w.heap.size w) (.cells #[] 3)) hb
    go_wp2_with fail
    refine (hsrt _ (hc.keep hB2)).mono ?_
    rintro e w3 ⟨v, rfl, hO, hb3⟩
    have hO3 := row_keep hO2 hb3
    have hB3 := bt2 hB2 hb3
    obtain ⟨so, co, hv, hL, hso⟩ := hO.spread
    rw [hsl] at hv hL
    subst hv
    clear hO hcon hsrt hc hO0 hO2
    go_wp2_with fail
    go_loopw [4, 6] (fun v i wr => ∃ (k : Nat), k ≤ n ∧ i = .int .i64 k ∧ wr.ownsRow w.heap.size 3 1 v k ((ms.take k).map (Value.int .i64)) ∧ Cls wr so n ys ∧ Below w.heap.size w wr ∧ (∀ g, v.ownBlock = some g → g < w2.heap.size ∨ w3.heap.size ≤ g) ∧ w3.heap.size ≤ wr.heap.size) (fun _ i _ => n - (intOf i).toNat)
    case atStart => exact ⟨0, Nat.zero_le _, rfl, hO3, hL, hB3, fun g e => by cases e; left; have := hb.size; simp at this; simp; omega, Nat.le_refl _⟩
    case round =>
      obtain ⟨k, hk, rfl, hOr, hLr, hB, hap, hB3w⟩ := hrel
      have hkw : k ≤ 10 := by omega
      by_cases hlt : k < n
      · rcases hLr.lies with h0 | ⟨b, off, rfl, hb', hcells⟩
        · omega
        obtain ⟨hx', hy⟩ := hcells k hlt
        have HT := Lib.hid (HT.out k hlt)
        have hkz0 : (0 : Int) ≤ (k : Int) := by omega
        have hkz1 : (k : Int) < (n : Int) := by omega
        have hbb : w2.heap.size ≤ b ∧ b < w3.heap.size := by
          rcases hso with h | ⟨g, h, h1, h2⟩
          · cases h
          · cases h; exact ⟨h1, h2⟩
        clear hcells
        have hbs := hB.size
        go_wp2_with (at_builtin; refine wpList_append_own_at _ rfl _ _ 32 rfl w.heap.size 3 i0 (.int .i64 0) 1 8 Tryz.underlying32 hi hz0 hz1 hz2 rfl (by decide) u4 k _ rfl (hOr.alloc _) ⟨wr.heap.size, 0, none⟩ 1 1 [.int .i64 (mAt ys k)] rfl rfl (one_new wr _ _) (by simp [Value.oneCell']) (by unfold maxLen; omega) (by omega) (by simp; omega) ?_; intro v7 w7 hown7 hgrow7 _ hloc)
        have hb7 : Below w.heap.size w w7 := (hB.alloc hbs _).grown hgrow7 (by simp; omega) (fun g e => (hOr.lt g e).1)
        have hap7 : ∀ g, v7.ownBlock = some g → g < w2.heap.size ∨ w3.heap.size ≤ g := by
          intro g hg
          rcases hloc with h | h
          · exact hap g (h ▸ hg)
          · rw [h] at hg
            cases hg
            right
            exact Nat.le_trans hB3w (ba (Below.refl _ _) _).size
        have hL7 : Cls w7 (some ⟨b, off, none⟩) n ys := by
          have hLa := hLr.keep (ba (Below.refl _ _) (.cells #[.int .i64 (mAt ys k)] 3))
          cases hv : u4.ownBlock with
          | none =>
            rw [hv] at hgrow7
            exact cls_grown hLa hgrow7 (by simp)
          | some g =>
            rw [hv] at hgrow7
            have := hap g hv
            exact Cls.other hLa hgrow7 (by omega)
        go_roundw
        case rel => exact ⟨k + 1, by omega, by go_num, by rw [HT.out, List.map_append]; exact hown7, hL7, hb7, hap7, by have := hgrow7.size; simp at this; omega⟩
        case measure => simp [intOf]; omega
      · have hk' : k = n := by omega
        subst hk'
        rw [HE.out] at hOr
        have hOI : OwnI wr w.heap.size 3 u4 ms := by
          unfold OwnI; rw [hml]; exact hOr
        clear hOr
        go_wp2_with fail
        go_ret2
        exact ⟨_, rfl, hOI, hB⟩
end Go.Proofs.YthhpdmkebnbbbaaGreatDoor
