/- The model's ExactSorted and ExactModuli. -/
import Derived.Test.YtcokcnpnemhdfaaGreatDoorS42
import Derived.Test.YtcokcnpnemhdfaaGreatDoorS43
import Derived.Maps.AppendAt
namespace Go.Proofs.YtcokcnpnemhdfaaGreatDoor
open Go.RowKit
theorem srtR_le (zs : List Cl) : (srtR zs).length ≤ zs.length := by
  cases h : sysB zs
  · rw [srtR_f h]; simp
  · rw [srtR_t h, srtL_length]; exact Nat.le_refl _
theorem modR_le (zs : List Cl) : (modR zs).length ≤ 1000 := by
  cases h : sysB zs
  · rw [modR_f h]; simp
  · rw [modR_t h, modL_length]
    have := (sysB_facts h).2.1
    omega
theorem c_specExactSorted (s : Option Addr) (n cap : Nat) (zs : List Cl) (hn : n ≤ 1048576) (w : World) (hc : Cls w s n zs) : Calls Tryz.prog 6 #[.slice s n cap] w (RetC w (srtR zs) (sysB zs)) := by
  have hcon := c_specSystemIn s n cap zs hn w hc
  cases hs : sysB zs
  · rw [srtR_f hs]
    rw [hs] at hcon
    go_enter Tryz.func6, Tryz.ntmps6
    go_wp2_with fail
    refine hcon.mono ?_
    rintro e w2 ⟨rfl, hb⟩
    go_wp2_with fail
    go_ret2
    exact ⟨_, rfl, World.ownsRow_lit w2 #[] 0 hb.size (by unfold maxLen; omega) rfl, ba hb _⟩
  · rw [srtR_t hs]
    rw [hs] at hcon
    obtain ⟨l1, l2, _⟩ := sysB_facts hs
    have hlen := hc.len
    rw [hlen] at l1 l2
    go_enter Tryz.func6, Tryz.ntmps6
    go_wp2_with fail
    refine hcon.mono ?_
    rintro e w2 ⟨rfl, hb⟩
    go_wp2_with fail
    refine (c_l4Sorted s n cap zs (by omega) _ (hc.keep hb)).mono ?_
    rintro e w3 ⟨v, rfl, hO, hb3⟩
    go_wp2_with fail
    go_ret2
    exact ⟨_, rfl, hO.low hb.size, bt2 hb hb3⟩
end Go.Proofs.YtcokcnpnemhdfaaGreatDoor
