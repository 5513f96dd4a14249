/- The program's ExactSorted and ExactModuli. -/
import Derived.Test.YtcokcnpnemhdfaaGreatDoorS41
import Derived.Test.YtcokcnpnemhdfaaGreatDoorMg7
import Derived.Test.YtcokcnpnemhdfaaGreatDoorS5
namespace Go.Proofs.YtcokcnpnemhdfaaGreatDoor
open Go.RowKit
def srtR (zs : List Cl) : List Cl := bif sysB zs then srtL zs else []
theorem srtR_t {zs : List Cl} (h : sysB zs = true) : srtR zs = srtL zs := by simp [srtR, h]
theorem srtR_f {zs : List Cl} (h : sysB zs = false) : srtR zs = [] := by simp [srtR, h]
theorem c_implExactSorted (s : Option Addr) (n cap : Nat) (zs : List Cl) (hn : n ≤ 1048576) (w : World) (hg : LaidE w) (hc : Cls w s n zs) : Calls Tryz.prog 5 #[.slice s n cap] w (RetC w (srtR zs) (sysB zs)) := by
  have hchk := c_checkSystem s n cap zs hn w hc
  cases hs : sysB zs
  · rw [srtR_f hs]
    rw [hs] at hchk
    go_enter Tryz.func5, Tryz.ntmps5
    go_wp2_with fail
    refine hchk.mono ?_
    rintro e w2 ⟨rfl, hb⟩
    have hg2 := hg.keep hb
    go_wp2_with fail
    refine (c_isNone false n _ hg2).mono ?_
    rintro e w3 ⟨rfl, hb3⟩
    go_wp2_with fail
    go_ret2
    exact ⟨_, rfl, OwnC.nil _ _ _, bt2 hb hb3⟩
  · rw [srtR_t hs]
    rw [hs] at hchk
    obtain ⟨l1, l2, _⟩ := sysB_facts hs
    have hlen := hc.len
    rw [hlen] at l1 l2
    go_enter Tryz.func5, Tryz.ntmps5
    go_wp2_with fail
    refine hchk.mono ?_
    rintro e w2 ⟨rfl, hb⟩
    have hg2 := hg.keep hb
    go_wp2_with fail
    refine (c_isNone true n _ hg2).mono ?_
    rintro e w3 ⟨rfl, hb3⟩
    have hB3 := bt2 hb hb3
    go_wp2_with fail
    refine (c_inOrderOwn s n cap zs (by omega) (by omega) _ (hc.keep hB3)).mono ?_
    rintro e w4 ⟨v, rfl, hO, hb4⟩
    go_wp2_with fail
    go_ret2
    exact ⟨_, rfl, hO.low hB3.size, bt2 hB3 hb4⟩
def modL (zs : List Cl) : List Int := (srtL zs).map fun c => c.2
theorem modL_length (zs : List Cl) : (modL zs).length = zs.length := by unfold modL; rw [List.length_map, srtL_length]
theorem modL_take (zs : List Cl) (k : Nat) (h : k < zs.length) : (modL zs).take (k + 1) = (modL zs).take k ++ [mAt (srtL zs) k] := by
  rw [List.take_succ_eq_append_getElem (by rw [modL_length]; exact h)]
  simp [modL, mAt, show k < (srtL zs).length by rw [srtL_length]; exact h]
def modR (zs : List Cl) : List Int := bif sysB zs then modL zs else []
theorem modR_t {zs : List Cl} (h : sysB zs = true) : modR zs = modL zs := by simp [modR, h]
theorem modR_f {zs : List Cl} (h : sysB zs = false) : modR zs = [] := by simp [modR, h]
end Go.Proofs.YtcokcnpnemhdfaaGreatDoor
