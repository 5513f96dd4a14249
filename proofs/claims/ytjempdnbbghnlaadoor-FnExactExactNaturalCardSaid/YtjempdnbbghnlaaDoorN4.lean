/- ExactNatural, the program and the model, and the walk of the law FnExactExactNatural. -/
import Derived.Test.YtjempdnbbghnlaaDoorN2
import Derived.Test.YtjempdnbbghnlaaDoorN3
import Derived.Test.YtjempdnbbghnlaaDoorAs2
import Derived.Test.YtjempdnbbghnlaaDoorWh
import Derived.Test.YtjempdnbbghnlaaDoorH2
namespace Go.Proofs.YtjempdnbbghnlaaDoor
open Go.RowKit
def natB (zs : List Cl) : Bool := sysB zs && nat zs
theorem pt_one (zs : List Cl) : pt 1 0 zs = zs := by
  unfold pt
  have h : zs.filter (fun c => c.1 % 1 == 0) = zs := List.filter_eq_self.2 fun c _ => by simp
  rw [h]
  have : (fun c : Cl => ((c.1 - 0) / 1, c.2 / 1)) = id := by funext c; simp
  rw [this, List.map_id]
theorem blw_all {zs : List Cl} (h : allB zs = true) : Blw 0 1 zs := by
  intro c hc
  exact ⟨List.all_eq_true.1 h c hc, by simp, by simp⟩
theorem vl_all {zs : List Cl} (h : allB zs = true) : Vl 1000 zs := (blw_all h).vl
theorem node_new (w : World) (a b : Int) : NodeO (w.alloc (.cells #[.int .i64 a, .int .i64 b, .pointer none, .pointer none] 43)) w.heap.size (a, b) (.pointer none) (.pointer none) := World.alloc_heap_new w _
set_option maxHeartbeats 1000000 in
theorem c_implExactNatural (s : Option Addr) (n cap : Nat) (zs : List Cl) (hn : n ≤ 1048576) (w : World) (hg : LaidE w) (hc : Cls w s n zs) : Calls Tryd.prog 8 #[.slice s n cap] w fun e w' => e = .returned (.bool (natB zs)) ∧ Below w.heap.size w w' := by
  have hchk := c_checkSystem s n cap zs hn w hc
  cases hs : sysB zs
  · have HR := Lib.hid (show natB zs = false by simp [natB, hs])
    rw [hs] at hchk
    go_enter Tryd.func8, Tryd.ntmps8
    go_wp2_with fail
    refine hchk.mono ?_
    rintro e w2 ⟨rfl, hb⟩
    have hg2 := hg.keep hb
    go_wp2_with fail
    refine (c_isNone false n _ hg2).mono ?_
    rintro e w3 ⟨rfl, hb3⟩
    go_wp2_with fail
    go_ret
    exact ⟨rb HR.out.symm, bt2 hb hb3⟩
  · have HR := Lib.hid (show natB zs = nat zs by simp [natB, hs])
    rw [hs] at hchk
    obtain ⟨l1, l2, l3, _⟩ := sysB_facts hs
    have hlen := hc.len
    rw [hlen] at l1 l2
    have HL := Lib.hid hlen
    clear hlen
    go_enter Tryd.func8, Tryd.ntmps8
    go_wp2_with fail
    refine hchk.mono ?_
    rintro e w2 ⟨rfl, hb⟩
    have hg2 := hg.keep hb
    go_wp2_with fail
    refine (c_isNone true n _ hg2).mono ?_
    rintro e w3 ⟨rfl, hb3⟩
    have hB3 := bt2 hb hb3
    clear hg hg2 hb hb3 hchk
    go_wp2_with fail
    refine (c_wholeClass _).mono ?_
    rintro e w4 ⟨rfl, hb4⟩
    have hB4 := bt2 hB3 hb4
    have hc4 := (hc.keep hB4).keep (ba (Below.refl _ w4) (.cells #[.int .i64 0, .int .i64 1, .pointer none, .pointer none] 43))
    have hN4 := node_new w4 0 1
    have hB5 := ba hB4 (.cells #[.int .i64 0, .int .i64 1, .pointer none, .pointer none] 43)
    have hcl := hc.keep hB4
    have hsp := c_splitInto 1000 w4.heap.size 0 1 (.pointer none) s n cap zs _ (by decide) (blw_all l3) l2 (by omega) hN4 hc4
    go_wp2_with fail
    rcases Nat.eq_zero_or_pos n with h0 | h0
    · omega
    refine (hsp ?_).mono ?_
    · intro b off e
      rcases hcl.lies with h | ⟨b', off', hs', hb', _⟩
      · omega
      · rw [hs'] at e; cases e; omega
    rintro e w6 ⟨rfl, hG6, _⟩
    rw [pt_one]
    have hB6 : Below w.heap.size w w6 := hB5.grown hG6 hB5.size (fun g e => by cases e; exact hB4.size)
    go_wp2_with fail
    go_ret
    exact ⟨rb HR.out.symm, hB6⟩
set_option maxHeartbeats 1000000 in
theorem c_specExactNatural (s : Option Addr) (n cap : Nat) (zs : List Cl) (hn : n ≤ 1048576) (w : World) (hc : Cls w s n zs) : Calls Tryd.prog 6 #[.slice s n cap] w fun e w' => e = .returned (.bool (natB zs)) ∧ Below w.heap.size w w' := by
  have hsy := c_specSystemIn s n cap zs hn w hc
  cases hs : sysB zs
  · have HR := Lib.hid (show natB zs = false by simp [natB, hs])
    rw [hs] at hsy
    go_enter Tryd.func6, Tryd.ntmps6
    go_wp2_with fail
    refine hsy.mono ?_
    rintro e w2 ⟨rfl, hb⟩
    go_wp2_with fail
    go_ret
    exact ⟨rb HR.out.symm, hb⟩
  · have HR := Lib.hid (show natB zs = nat zs by simp [natB, hs])
    rw [hs] at hsy
    obtain ⟨l1, l2, l3, _⟩ := sysB_facts hs
    have hlen := hc.len
    rw [hlen] at l1 l2
    have HL := Lib.hid hlen
    clear hlen
    go_enter Tryd.func6, Tryd.ntmps6
    go_wp2_with fail
    refine hsy.mono ?_
    rintro e w2 ⟨rfl, hb⟩
    go_wp2_with fail
    refine (c_l4Natural 1000 (Nat.le_refl _) s n cap zs _ (vl_all l3) l2 (hc.keep hb)).mono ?_
    rintro e w3 ⟨rfl, hb3⟩
    go_wp2_with fail
    go_ret
    exact ⟨rb HR.out.symm, bt2 hb hb3⟩
set_option maxHeartbeats 2000000 in
theorem w_FnExactExactNatural (s : Option Addr) (n cap : Nat) (zs : List Cl) (hn : n ≤ 9223372036854775807) (w : World) (hgE : LaidE w) (hc : Cls w s n zs) : Calls Tryd.prog 3 #[.slice s n cap] w fun e w' => e = .returned (.bool true) ∧ Below w.heap.size w w' := by
  obtain rfl := hc.len
  by_cases hb : 1048576 < zs.length
  · go_enter Tryd.func3, Tryd.ntmps3
    go_wp2_with fail
    refine (c_szBig _ _ _ hn hb _).mono ?_
    rintro e w' ⟨rfl, rfl⟩
    go_wp2_with fail
    go_ret
    exact ⟨rfl, Below.refl _ _⟩
  · go_enter Tryd.func3, Tryd.ntmps3
    go_wp2_with fail
    refine (c_szOk _ _ _ 1048576 (by omega) (by omega) (by omega) _).mono ?_
    rintro e w' ⟨rfl, rfl⟩
    go_wp2_with fail
    refine (c_toClassS _ _ _ zs (by omega) _ hc).mono ?_
    rintro e w1 ⟨g1, hg1, rfl, hO1, hB1⟩
    have hc1 := hc.keep hB1
    have hC1 := hO1.cls.1
    go_wp2_with fail
    refine (c_specExactNatural _ _ _ zs (by omega) _ hC1).mono ?_
    rintro e w2 ⟨rfl, hB2⟩
    have hc2 := hc1.keep hB2
    go_wp2_with fail
    refine (c_toClassS _ _ _ zs (by omega) _ hc2).mono ?_
    rintro e w3 ⟨g3, hg3, rfl, hO3, hB3⟩
    have hc3 := hc2.keep hB3
    have hC3 := hO3.cls.1
    have hT3 := bt2 (bt2 hB1 hB2) hB3
    go_wp2_with fail
    refine (c_implExactNatural _ _ _ zs (by omega) _ (hgE.keep hT3) hC3).mono ?_
    rintro e w4 ⟨rfl, hB4⟩
    have hc4 := hc3.keep hB4
    have hO34 := hO3.keep hB4
    have hT4 := bt2 hT3 hB4
    go_wp2_with fail
    refine (c_toClassS _ _ _ zs (by omega) _ hc4).mono ?_
    rintro e w5 ⟨g5, hg5, rfl, hO5, hB5⟩
    have hT5 := bt2 hT4 hB5
    have hO35 := hO34.keep hB5
    go_wp2_with fail
    refine (c_eqClassS _ _ _ _ _ zs (by omega) _ (spreadC hO35) (spreadC hO5)).mono ?_
    rintro e w6 ⟨rfl, hB6⟩
    go_wp2_with fail
    go_ret
    exact ⟨rfl, bt2 hT5 hB6⟩
end Go.Proofs.YtjempdnbbghnlaaDoor
