/- Contracts of HoleWorst, in the program and in the model; the program's holesAndPeriod. -/
import Derived.Test.YtelgmmnjndinhaaS15
import Derived.BigQuiet
namespace Go.Proofs.Ytelgmmnjndinhaa
open Go.RowKit
def RetIP (w : World) (zs : List Int) (P : Int) (ok : Bool) (e : Ending) (w' : World) : Prop := ∃ v, e = .returned (.tuple #[v, .int .i64 P, .bool ok]) ∧ OwnI w' w.heap.size 3 v zs ∧ Below w.heap.size w w'
set_option maxHeartbeats 400000 in
theorem c_holesAndPeriod_t (s : Option Addr) (n cap : Nat) (zs : List Cl) (hn : n ≤ 1048576) (hs : sysB zs = true) (w : World) (hc : Cls w s n zs) : Calls Try.prog 56 #[.slice s n cap] w (RetIP w (holL zs) (perI zs) true) := by
  go_enter Try.func56, Try.ntmps56
  go_wp2_with fail
  refine (c_implSystemPeriod_t _ _ _ zs hn hs _ hc).mono ?_
  rintro e w2 ⟨rfl, hb⟩
  have hc2 := hc.keep hb
  have hcon := c_implSystemHoles s n cap zs hn w2 hc2
  rw [hs, holR_t hs] at hcon
  go_wp2_with fail
  refine hcon.mono ?_
  rintro e w3 ⟨v, rfl, hO, hb3⟩
  go_wp2_with fail
  go_ret3
  exact ⟨_, rfl, hO.low hb.size, bt2 hb hb3⟩
theorem c_holesAndPeriod_f (s : Option Addr) (n cap : Nat) (zs : List Cl) (hn : n ≤ 1048576) (hs : sysB zs = false) (w : World) (hc : Cls w s n zs) : Calls Try.prog 56 #[.slice s n cap] w (RetIP w [] 0 false) := by
  go_enter Try.func56, Try.ntmps56
  go_wp2_with fail
  refine (c_implSystemPeriod_f _ _ _ zs hn hs _ hc).mono ?_
  rintro e w2 ⟨rfl, hb⟩
  go_wp2_with fail
  go_ret3
  exact ⟨_, rfl, World.ownsRow_nil _ _ _ _, hb⟩
/-- both numbers of HoleWorst -/
def worG (zs : List Cl) : Int := gcdI ((holL zs).length : Int) (perI zs)
def worN (zs : List Cl) : Int := selI (sysB zs) (((holL zs).length : Int) / worG zs)
def worM (zs : List Cl) : Int := selI (sysB zs) (perI zs / worG zs)
theorem holL_le {zs : List Cl} (h : sysB zs = true) : (holL zs).length ≤ 1000 := by
  have := holR_le zs
  rwa [holR_t h] at this
theorem worG_bd {zs : List Cl} (h : sysB zs = true) : 1 ≤ worG zs := by
  obtain ⟨_, _, _, _, P1, P2⟩ := sysB_facts h
  unfold worG gcdI
  have : 0 < (((holL zs).length : Int).toNat).gcd (perI zs).toNat := Nat.gcd_pos_of_pos_right _ (by omega)
  omega
def Ret3 (a b : Int) (ok : Bool) (w : World) (e : Ending) (w' : World) : Prop := e = .returned (.tuple #[.int .i64 a, .int .i64 b, .bool ok]) ∧ Below w.heap.size w w'
set_option maxHeartbeats 1000000 in
theorem c_implHoleWorst (s : Option Addr) (n cap : Nat) (zs : List Cl) (hn : n ≤ 1048576) (w : World) (hc : Cls w s n zs) : Calls Try.prog 41 #[.slice s n cap] w (Ret3 (worN zs) (worM zs) (sysB zs) w) := by
  cases hs : sysB zs
  · have hcon := c_holesAndPeriod_f s n cap zs hn hs w hc
    have H1 := Lib.hid (show worN zs = 0 by simp [worN, hs, selI])
    have H2 := Lib.hid (show worM zs = 0 by simp [worM, hs, selI])
    go_enter Try.func41, Try.ntmps41
    go_wp2_with (go_at_call 56; refine hcon.mono ?_; rintro e w2 ⟨v, rfl, hO, hb⟩)
    go_ret3
    rw [H1.out, H2.out]
    exact ⟨rfl, hb⟩
  · have hcon := c_holesAndPeriod_t s n cap zs hn hs w hc
    obtain ⟨_, _, _, _, P1, P2⟩ := sysB_facts hs
    have hl := holL_le hs
    have hg := worG_bd hs
    have H1 := Lib.hid (show worN zs = ((holL zs).length : Int) / worG zs by simp [worN, hs, selI])
    have H2 := Lib.hid (show worM zs = perI zs / worG zs by simp [worM, hs, selI])
    have HG := Lib.hid (show gcdI ((holL zs).length : Int) (perI zs) = worG zs from rfl)
    generalize hP : perI zs = P at *
    generalize hL : (holL zs).length = L at *
    generalize hW : worG zs = G at *
    clear hP hW
    have hq : 0 ≤ (L : Int) / G ∧ (L : Int) / G ≤ (L : Int) := quo_bd (by omega) (by omega)
    have hw : IntKind.i64.wrap ((L : Int) / G) = (L : Int) / G := IntWalk.i64_in _ (by omega)
    go_enter Try.func41, Try.ntmps41
    go_wp2_with (first
      | (go_at_call 56; refine hcon.mono ?_; rintro e w2 ⟨v, rfl, hO, hb⟩; obtain ⟨s2, k2, hv, hI, _⟩ := hO.spread; rw [hL] at hv; subst hv)
      | (go_at_call 64; refine (c_commonDivisor (L : Int) P (by omega) (by omega) (by omega) (by omega) _).mono ?_; rintro e w3 ⟨nq, rfl, rfl⟩; rw [HG.out])
      | fail)
    go_quiet (fail)
    go_wp2_with fail
    go_ret3
    rw [H1.out, H2.out]
    exact ⟨rfl, bel_drewN (bel_drewN hb _) _⟩
set_option maxHeartbeats 1000000 in
theorem c_specHoleWorst (s : Option Addr) (n cap : Nat) (zs : List Cl) (hn : n ≤ 1048576) (w : World) (hc : Cls w s n zs) : Calls Try.prog 40 #[.slice s n cap] w (Ret3 (worN zs) (worM zs) (sysB zs) w) := by
  have hcon := c_specSystemIn s n cap zs hn w hc
  cases hs : sysB zs
  · rw [hs] at hcon
    have H1 := Lib.hid (show worN zs = 0 by simp [worN, hs, selI])
    have H2 := Lib.hid (show worM zs = 0 by simp [worM, hs, selI])
    go_enter Try.func40, Try.ntmps40
    go_wp2_with (go_at_call 44; refine hcon.mono ?_; rintro e w2 ⟨rfl, hb⟩)
    go_ret3
    rw [H1.out, H2.out]
    exact ⟨rfl, hb⟩
  · rw [hs] at hcon
    obtain ⟨_, _, ha, _, P1, P2⟩ := sysB_facts hs
    have hl := holL_le hs
    have hg := worG_bd hs
    have hcon2 := fun w1 (h1 : Cls w1 s n zs) => c_l2Holes s n cap zs hn hs w1 h1
    have hcon3 := fun w1 (h1 : Cls w1 s n zs) => c_l2Period s n cap zs hn ha w1 h1
    have H1 := Lib.hid (show worN zs = ((holL zs).length : Int) / worG zs by simp [worN, hs, selI])
    have H2 := Lib.hid (show worM zs = perI zs / worG zs by simp [worM, hs, selI])
    have HG := Lib.hid (show gcdI ((holL zs).length : Int) (perI zs) = worG zs from rfl)
    generalize hP : perI zs = P at *
    generalize hL : (holL zs).length = L at *
    generalize hW : worG zs = G at *
    clear hP hW
    have hq : 0 ≤ (L : Int) / G ∧ (L : Int) / G ≤ (L : Int) := quo_bd (by omega) (by omega)
    have hw : IntKind.i64.wrap ((L : Int) / G) = (L : Int) / G := IntWalk.i64_in _ (by omega)
    go_enter Try.func40, Try.ntmps40
    go_wp2_with fail
    refine hcon.mono ?_
    rintro e w2 ⟨rfl, hb⟩
    have hc2 := hc.keep hb
    go_wp2_with fail
    refine (hcon2 _ hc2).mono ?_
    rintro e w3 ⟨v, rfl, hO, hb3⟩
    have hc3 := hc2.keep hb3
    obtain ⟨s2, k2, hv, hI, _⟩ := hO.spread
    rw [hL] at hv
    subst hv
    go_wp2_with fail
    refine (hcon3 _ hc3).mono ?_
    rintro e w4 ⟨nq, rfl, rfl⟩
    go_wp2_with (go_at_call 63; refine (c_l1Gcd (L : Int) P (by omega) (by omega) (by omega) (by omega) _).mono ?_; rintro e w5 ⟨rfl, rfl⟩; rw [HG.out])
    go_quiet (fail)
    go_wp2_with fail
    go_ret3
    rw [H1.out, H2.out]
    exact ⟨rfl, bel_drewN (bel_drewN (bt2 hb hb3) _) _⟩
end Go.Proofs.Ytelgmmnjndinhaa
