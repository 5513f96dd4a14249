/- The model's holes. -/
import Derived.Test.YtgdpebnnmklbjaaS5
namespace Go.Proofs.Ytgdpebnnmklbjaa
open Go.RowKit
/-- the holes below k -/
def holK (zs : List Cl) : Nat → List Int
  | 0 => []
  | k + 1 => bif cntN zs k == 0 then holK zs k ++ [(k : Int)] else holK zs k
def holL (zs : List Cl) : List Int := holK zs (perI zs).toNat
def holR (zs : List Cl) : List Int := bif sysB zs then holL zs else []
theorem holR_t {zs : List Cl} (h : sysB zs = true) : holR zs = holL zs := by simp [holR, h]
theorem holR_f {zs : List Cl} (h : sysB zs = false) : holR zs = [] := by simp [holR, h]
theorem holK_le (zs : List Cl) (k : Nat) : (holK zs k).length ≤ k := by
  induction k with
  | zero => simp [holK]
  | succ k ih =>
    simp only [holK]
    cases cntN zs k == 0
    · simp only [cond_false]; omega
    · simp only [cond_true, List.length_append, List.length_singleton]; omega
theorem holR_le (zs : List Cl) : (holR zs).length ≤ 1000 := by
  cases h : sysB zs
  · simp [holR_f h]
  · rw [holR_t h]
    obtain ⟨_, _, _, _, _, h2⟩ := sysB_facts h
    have := holK_le zs (perI zs).toNat
    unfold holL
    omega
set_option maxHeartbeats 1000000 in
theorem c_l2Holes (s : Option Addr) (n cap : Nat) (zs : List Cl) (hn : n ≤ 1048576) (hs : sysB zs = true) (w : World) (hc : Cls w s n zs) : Calls Try.prog 59 #[.slice s n cap] w fun e w' => ∃ v, e = .returned v ∧ OwnI w' w.heap.size 3 v (holL zs) ∧ Below w.heap.size w w' := by
  have hlen := hc.len
  have HL := Lib.hid hlen
  clear hlen
  obtain ⟨i0, hi, hz0, hz1, hz2⟩ := info_parts infoI
  have hb1 : Below w.heap.size w (w.alloc (.cells #[] 3)) := ba (Below.refl _ _) _
  have hO1 : OwnI (w.alloc (.cells #[] 3)) w.heap.size 3 (.slice (some ⟨w.heap.size, 0, none⟩) 0 0) [] := World.ownsRow_lit w #[] 0 (Nat.le_refl _) (by unfold maxLen; omega) rfl
  have hc1 := hc.keep hb1
  obtain ⟨hl1, hl2, ha, _, P1, P2⟩ := sysB_facts hs
  have HA := Lib.hid ha
  obtain ⟨P, hP⟩ : ∃ P : Nat, perI zs = (P : Int) := ⟨(perI zs).toNat, by omega⟩
  have HP := Lib.hid hP
  have hP2 : P ≤ 1000 := by omega
  have HT := Lib.hid (show holK zs P = holL zs by unfold holL; rw [hP]; rfl)
  clear ha hl1 hl2
  go_enter Try.func59, Try.ntmps59
  go_wp2_with fail
  generalize w.alloc (.cells #[] 3) = W1 at *
  have hO3 : W1.ownsRow w.heap.size 3 1 (.slice (some ⟨w.heap.size, 0, none⟩) 0 0) 0 [] := hO1
  clear hO1
  go_loopw [3, 4] (fun v i wr => ∃ (k : Nat), k ≤ P ∧ i = .int .i64 k ∧ wr.ownsRow w.heap.size 3 1 v (holK zs k).length ((holK zs k).map (Value.int .i64)) ∧ Below w.heap.size w wr) (fun _ i _ => P - (intOf i).toNat)
  case atStart => exact ⟨0, Nat.zero_le _, rfl, hO3, hb1⟩
  case round =>
    obtain ⟨k, hk, rfl, hO, hB⟩ := hrel
    have hc2 := hc.keep hB
    by_cases hlt : k < P
    · have hKl := holK_le zs k
      cases he : (cntN zs k == 0)
      · have HK := Lib.hid (show holK zs (k + 1) = holK zs k by simp only [holK, he, cond_false])
        go_wp2_with fail
        refine (c_l2Period _ _ _ zs hn HA.out _ hc2).mono ?_
        rintro e w3 ⟨nq, rfl, rfl⟩
        have hB3 := bel_drewN hB nq
        have hc3 := hc.keep hB3
        have hO3' : (wr.drewN nq).ownsRow w.heap.size 3 1 u3 (holK zs k).length ((holK zs k).map (Value.int .i64)) := hO
        have hlt' : ((k : Int) < perI zs) := by rw [HP.out]; omega
        generalize wr.drewN nq = wq at *
        go_wp2_with fail
        refine (c_l2Count _ _ _ zs _ hn HA.out _ hc3).mono ?_
        rintro e w5 ⟨rfl, hb5⟩
        have hB5 := bt2 hB3 hb5
        have hO5 := row_keep hO3' hb5
        go_wp2_with fail
        go_roundw
        case rel => exact ⟨k + 1, by omega, by go_num, by rw [HK.out]; exact hO5, hB5⟩
        case measure => simp [intOf]; omega
      · have HK := Lib.hid (show holK zs (k + 1) = holK zs k ++ [(k : Int)] by simp only [holK, he, cond_true])
        go_wp2_with fail
        refine (c_l2Period _ _ _ zs hn HA.out _ hc2).mono ?_
        rintro e w3 ⟨nq, rfl, rfl⟩
        have hB3 := bel_drewN hB nq
        have hc3 := hc.keep hB3
        have hO3' : (wr.drewN nq).ownsRow w.heap.size 3 1 u3 (holK zs k).length ((holK zs k).map (Value.int .i64)) := hO
        have hlt' : ((k : Int) < perI zs) := by rw [HP.out]; omega
        generalize wr.drewN nq = wq at *
        go_wp2_with fail
        refine (c_l2Count _ _ _ zs _ hn HA.out _ hc3).mono ?_
        rintro e w5 ⟨rfl, hb5⟩
        have hB5 := bt2 hB3 hb5
        have hO5 := row_keep hO3' hb5
        have hbs : w.heap.size ≤ w5.heap.size := hB5.size
        generalize hLe : (holK zs k).length = L at *
        go_wp2_with (at_builtin; refine wpList_append_own _ rfl _ _ 30 rfl w.heap.size 3 i0 (.int .i64 0) 1 8 Try.underlying30 hi hz0 hz1 hz2 rfl (by decide) u3 L _ rfl (hO5.alloc _) ⟨w5.heap.size, 0, none⟩ 1 1 [.int .i64 k] rfl rfl (one_new w5 _ _) (by simp [Value.oneCell']) (by unfold maxLen; omega) (by omega) (by simp; omega) ?_; intro v7 w7 hown7 hgrow7 _)
        have hb7 : Below w.heap.size w w7 := (hB5.alloc hbs _).grown hgrow7 (by simp; omega) (fun g e => (hO5.lt g e).1)
        go_roundw
        case rel => exact ⟨k + 1, by omega, by go_num, by rw [HK.out, List.map_append, List.length_append, hLe]; exact hown7, hb7⟩
        case measure => simp [intOf]; omega
    · have hk' : k = P := by omega
      subst hk'
      rw [HT.out] at hO
      have hOC : OwnI wr w.heap.size 3 u3 (holL zs) := hO
      clear hO
      go_wp2_with fail
      refine (c_l2Period _ _ _ zs hn HA.out _ hc2).mono ?_
      rintro e w3 ⟨nq, rfl, rfl⟩
      have hB3 := bel_drewN hB nq
      have hO3' : OwnI (wr.drewN nq) w.heap.size 3 u3 (holL zs) := hOC
      have hlt' : perI zs ≤ (k : Int) := by rw [HP.out]; omega
      generalize wr.drewN nq = wq at *
      go_wp2_with fail
      go_ret
      exact ⟨_, rfl, hO3', hB3⟩
set_option maxHeartbeats 400000 in
theorem c_specSystemHoles (s : Option Addr) (n cap : Nat) (zs : List Cl) (hn : n ≤ 1048576) (w : World) (hc : Cls w s n zs) : Calls Try.prog 28 #[.slice s n cap] w (RetI w (holR zs) (sysB zs)) := by
  cases hs : sysB zs
  · rw [holR_f hs]
    go_enter Try.func28, Try.ntmps28
    go_wp2_with fail
    refine (c_specSystemIn _ _ _ zs hn _ hc).mono ?_
    rintro e w2 ⟨rfl, hb⟩
    have hO1 : OwnI (w2.alloc (.cells #[] 3)) w.heap.size 3 (.slice (some ⟨w2.heap.size, 0, none⟩) 0 0) [] := World.ownsRow_lit w2 #[] 0 hb.size (by unfold maxLen; omega) rfl
    rw [hs]
    go_wp2_with fail
    go_ret2
    exact ⟨_, rfl, hO1, ba hb _⟩
  · rw [holR_t hs]
    go_enter Try.func28, Try.ntmps28
    go_wp2_with fail
    refine (c_specSystemIn _ _ _ zs hn _ hc).mono ?_
    rintro e w2 ⟨rfl, hb⟩
    have hc2 := hc.keep hb
    rw [hs]
    go_wp2_with fail
    refine (c_l2Holes _ _ _ zs hn hs _ hc2).mono ?_
    rintro e w3 ⟨v, rfl, hO, hb3⟩
    go_wp2_with fail
    go_ret2
    exact ⟨_, rfl, hO.low hb.size, bt2 hb hb3⟩
end Go.Proofs.Ytgdpebnnmklbjaa
