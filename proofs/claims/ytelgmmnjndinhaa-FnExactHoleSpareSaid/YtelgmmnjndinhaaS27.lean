/- The program's sparePlaces and HoleSpare. -/
import Derived.Test.YtelgmmnjndinhaaS26
import Derived.Test.YtelgmmnjndinhaaS5
namespace Go.Proofs.Ytelgmmnjndinhaa
open Go.RowKit
/-- the places below k of classes that are spare below E -/
def splK (zs : List Cl) (E : Int) : Nat → List Int
  | 0 => []
  | k + 1 => bif spaB zs k E then splK zs E k ++ [(k : Int)] else splK zs E k
def splL (zs : List Cl) (E : Int) : List Int := splK zs E zs.length
theorem splK_le (zs : List Cl) (E : Int) (k : Nat) : (splK zs E k).length ≤ k := by
  induction k with
  | zero => simp [splK]
  | succ k ih =>
    simp only [splK]
    cases spaB zs k E
    · simp only [cond_false]; omega
    · simp only [cond_true, List.length_append, List.length_singleton]; omega
set_option maxRecDepth 20000 in
set_option maxHeartbeats 1000000 in
theorem c_sparePlaces (s : Option Addr) (n cap : Nat) (zs : List Cl) (E : Int) (hn : n ≤ 1000) (ha : allB zs = true) (hE1 : 1 ≤ E) (hE : E ≤ 1000) (w : World) (hc : Cls w s n zs) :
    Calls Try.prog 58 #[.slice s n cap, .int .i64 E] w fun e w' => ∃ v, e = .returned v ∧ OwnI w' w.heap.size 3 v (splL zs E) ∧ Below w.heap.size w w' := by
  have hlen := hc.len
  obtain ⟨i0, hi, hz0, hz1, hz2⟩ := info_parts infoI
  have HT := Lib.hid (show splK zs E n = splL zs E by unfold splL; rw [hlen])
  have HA := Lib.hid ha
  clear hlen ha
  go_enter Try.func58, Try.ntmps58
  go_wp2_with fail
  go_loopw [5, 9] (fun v i wr => ∃ (k : Nat), k ≤ n ∧ i = .int .i64 k ∧ wr.ownsRow w.heap.size 3 1 v (splK zs E k).length ((splK zs E k).map (Value.int .i64)) ∧ Below w.heap.size w wr) (fun _ i _ => n - (intOf i).toNat)
  case atStart => exact ⟨0, Nat.zero_le _, rfl, World.ownsRow_nil _ _ _ _, Below.refl _ _⟩
  case round =>
    obtain ⟨k, hk, rfl, hO, hB⟩ := hrel
    have hcr := hc.keep hB
    by_cases hlt : k < n
    · have hKl := splK_le zs E k
      cases he : spaB zs k E
      · have HK := Lib.hid (show splK zs E (k + 1) = splK zs E k by simp only [splK, he, cond_false])
        go_wp2_with fail
        refine (c_spareAt _ _ _ zs k E (by omega) hlt HA.out hE1 hE _ hcr).mono ?_
        rintro e w5 ⟨rfl, hb5⟩
        have hB5 := bt2 hB hb5
        have hO5 := row_keep hO hb5
        rw [he]
        go_wp2_with fail
        go_roundw
        case rel => exact ⟨k + 1, by omega, by go_num, by rw [HK.out]; exact hO5, hB5⟩
        case measure => simp [intOf]; omega
      · have HK := Lib.hid (show splK zs E (k + 1) = splK zs E k ++ [(k : Int)] by simp only [splK, he, cond_true])
        go_wp2_with fail
        refine (c_spareAt _ _ _ zs k E (by omega) hlt HA.out hE1 hE _ hcr).mono ?_
        rintro e w5 ⟨rfl, hb5⟩
        have hB5 := bt2 hB hb5
        have hO5 := row_keep hO hb5
        have hbs : w.heap.size ≤ w5.heap.size := hB5.size
        rw [he]
        generalize hLe : (splK zs E k).length = L at *
        go_wp2_with (at_builtin; refine wpList_append_own _ rfl _ _ 24 rfl w.heap.size 3 i0 (.int .i64 0) 1 8 Try.underlying24 hi hz0 hz1 hz2 rfl (by decide) u5 L _ rfl (hO5.alloc _) ⟨w5.heap.size, 0, none⟩ 1 1 [.int .i64 k] rfl rfl (one_new w5 _ _) (by simp [Value.oneCell']) (by unfold maxLen; omega) (by omega) (by simp; omega) ?_; intro v7 w7 hown7 hgrow7 _)
        have hb7 : Below w.heap.size w w7 := (hB5.alloc hbs _).grown hgrow7 (by simp; omega) (fun g e => (hO5.lt g e).1)
        go_roundw
        case rel => exact ⟨k + 1, by omega, by go_num, by rw [HK.out, List.map_append, List.length_append, hLe]; exact hown7, hb7⟩
        case measure => simp [intOf]; omega
    · have hk' : k = n := by omega
      subst hk'
      rw [HT.out] at hO
      have hOC : OwnI wr w.heap.size 3 u5 (splL zs E) := hO
      clear hO
      go_wp2_with fail
      go_ret
      exact ⟨_, rfl, hOC, hB⟩
def hspR (zs : List Cl) : List Int := bif sysB zs then splL zs (perI zs) else []
theorem hspR_t {zs : List Cl} (h : sysB zs = true) : hspR zs = splL zs (perI zs) := by simp [hspR, h]
theorem hspR_f {zs : List Cl} (h : sysB zs = false) : hspR zs = [] := by simp [hspR, h]
theorem hspR_le (zs : List Cl) : (hspR zs).length ≤ 1000 := by
  cases h : sysB zs
  · simp [hspR_f h]
  · rw [hspR_t h]
    have := splK_le zs (perI zs) zs.length
    have := (sysB_facts h).2.1
    unfold splL
    omega
set_option maxHeartbeats 400000 in
theorem c_implHoleSpare (s : Option Addr) (n cap : Nat) (zs : List Cl) (hn : n ≤ 1048576) (w : World) (hc : Cls w s n zs) : Calls Try.prog 34 #[.slice s n cap] w (RetI w (hspR zs) (sysB zs)) := by
  cases hs : sysB zs
  · rw [hspR_f hs]
    have hcon := c_implSystemPeriod_f s n cap zs hn hs w hc
    go_enter Try.func34, Try.ntmps34
    go_wp2_with (go_at_call 47; refine hcon.mono ?_; rintro e w2 ⟨rfl, hb⟩)
    go_ret2
    exact ⟨_, rfl, World.ownsRow_nil _ _ _ _, hb⟩
  · rw [hspR_t hs]
    have hcon := c_implSystemPeriod_t s n cap zs hn hs w hc
    obtain ⟨hl1, hl2, ha, _, P1, P2⟩ := sysB_facts hs
    have hlen := hc.len
    go_enter Try.func34, Try.ntmps34
    go_wp2_with fail
    refine hcon.mono ?_
    rintro e w2 ⟨rfl, hb⟩
    have hc2 := hc.keep hb
    go_wp2_with fail
    refine (c_sparePlaces _ _ _ zs _ (by omega) ha P1 P2 _ hc2).mono ?_
    rintro e w3 ⟨v, rfl, hO, hb3⟩
    go_wp2_with fail
    go_ret2
    exact ⟨_, rfl, hO.low hb.size, bt2 hb hb3⟩
end Go.Proofs.Ytelgmmnjndinhaa
