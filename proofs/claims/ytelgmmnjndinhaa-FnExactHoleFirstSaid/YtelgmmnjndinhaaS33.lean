/- Contracts of HoleFirst, in the program and in the model. -/
import Derived.Test.YtelgmmnjndinhaaS18
import Derived.Test.YtelgmmnjndinhaaS21
import Derived.Test.YtelgmmnjndinhaaMathT
namespace Go.Proofs.Ytelgmmnjndinhaa
open Go.RowKit
theorem cnt_hit {zs : List Cl} {x : Int} (h : (cntN zs x == 0) = true) : covB zs x = false := by rw [covB_cnt, h]; rfl
theorem cnt_miss {zs : List Cl} {x : Int} (h : (cntN zs x == 0) = false) : covB zs x = true := by rw [covB_cnt, h]; rfl
theorem hol_none {zs : List Cl} {k : Nat} (h : ∀ j : Nat, j < k → covB zs (j : Int) = true) : holK zs k = [] := by
  induction k with
  | zero => rfl
  | succ k ih =>
    have hk := h k (by omega)
    rw [covB_cnt] at hk
    simp only [holK]
    cases he : (cntN zs k == 0)
    · rw [cond_false]; exact ih fun j hj => h j (by omega)
    · rw [he] at hk; cases hk
theorem hol_first {zs : List Cl} {x : Nat} (h : ∀ j : Nat, j < x → covB zs (j : Int) = true) (hx : covB zs (x : Int) = false) : ∀ k, x < k → ∃ t, holK zs k = (x : Int) :: t := by
  intro k
  induction k with
  | zero => intro hk; omega
  | succ k ih =>
    intro hk
    simp only [holK]
    rcases Nat.lt_or_ge x k with h1 | h1
    · obtain ⟨t, ht⟩ := ih h1
      rw [ht]
      cases (cntN zs k == 0)
      · exact ⟨t, rfl⟩
      · exact ⟨_, rfl⟩
    · obtain rfl : k = x := by omega
      rw [hol_none h]
      rw [covB_cnt] at hx
      cases he : (cntN zs k == 0)
      · rw [he] at hx; cases hx
      · exact ⟨[], rfl⟩
/-- what the law HoleFirst answers -/
def fisR (zs : List Cl) : Int := (holR zs)[0]?.getD 0
def fisB (zs : List Cl) : Bool := !(holR zs).isEmpty
theorem first_all {zs : List Cl} (hs : sysB zs = true) (h : ∀ j : Nat, j < 2 ^ zs.length → covB zs (j : Int) = true) : fisR zs = 0 ∧ fisB zs = false := by
  have hh := cov_all (Div.sys hs) h
  have : holR zs = [] := by rw [holR_t hs]; exact hol_none fun j _ => hh j
  simp [fisR, fisB, this]
theorem first_at {zs : List Cl} (hs : sysB zs = true) {x : Nat} (h : ∀ j : Nat, j < x → covB zs (j : Int) = true) (hx : covB zs (x : Int) = false) : fisR zs = (x : Int) ∧ fisB zs = true := by
  obtain ⟨_, _, _, _, P1, P2⟩ := sysB_facts hs
  have hD := Div.sys hs
  have hlt : x < (perI zs).toNat := by
    refine Nat.lt_of_not_le fun hle => ?_
    have hm := cov_mod (x := (x : Int)) fun c hc => (hD.2.2 c hc).2
    have h0 : 0 ≤ (x : Int) % perI zs := Int.emod_nonneg _ (by omega)
    have h1 : (x : Int) % perI zs < perI zs := Int.emod_lt_of_pos _ (by omega)
    have := h ((x : Int) % perI zs).toNat (by omega)
    rw [Int.toNat_of_nonneg h0, hm, hx] at this
    cases this
  obtain ⟨t, ht⟩ := hol_first h hx _ hlt
  have : holR zs = (x : Int) :: t := by rw [holR_t hs]; exact ht
  simp [fisR, fisB, this]
def RetNB (a : Int) (ok : Bool) (w : World) (e : Ending) (w' : World) : Prop := e = .returned (.tuple #[.int .i64 a, .bool ok]) ∧ Below w.heap.size w w'
set_option maxHeartbeats 1000000 in
theorem c_implHoleFirst (s : Option Addr) (n cap : Nat) (zs : List Cl) (hn : n ≤ 1048576) (w : World) (hc : Cls w s n zs) : Calls Try.prog 30 #[.slice s n cap] w (RetNB (fisR zs) (fisB zs) w) := by
  have hcon := c_implSystemHoles s n cap zs hn w hc
  cases hs : sysB zs
  · rw [hs, holR_f hs] at hcon
    have H1 := Lib.hid (show fisR zs = 0 by simp [fisR, holR_f hs])
    have H2 := Lib.hid (show fisB zs = false by simp [fisB, holR_f hs])
    go_enter Try.func30, Try.ntmps30
    go_wp2_with (go_at_call 17; refine hcon.mono ?_; rintro e w2 ⟨v2, rfl, hO2, hB2⟩)
    go_ret2
    rw [H1.out, H2.out]
    exact ⟨rfl, hB2⟩
  · rw [hs] at hcon
    cases hl : holR zs with
    | nil =>
      rw [hl] at hcon
      have H1 := Lib.hid (show fisR zs = 0 by simp [fisR, hl])
      have H2 := Lib.hid (show fisB zs = false by simp [fisB, hl])
      go_enter Try.func30, Try.ntmps30
      go_wp2_with (go_at_call 17; refine hcon.mono ?_; rintro e w2 ⟨v2, rfl, hO2, hB2⟩; obtain ⟨s2, cap2, rfl, _, _⟩ := hO2.spread)
      go_ret2
      rw [H1.out, H2.out]
      exact ⟨rfl, hB2⟩
    | cons x t =>
      have hle := holR_le zs
      rw [hl] at hcon hle
      obtain ⟨L, hL⟩ : ∃ L, (x :: t).length = L := ⟨_, rfl⟩
      rw [hL] at hle
      have hL0 : 0 < L := by rw [← hL]; simp
      have hz0 : (0 : Int) < (L : Int) := by omega
      have hne : ((L : Int) == 0) = false := by simp; omega
      have H1 := Lib.hid (show fisR zs = x by simp [fisR, hl])
      have H2 := Lib.hid (show fisB zs = true by simp [fisB, hl])
      have HX := Lib.hid (show (x :: t)[0]?.getD 0 = x by simp)
      generalize hQ : x :: t = Q at *
      clear hQ hl
      go_enter Try.func30, Try.ntmps30
      go_wp2_with (go_at_call 17; refine hcon.mono ?_; rintro e w2 ⟨v2, rfl, hO2, hB2⟩; obtain ⟨s2, k2, hv2, hI, _⟩ := hO2.spread; rw [hL] at hv2 hI; subst hv2; obtain ⟨pb, poff, rfl, hpb, hpx⟩ := ints_at hI 0 hL0; rw [HX.out, Nat.add_zero] at hpx)
      go_ret2
      rw [H1.out, H2.out]
      exact ⟨rfl, hB2⟩
set_option maxHeartbeats 1000000 in
theorem c_specHoleFirst (s : Option Addr) (n cap : Nat) (zs : List Cl) (hn : n ≤ 1048576) (w : World) (hc : Cls w s n zs) : Calls Try.prog 29 #[.slice s n cap] w (RetNB (fisR zs) (fisB zs) w) := by
  have hcon := c_specSystemIn s n cap zs hn w hc
  cases hs : sysB zs
  · rw [hs] at hcon
    have H1 := Lib.hid (show fisR zs = 0 by simp [fisR, holR_f hs])
    have H2 := Lib.hid (show fisB zs = false by simp [fisB, holR_f hs])
    go_enter Try.func29, Try.ntmps29
    go_wp2_with (go_at_call 44; refine hcon.mono ?_; rintro e w2 ⟨rfl, hb⟩)
    go_ret2
    rw [H1.out, H2.out]
    exact ⟨rfl, hb⟩
  · rw [hs] at hcon
    obtain ⟨hl1, hl2, ha, _, P1, P2⟩ := sysB_facts hs
    have hlen := hc.len
    have HA := Lib.hid ha
    have HF := Lib.hid (fun h => first_all hs h)
    have HG := Lib.hid (fun x h hx => first_at hs (x := x) h hx)
    rw [hlen] at HF hl1 hl2
    clear hlen ha
    have hcount := fun (x : Int) w1 (h1 : Cls w1 s n zs) => c_l2Count s n cap zs x hn HA.out w1 h1
    go_enter Try.func29, Try.ntmps29
    go_wp2_with fail
    refine hcon.mono ?_
    rintro e w2 ⟨rfl, hb⟩
    go_wp2_with fail
    go_loopw [4] (fun i wr => ∃ k : Nat, k ≤ 2 ^ n ∧ i = .int .i64 k ∧ (∀ j : Nat, j < k → Hid (covB zs (j : Int) = true)) ∧ Below w.heap.size w wr) (fun i _ => 256 - (intOf i).toNat)
    case atStart => exact ⟨0, Nat.zero_le _, rfl, fun j hj => by omega, hb⟩
    case round =>
      obtain ⟨k, hk, rfl, hv, hB⟩ := hrel
      have HV := Lib.hid hv
      clear hv
      have hcr := hc.keep hB
      have hn9 : n = 1 ∨ n = 2 ∨ n = 3 ∨ n = 4 ∨ n = 5 ∨ n = 6 ∨ n = 7 ∨ n = 8 := by omega
      have hp : (2 : Nat) ^ n ≤ 256 := Nat.pow_le_pow_right (by omega) hl2
      have fin : ∀ T : Nat, T = 2 ^ n → (k < T ∨ k = T) := fun T h => by omega
      rcases hn9 with rfl | rfl | rfl | rfl | rfl | rfl | rfl | rfl
      · rcases fin 2 rfl with hlt | rfl
        · have hlz : (k : Int) < 2 := by omega
          clear fin hk hp HF
          cases he : (cntN zs k == 0)
          · have HK := Lib.hid (show ∀ j' : Nat, j' < k + 1 → Hid (covB zs (j' : Int) = true) from fun j' hj' => by
              by_cases e : j' < k
              · exact HV.out j' e
              · have : j' = k := by omega
                subst this; exact Lib.hid (cnt_miss he))
            have hk2 : k + 1 ≤ 2 ^ 1 := by omega
            go_wp2_with fail
            refine (hcount _ _ hcr).mono ?_
            rintro e w3 ⟨rfl, hb3⟩
            have hB3 := bt2 hB hb3
            go_wp2_with fail
            go_roundw
            case rel => exact ⟨k + 1, hk2, by go_num, HK.out, hB3⟩
            case measure => simp [intOf]; omega
          · have HR := Lib.hid (HG.out k (fun j hj => (HV.out j hj).out) (cnt_hit he))
            go_wp2_with fail
            refine (hcount _ _ hcr).mono ?_
            rintro e w3 ⟨rfl, hb3⟩
            have hB3 := bt2 hB hb3
            go_wp2_with fail
            go_ret2
            rw [HR.out.1, HR.out.2]
            exact ⟨rfl, hB3⟩
        · have HR := Lib.hid (HF.out fun j hj => (HV.out j hj).out)
          clear fin hk hp HF
          go_wp2_with fail
          go_ret2
          rw [HR.out.1, HR.out.2]
          exact ⟨rfl, hB⟩
      · rcases fin 4 rfl with hlt | rfl
        · have hlz : (k : Int) < 4 := by omega
          clear fin hk hp HF
          cases he : (cntN zs k == 0)
          · have HK := Lib.hid (show ∀ j' : Nat, j' < k + 1 → Hid (covB zs (j' : Int) = true) from fun j' hj' => by
              by_cases e : j' < k
              · exact HV.out j' e
              · have : j' = k := by omega
                subst this; exact Lib.hid (cnt_miss he))
            have hk2 : k + 1 ≤ 2 ^ 2 := by omega
            go_wp2_with fail
            refine (hcount _ _ hcr).mono ?_
            rintro e w3 ⟨rfl, hb3⟩
            have hB3 := bt2 hB hb3
            go_wp2_with fail
            go_roundw
            case rel => exact ⟨k + 1, hk2, by go_num, HK.out, hB3⟩
            case measure => simp [intOf]; omega
          · have HR := Lib.hid (HG.out k (fun j hj => (HV.out j hj).out) (cnt_hit he))
            go_wp2_with fail
            refine (hcount _ _ hcr).mono ?_
            rintro e w3 ⟨rfl, hb3⟩
            have hB3 := bt2 hB hb3
            go_wp2_with fail
            go_ret2
            rw [HR.out.1, HR.out.2]
            exact ⟨rfl, hB3⟩
        · have HR := Lib.hid (HF.out fun j hj => (HV.out j hj).out)
          clear fin hk hp HF
          go_wp2_with fail
          go_ret2
          rw [HR.out.1, HR.out.2]
          exact ⟨rfl, hB⟩
      · rcases fin 8 rfl with hlt | rfl
        · have hlz : (k : Int) < 8 := by omega
          clear fin hk hp HF
          cases he : (cntN zs k == 0)
          · have HK := Lib.hid (show ∀ j' : Nat, j' < k + 1 → Hid (covB zs (j' : Int) = true) from fun j' hj' => by
              by_cases e : j' < k
              · exact HV.out j' e
              · have : j' = k := by omega
                subst this; exact Lib.hid (cnt_miss he))
            have hk2 : k + 1 ≤ 2 ^ 3 := by omega
            go_wp2_with fail
            refine (hcount _ _ hcr).mono ?_
            rintro e w3 ⟨rfl, hb3⟩
            have hB3 := bt2 hB hb3
            go_wp2_with fail
            go_roundw
            case rel => exact ⟨k + 1, hk2, by go_num, HK.out, hB3⟩
            case measure => simp [intOf]; omega
          · have HR := Lib.hid (HG.out k (fun j hj => (HV.out j hj).out) (cnt_hit he))
            go_wp2_with fail
            refine (hcount _ _ hcr).mono ?_
            rintro e w3 ⟨rfl, hb3⟩
            have hB3 := bt2 hB hb3
            go_wp2_with fail
            go_ret2
            rw [HR.out.1, HR.out.2]
            exact ⟨rfl, hB3⟩
        · have HR := Lib.hid (HF.out fun j hj => (HV.out j hj).out)
          clear fin hk hp HF
          go_wp2_with fail
          go_ret2
          rw [HR.out.1, HR.out.2]
          exact ⟨rfl, hB⟩
      · rcases fin 16 rfl with hlt | rfl
        · have hlz : (k : Int) < 16 := by omega
          clear fin hk hp HF
          cases he : (cntN zs k == 0)
          · have HK := Lib.hid (show ∀ j' : Nat, j' < k + 1 → Hid (covB zs (j' : Int) = true) from fun j' hj' => by
              by_cases e : j' < k
              · exact HV.out j' e
              · have : j' = k := by omega
                subst this; exact Lib.hid (cnt_miss he))
            have hk2 : k + 1 ≤ 2 ^ 4 := by omega
            go_wp2_with fail
            refine (hcount _ _ hcr).mono ?_
            rintro e w3 ⟨rfl, hb3⟩
            have hB3 := bt2 hB hb3
            go_wp2_with fail
            go_roundw
            case rel => exact ⟨k + 1, hk2, by go_num, HK.out, hB3⟩
            case measure => simp [intOf]; omega
          · have HR := Lib.hid (HG.out k (fun j hj => (HV.out j hj).out) (cnt_hit he))
            go_wp2_with fail
            refine (hcount _ _ hcr).mono ?_
            rintro e w3 ⟨rfl, hb3⟩
            have hB3 := bt2 hB hb3
            go_wp2_with fail
            go_ret2
            rw [HR.out.1, HR.out.2]
            exact ⟨rfl, hB3⟩
        · have HR := Lib.hid (HF.out fun j hj => (HV.out j hj).out)
          clear fin hk hp HF
          go_wp2_with fail
          go_ret2
          rw [HR.out.1, HR.out.2]
          exact ⟨rfl, hB⟩
      · rcases fin 32 rfl with hlt | rfl
        · have hlz : (k : Int) < 32 := by omega
          clear fin hk hp HF
          cases he : (cntN zs k == 0)
          · have HK := Lib.hid (show ∀ j' : Nat, j' < k + 1 → Hid (covB zs (j' : Int) = true) from fun j' hj' => by
              by_cases e : j' < k
              · exact HV.out j' e
              · have : j' = k := by omega
                subst this; exact Lib.hid (cnt_miss he))
            have hk2 : k + 1 ≤ 2 ^ 5 := by omega
            go_wp2_with fail
            refine (hcount _ _ hcr).mono ?_
            rintro e w3 ⟨rfl, hb3⟩
            have hB3 := bt2 hB hb3
            go_wp2_with fail
            go_roundw
            case rel => exact ⟨k + 1, hk2, by go_num, HK.out, hB3⟩
            case measure => simp [intOf]; omega
          · have HR := Lib.hid (HG.out k (fun j hj => (HV.out j hj).out) (cnt_hit he))
            go_wp2_with fail
            refine (hcount _ _ hcr).mono ?_
            rintro e w3 ⟨rfl, hb3⟩
            have hB3 := bt2 hB hb3
            go_wp2_with fail
            go_ret2
            rw [HR.out.1, HR.out.2]
            exact ⟨rfl, hB3⟩
        · have HR := Lib.hid (HF.out fun j hj => (HV.out j hj).out)
          clear fin hk hp HF
          go_wp2_with fail
          go_ret2
          rw [HR.out.1, HR.out.2]
          exact ⟨rfl, hB⟩
      · rcases fin 64 rfl with hlt | rfl
        · have hlz : (k : Int) < 64 := by omega
          clear fin hk hp HF
          cases he : (cntN zs k == 0)
          · have HK := Lib.hid (show ∀ j' : Nat, j' < k + 1 → Hid (covB zs (j' : Int) = true) from fun j' hj' => by
              by_cases e : j' < k
              · exact HV.out j' e
              · have : j' = k := by omega
                subst this; exact Lib.hid (cnt_miss he))
            have hk2 : k + 1 ≤ 2 ^ 6 := by omega
            go_wp2_with fail
            refine (hcount _ _ hcr).mono ?_
            rintro e w3 ⟨rfl, hb3⟩
            have hB3 := bt2 hB hb3
            go_wp2_with fail
            go_roundw
            case rel => exact ⟨k + 1, hk2, by go_num, HK.out, hB3⟩
            case measure => simp [intOf]; omega
          · have HR := Lib.hid (HG.out k (fun j hj => (HV.out j hj).out) (cnt_hit he))
            go_wp2_with fail
            refine (hcount _ _ hcr).mono ?_
            rintro e w3 ⟨rfl, hb3⟩
            have hB3 := bt2 hB hb3
            go_wp2_with fail
            go_ret2
            rw [HR.out.1, HR.out.2]
            exact ⟨rfl, hB3⟩
        · have HR := Lib.hid (HF.out fun j hj => (HV.out j hj).out)
          clear fin hk hp HF
          go_wp2_with fail
          go_ret2
          rw [HR.out.1, HR.out.2]
          exact ⟨rfl, hB⟩
      · rcases fin 128 rfl with hlt | rfl
        · have hlz : (k : Int) < 128 := by omega
          clear fin hk hp HF
          cases he : (cntN zs k == 0)
          · have HK := Lib.hid (show ∀ j' : Nat, j' < k + 1 → Hid (covB zs (j' : Int) = true) from fun j' hj' => by
              by_cases e : j' < k
              · exact HV.out j' e
              · have : j' = k := by omega
                subst this; exact Lib.hid (cnt_miss he))
            have hk2 : k + 1 ≤ 2 ^ 7 := by omega
            go_wp2_with fail
            refine (hcount _ _ hcr).mono ?_
            rintro e w3 ⟨rfl, hb3⟩
            have hB3 := bt2 hB hb3
            go_wp2_with fail
            go_roundw
            case rel => exact ⟨k + 1, hk2, by go_num, HK.out, hB3⟩
            case measure => simp [intOf]; omega
          · have HR := Lib.hid (HG.out k (fun j hj => (HV.out j hj).out) (cnt_hit he))
            go_wp2_with fail
            refine (hcount _ _ hcr).mono ?_
            rintro e w3 ⟨rfl, hb3⟩
            have hB3 := bt2 hB hb3
            go_wp2_with fail
            go_ret2
            rw [HR.out.1, HR.out.2]
            exact ⟨rfl, hB3⟩
        · have HR := Lib.hid (HF.out fun j hj => (HV.out j hj).out)
          clear fin hk hp HF
          go_wp2_with fail
          go_ret2
          rw [HR.out.1, HR.out.2]
          exact ⟨rfl, hB⟩
      · rcases fin 256 rfl with hlt | rfl
        · have hlz : (k : Int) < 256 := by omega
          clear fin hk hp HF
          cases he : (cntN zs k == 0)
          · have HK := Lib.hid (show ∀ j' : Nat, j' < k + 1 → Hid (covB zs (j' : Int) = true) from fun j' hj' => by
              by_cases e : j' < k
              · exact HV.out j' e
              · have : j' = k := by omega
                subst this; exact Lib.hid (cnt_miss he))
            have hk2 : k + 1 ≤ 2 ^ 8 := by omega
            go_wp2_with fail
            refine (hcount _ _ hcr).mono ?_
            rintro e w3 ⟨rfl, hb3⟩
            have hB3 := bt2 hB hb3
            go_wp2_with fail
            go_roundw
            case rel => exact ⟨k + 1, hk2, by go_num, HK.out, hB3⟩
            case measure => simp [intOf]; omega
          · have HR := Lib.hid (HG.out k (fun j hj => (HV.out j hj).out) (cnt_hit he))
            go_wp2_with fail
            refine (hcount _ _ hcr).mono ?_
            rintro e w3 ⟨rfl, hb3⟩
            have hB3 := bt2 hB hb3
            go_wp2_with fail
            go_ret2
            rw [HR.out.1, HR.out.2]
            exact ⟨rfl, hB3⟩
        · have HR := Lib.hid (HF.out fun j hj => (HV.out j hj).out)
          clear fin hk hp HF
          go_wp2_with fail
          go_ret2
          rw [HR.out.1, HR.out.2]
          exact ⟨rfl, hB⟩
end Go.Proofs.Ytelgmmnjndinhaa
