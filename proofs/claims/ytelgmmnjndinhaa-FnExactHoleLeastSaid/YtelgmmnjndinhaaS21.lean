/- Contracts of HoleRun, in the program and in the model. -/
import Derived.Test.YtelgmmnjndinhaaS18
import Derived.Test.YtelgmmnjndinhaaMathR
namespace Go.Proofs.Ytelgmmnjndinhaa
open Go.RowKit
def hruI (zs : List Cl) : Int := selI (sysB zs) (bif (holL zs).isEmpty then -1 else runV zs)
theorem hruI_f {zs : List Cl} (h : sysB zs = false) : hruI zs = 0 := by simp [hruI, h, selI]
theorem hruI_nil {zs : List Cl} (h : sysB zs = true) (k : holL zs = []) : hruI zs = -1 := by simp [hruI, h, k, selI]
theorem hruI_run {zs : List Cl} (h : sysB zs = true) (k : holL zs ≠ []) : hruI zs = runV zs := by
  cases hc : holL zs with
  | nil => exact absurd hc k
  | cons x t => simp [hruI, h, hc, selI]
theorem lastD_getLast (b : Int) (l : List Int) (h : l ≠ []) : lastD b l = l[l.length - 1]?.getD 0 := by
  induction l generalizing b with
  | nil => exact absurd rfl h
  | cons x t ih =>
    cases t with
    | nil => rfl
    | cons y u =>
      have := ih x (by simp)
      rw [lastD, this]
      simp
theorem take_snoc {l : List Int} {k : Nat} (h : k < l.length) : l.take (k + 1) = l.take k ++ [l[k]?.getD 0] := by
  rw [List.take_succ_eq_append_getElem h, List.getElem?_eq_getElem h]
  rfl
theorem ints_at {w : World} {s : Option Addr} {n : Nat} {zs : List Int} (h : Ints w s n zs) (i : Nat) (hi : i < n) : ∃ b off, s = some ⟨b, off, none⟩ ∧ b < w.heap.size ∧ w.cell? ⟨b, off + i, none⟩ = some (.int .i64 (zs[i]?.getD 0)) := by
  rcases h.lies with h0 | ⟨b, off, rfl, hb, hc⟩
  · omega
  · exact ⟨b, off, rfl, hb, hc i hi⟩
theorem runL_bd {b a M : Int} {l : List Int} (h : ∀ x ∈ l, 0 ≤ x ∧ x < 1000) (hb : -1000 ≤ b ∧ b ≤ 1000) (ha : 0 ≤ a) (hM : a ≤ M) (hM2 : 2000 ≤ M) : 0 ≤ runL b a l ∧ runL b a l ≤ M := by
  induction l generalizing b a with
  | nil => exact ⟨ha, hM⟩
  | cons x t ih =>
    have hx := h x List.mem_cons_self
    exact ih (fun y hy => h y (List.mem_cons_of_mem _ hy)) (by omega) (by omega) (by omega)
set_option maxRecDepth 20000 in
set_option maxHeartbeats 1000000 in
theorem c_implHoleRun (s : Option Addr) (n cap : Nat) (zs : List Cl) (hn : n ≤ 1048576) (w : World) (hc : Cls w s n zs) : Calls Try.prog 32 #[.slice s n cap] w fun e w' => e = .returned (.tuple #[.int .i64 (hruI zs), .bool (sysB zs)]) ∧ Below w.heap.size w w' := by
  cases hs : sysB zs
  · have hcon := c_holesAndPeriod_f s n cap zs hn hs w hc
    have H1 := Lib.hid (hruI_f hs)
    go_enter Try.func32, Try.ntmps32
    go_wp2_with (go_at_call 56; refine hcon.mono ?_; rintro e w2 ⟨v, rfl, hO, hb⟩)
    go_ret2
    rw [H1.out]
    exact ⟨rfl, hb⟩
  · have hcon := c_holesAndPeriod_t s n cap zs hn hs w hc
    obtain ⟨_, _, _, _, P1, P2⟩ := sysB_facts hs
    obtain ⟨PN, hPN⟩ : ∃ P : Nat, perI zs = (P : Int) := ⟨(perI zs).toNat, by omega⟩
    have hmem : ∀ x ∈ holL zs, 0 ≤ x ∧ x < (PN : Int) := by
      intro x hx
      have hL : holL zs = holK zs PN := by unfold holL; rw [hPN]; rfl
      exact holK_bd (hL ▸ hx)
    have hl := holL_le hs
    by_cases hnil : holL zs = []
    · have H1 := Lib.hid (hruI_nil hs hnil)
      rw [hnil] at hcon
      go_enter Try.func32, Try.ntmps32
      go_wp2_with (go_at_call 56; refine hcon.mono ?_; rintro e w2 ⟨v, rfl, hO, hb⟩; obtain ⟨s2, k2, rfl, hI, hq⟩ := hO.spread)
      go_ret2
      rw [H1.out]
      exact ⟨rfl, hb⟩
    · have H1 := Lib.hid ((hruI_run hs hnil).trans (show runV zs = runL (lastD (-1) (holL zs) - perI zs) 0 (holL zs) from rfl))
      have hlast := lastD_getLast (-1) (holL zs) hnil
      have hL1 : 1 ≤ (holL zs).length := by
        cases hq : holL zs with
        | nil => exact absurd hq hnil
        | cons x t => simp
      generalize hP : perI zs = P at *
      generalize hHL : holL zs = H at *
      obtain ⟨L, hL⟩ : ∃ L, H.length = L := ⟨_, rfl⟩
      have HM := Lib.hid hmem
      have HT := Lib.hid (fun k (h : k < H.length) => take_snoc h)
      have HAll := Lib.hid (show H.take L = H by rw [← hL]; exact List.take_length)
      rw [hL] at hL1 hl hlast
      have hlb : 0 ≤ H[L - 1]?.getD 0 ∧ H[L - 1]?.getD 0 < (PN : Int) := by
        have hlt : L - 1 < H.length := by omega
        rw [List.getElem?_eq_getElem hlt]
        exact hmem _ (List.getElem_mem hlt)
      clear hmem hnil hP hHL
      subst hPN
      have HLst := Lib.hid hlast
      clear hlast
      obtain ⟨M, hM⟩ : ∃ M, M = L - 1 := ⟨L - 1, rfl⟩
      rw [← hM] at HLst hlb
      have hne : ((L : Int) == 0) = false := by simp; omega
      have hML : M < L := by omega
      have hsub : (L : Int) - 1 = (M : Int) := by omega
      clear hM
      have hix : (M : Int) < (L : Int) := by omega
      have H1 := Lib.hid (show hruI zs = runL (H[M]?.getD 0 - (PN : Int)) 0 H by rw [← HLst.out]; exact H1.out)
      obtain ⟨X, hX⟩ : ∃ X, H[M]?.getD 0 = X := ⟨_, rfl⟩
      rw [hX] at hlb H1
      have HX := Lib.hid hX
      clear hX HLst
      go_enter Try.func32, Try.ntmps32
      go_wp2_with (go_at_call 56; refine hcon.mono ?_; rintro e w2 ⟨v, rfl, hO, hb⟩; obtain ⟨s2, k2, hv, hI, hq⟩ := hO.spread; rw [hL] at hv hI; subst hv; obtain ⟨b, off, rfl, hbw, hlx⟩ := ints_at hI M hML; rw [HX.out] at hlx; clear hq hO)
      have HB := Lib.hid (fun k => runL_bd (l := H.take k) (b := X - (PN : Int)) (a := 0) (M := 2000) (fun x hx => by have := HM.out x (List.mem_of_mem_take hx); omega) (by omega) (by omega) (by omega) (by omega))
      have HD := Lib.hid (fun k => show -1000 ≤ lastD (X - (PN : Int)) (H.take k) ∧ lastD (X - (PN : Int)) (H.take k) ≤ 1000 by
        rcases lastD_mem (X - (PN : Int)) (H.take k) with h | h
        · rw [h]; omega
        · have := HM.out _ (List.mem_of_mem_take h); omega)
      go_loop [7, 8, 32] (fun q l i => ∃ (k : Nat), k ≤ L ∧ i = .int .i64 k ∧ q = .int .i64 (lastD (X - (PN : Int)) (H.take k)) ∧ l = .int .i64 (runL (X - (PN : Int)) 0 (H.take k))) (fun _ _ i => L - (intOf i).toNat)
      case atStart => exact ⟨0, Nat.zero_le _, rfl, rfl, rfl⟩
      case round =>
        obtain ⟨k, hk, rfl, rfl, rfl⟩ := hrel
        by_cases hlt : k < L
        · obtain ⟨b', off', e, hb', hx⟩ := ints_at hI k hlt
          simp only [Option.some.injEq, Addr.mk.injEq, and_true] at e
          obtain ⟨rfl, rfl⟩ := e
          have hR := HB.out k
          have hDk := HD.out k
          have hxm : 0 ≤ H[k]?.getD 0 ∧ H[k]?.getD 0 < (PN : Int) := by
            have hlt' : k < H.length := by rw [hL]; exact hlt
            rw [List.getElem?_eq_getElem hlt']
            exact HM.out _ (List.getElem_mem hlt')
          have HK1 := Lib.hid (show lastD (X - (PN : Int)) (H.take (k + 1)) = H[k]?.getD 0 by rw [HT.out k (by rw [hL]; exact hlt), lastD_snoc])
          have HK2 := Lib.hid (show runL (X - (PN : Int)) 0 (H.take (k + 1)) = max (runL (X - (PN : Int)) 0 (H.take k)) (H[k]?.getD 0 - lastD (X - (PN : Int)) (H.take k) - 1) by rw [HT.out k (by rw [hL]; exact hlt), runL_snoc])
          generalize H[k]?.getD 0 = x at *
          generalize lastD (X - (PN : Int)) (H.take k) = D at *
          generalize runL (X - (PN : Int)) 0 (H.take k) = R at *
          go_wp2_with fail
          go_round
          case rel => exact ⟨k + 1, by omega, by go_num, by rw [HK1.out], by rw [HK2.out]⟩
          case measure => simp [intOf]; omega
        · have hk' : k = L := by omega
          subst hk'
          have HE := Lib.hid (show hruI zs = runL (X - (PN : Int)) 0 (H.take k) by rw [H1.out, HAll.out])
          generalize runL (X - (PN : Int)) 0 (H.take k) = R at *
          go_wp2_with fail
          go_ret2
          rw [HE.out]
          exact ⟨rfl, hb⟩
set_option maxRecDepth 20000 in
set_option maxHeartbeats 1000000 in
theorem c_specHoleRun (s : Option Addr) (n cap : Nat) (zs : List Cl) (hn : n ≤ 1048576) (w : World) (hc : Cls w s n zs) : Calls Try.prog 31 #[.slice s n cap] w fun e w' => e = .returned (.tuple #[.int .i64 (hruI zs), .bool (sysB zs)]) ∧ Below w.heap.size w w' := by
  have hcon := c_specSystemIn s n cap zs hn w hc
  cases hs : sysB zs
  · rw [hs] at hcon
    have H1 := Lib.hid (hruI_f hs)
    go_enter Try.func31, Try.ntmps31
    go_wp2_with (go_at_call 44; refine hcon.mono ?_; rintro e w2 ⟨rfl, hb⟩)
    go_ret2
    rw [H1.out]
    exact ⟨rfl, hb⟩
  · rw [hs] at hcon
    obtain ⟨_, _, ha, _, P1, P2⟩ := sysB_facts hs
    have hcon2 := fun w1 (h1 : Cls w1 s n zs) => c_l2Holes s n cap zs hn hs w1 h1
    by_cases hnil : holL zs = []
    · have H1 := Lib.hid (hruI_nil hs hnil)
      rw [hnil] at hcon2
      go_enter Try.func31, Try.ntmps31
      go_wp2_with fail
      refine hcon.mono ?_
      rintro e w2 ⟨rfl, hb⟩
      have hc2 := hc.keep hb
      go_wp2_with fail
      refine (hcon2 _ hc2).mono ?_
      rintro e w3 ⟨v, rfl, hO, hb3⟩
      obtain ⟨s2, k2, rfl, hI, hq⟩ := hO.spread
      go_wp2_with fail
      go_ret2
      rw [H1.out]
      exact ⟨rfl, bt2 hb hb3⟩
    · obtain ⟨P, hP⟩ : ∃ P : Nat, perI zs = (P : Int) := ⟨(perI zs).toNat, by omega⟩
      have H1 := Lib.hid ((hruI_run hs hnil).trans (run_twice hs hP hnil).symm)
      have hL1 : 1 ≤ (holL zs).length := by
        cases hq : holL zs with
        | nil => exact absurd hq hnil
        | cons x t => simp
      have hl := holL_le hs
      have HA := Lib.hid ha
      have HP : P ≤ 1000 := by omega
      have hcon3 := fun w1 (h1 : Cls w1 s n zs) => c_l2Period s n cap zs hn ha w1 h1
      rw [hP] at hcon3
      generalize hHL : (holL zs).length = L at *
      have hne : ((L : Int) == 0) = false := by simp; omega
      clear hP P1 P2 ha
      go_enter Try.func31, Try.ntmps31
      go_wp2_with fail
      refine hcon.mono ?_
      rintro e w2 ⟨rfl, hb⟩
      have hc2 := hc.keep hb
      go_wp2_with fail
      refine (hcon2 _ hc2).mono ?_
      rintro e w3 ⟨v, rfl, hO, hb3⟩
      obtain ⟨s2, k2, hv, hI, hq⟩ := hO.spread
      rw [hHL] at hv
      subst hv
      have hB3 := bt2 hb hb3
      clear hO hI hq hcon hb hb3
      go_wp2_with fail
      go_loopw [4, 5, 6] (fun b m i wr => ∃ (k : Nat), k ≤ 2 * P ∧ i = .int .i64 k ∧ b = .int .i64 (nbK zs k).2 ∧ m = .int .i64 (nbK zs k).1 ∧ Below w.heap.size w wr) (fun _ _ i _ => 2 * P - (intOf i).toNat)
      case atStart => exact ⟨0, Nat.zero_le _, rfl, rfl, rfl, hB3⟩
      case round =>
        obtain ⟨k, hk, rfl, rfl, rfl, hB⟩ := hrel
        have hcr := hc.keep hB
        have hbd := nbK_bd zs k
        by_cases hlt : k < 2 * P
        · cases he : (cntN zs k == 0)
          · have HK1 := Lib.hid (show (nbK zs (k + 1)).1 = (nbK zs k).1 + 1 by simp only [nbK, he, cond_false])
            have HK2 := Lib.hid (show (nbK zs (k + 1)).2 = max (nbK zs k).2 ((nbK zs k).1 + 1) by simp only [nbK, he, cond_false])
            generalize (nbK zs k).1 = X at *
            generalize (nbK zs k).2 = Y at *
            go_wp2_with fail
            refine (hcon3 _ hcr).mono ?_
            rintro e w5 ⟨nq, rfl, rfl⟩
            have hB5 := bel_drewN hB nq
            have hc5 := hc.keep hB5
            generalize wr.drewN nq = wq at *
            go_wp2_with fail
            refine (c_l2Count _ _ _ zs _ hn HA.out _ hc5).mono ?_
            rintro e w6 ⟨rfl, hb6⟩
            have hB6 := bt2 hB5 hb6
            go_wp2_with fail
            go_roundw
            case rel => exact ⟨k + 1, by omega, by go_num, by rw [HK2.out], by rw [HK1.out], hB6⟩
            case measure => simp [intOf]; omega
          · have HK1 := Lib.hid (show (nbK zs (k + 1)).1 = 0 by simp only [nbK, he, cond_true])
            have HK2 := Lib.hid (show (nbK zs (k + 1)).2 = max (nbK zs k).2 0 by simp only [nbK, he, cond_true])
            generalize (nbK zs k).1 = X at *
            generalize (nbK zs k).2 = Y at *
            go_wp2_with fail
            refine (hcon3 _ hcr).mono ?_
            rintro e w5 ⟨nq, rfl, rfl⟩
            have hB5 := bel_drewN hB nq
            have hc5 := hc.keep hB5
            generalize wr.drewN nq = wq at *
            go_wp2_with fail
            refine (c_l2Count _ _ _ zs _ hn HA.out _ hc5).mono ?_
            rintro e w6 ⟨rfl, hb6⟩
            have hB6 := bt2 hB5 hb6
            go_wp2_with fail
            go_roundw
            case rel => exact ⟨k + 1, by omega, by go_num, by rw [HK2.out], by rw [HK1.out], hB6⟩
            case measure => simp [intOf]; omega
        · have hk' : k = 2 * P := by omega
          subst hk'
          go_wp2_with fail
          refine (hcon3 _ hcr).mono ?_
          rintro e w5 ⟨nq, rfl, rfl⟩
          have hB5 := bel_drewN hB nq
          generalize wr.drewN nq = wq at *
          go_wp2_with fail
          go_ret2
          rw [H1.out]
          exact ⟨rfl, hB5⟩
end Go.Proofs.Ytelgmmnjndinhaa
