/- The model's l3Spare and HoleSpare. -/
import Derived.Test.YtelgmmnjndinhaaS28
namespace Go.Proofs.Ytelgmmnjndinhaa
open Go.RowKit
theorem cov_cnt {zs : List Cl} {x : Int} (h : (cntN zs x == 0) = true) : covB zs x = false := by rw [covB_cnt, h]; rfl
theorem cov_cnt2 {zs : List Cl} {x : Int} (h : (cntN zs x == 0) = false) : covB zs x = true := by rw [covB_cnt, h]; rfl
theorem step_succ (r m : Int) (j : Nat) : r + ((j + 1 : Nat) : Int) * m = r + (j : Int) * m + m := by
  rw [Int.natCast_add, Int.add_mul]; omega
set_option maxRecDepth 20000 in
set_option maxHeartbeats 2000000 in
theorem c_l3Spare (s : Option Addr) (n cap : Nat) (zs : List Cl) (i : Nat) (hn : n ≤ 1048576) (hcap : n ≤ cap) (hcb : cap ≤ 9223372036854775807) (hi : i < n) (ha : allB zs = true) (hP0 : 0 ≤ perI zs) (hP1 : perI zs ≤ 1000) (w : World) (hc : Cls w s n zs) :
    Calls Try.prog 57 #[.slice s n cap, .int .i64 i] w fun e w' => e = .returned (.bool (spaB zs i (perI zs))) ∧ Below w.heap.size w w' := by
  have hlen := hc.len
  have hin := allB_at ha i (by rw [hlen]; exact hi)
  obtain ⟨m1, m2, r1, r2⟩ := inB_iff.1 hin
  have HA := Lib.hid ha
  have HE := Lib.hid (allB_erase ha i)
  have hen := eraseIdx_len (show i < zs.length by rw [hlen]; exact hi)
  have HLe := Lib.hid (show (zs.eraseIdx i).length ≤ 1048576 by rw [hen]; omega)
  have HI := Lib.hid (spaB_iff hin hP1)
  have hiz0 : (0 : Int) ≤ (i : Int) := by omega
  have hiz : (i : Int) < (n : Int) := by omega
  have hper := fun w1 (h1 : Cls w1 s n zs) => c_l2Period s n cap zs hn ha w1 h1
  generalize hP : perI zs = P at *
  clear hin hen ha hP
  rcases hc.lies with h0 | ⟨b, off, rfl, hbw, hcells⟩
  · omega
  obtain ⟨x0, x1⟩ := hcells i hi
  clear hcells
  go_enter Try.func57, Try.ntmps57
  go_wp2_with fail
  refine (c_l3Without _ n cap zs i hn hcap hcb hi _ hc).mono ?_
  rintro e w1 ⟨v, rfl, hO, hB1⟩
  obtain ⟨s1, k1, rfl, hC1, hq1⟩ := hO.spread
  have hx0 := keepc hB1 x0
  clear hO hq1
  go_wp2_with fail
  go_loopw [6] (fun x wr => ∃ j : Nat, x = .int .i64 (rAt zs i + (j : Int) * mAt zs i) ∧ 0 ≤ rAt zs i + (j : Int) * mAt zs i ∧ rAt zs i + (j : Int) * mAt zs i ≤ 2000 ∧ (∀ j' : Nat, j' < j → Hid (covB (zs.eraseIdx i) (rAt zs i + (j' : Int) * mAt zs i) = true)) ∧ Below w.heap.size w wr ∧ Below w1.heap.size w1 wr) (fun x _ => (P - intOf x).toNat)
  case atStart => exact ⟨0, by simp, by omega, by omega, fun j hj => by omega, hB1, Below.refl _ _⟩
  case round =>
    obtain ⟨j, rfl, hj0, hj1, hv, hB, hBb⟩ := hrel
    have HV := Lib.hid hv
    clear hv
    have hcr := hc.keep hB
    have hCr := hC1.keep hBb
    have HS := Lib.hid (step_succ (rAt zs i) (mAt zs i) j)
    have hy0 := keepc hB x0
    have hy1 := keepc hB x1
    by_cases hlt : rAt zs i + (j : Int) * mAt zs i < P
    · cases he : (cntN (zs.eraseIdx i) (rAt zs i + (j : Int) * mAt zs i) == 0)
      · have HK := Lib.hid (show ∀ j' : Nat, j' < j + 1 → Hid (covB (zs.eraseIdx i) (rAt zs i + (j' : Int) * mAt zs i) = true) from fun j' hj' => by
          by_cases e : j' < j
          · exact HV.out j' e
          · have : j' = j := by omega
            subst this; exact cov_cnt2 he)
        have hb2 : rAt zs i + (j : Int) * mAt zs i + mAt zs i ≤ 2000 := by omega
        generalize hX : rAt zs i + (j : Int) * mAt zs i = X at *
        go_wp2_with fail
        refine (hper _ hcr).mono ?_
        rintro e w3 ⟨nq, rfl, rfl⟩
        have hB3 := bel_drewN hB nq
        have hB3b := bel_drewN hBb nq
        have hC3 := hC1.keep hB3b
        have z0 := keepc hB3 x0
        have z1 := keepc hB3 x1
        generalize wr.drewN nq = wq at *
        go_wp2_with fail
        refine (c_l2Count _ _ _ (zs.eraseIdx i) _ HLe.out HE.out _ hC3).mono ?_
        rintro e w5 ⟨rfl, hb5⟩
        have hB5 := bt2 hB3 hb5
        have hB5b := bt2 hB3b hb5
        have t0 := keepc hB5 x0
        have t1 := keepc hB5 x1
        clear z0 z1 hy0 hy1
        go_wp2_with fail
        go_roundw
        case rel => exact ⟨j + 1, by rw [HS.out], by rw [HS.out]; omega, by rw [HS.out]; exact hb2, HK.out, hB5, hB5b⟩
        case measure => simp [intOf]; omega
      · have HK := Lib.hid (show spaB zs i P = false by
          cases hs : spaB zs i P
          · rfl
          · have := HI.out.1 hs j hlt
            rw [cov_cnt he] at this; cases this)
        generalize hX : rAt zs i + (j : Int) * mAt zs i = X at *
        go_wp2_with fail
        refine (hper _ hcr).mono ?_
        rintro e w3 ⟨nq, rfl, rfl⟩
        have hB3 := bel_drewN hB nq
        have hB3b := bel_drewN hBb nq
        have hC3 := hC1.keep hB3b
        generalize wr.drewN nq = wq at *
        go_wp2_with fail
        refine (c_l2Count _ _ _ (zs.eraseIdx i) _ HLe.out HE.out _ hC3).mono ?_
        rintro e w5 ⟨rfl, hb5⟩
        have hB5 := bt2 hB3 hb5
        go_wp2_with fail
        go_ret
        exact ⟨rb HK.out.symm, hB5⟩
    · have HK := Lib.hid (show spaB zs i P = true from HI.out.2 fun j' hj' => (HV.out j' (by
        rcases Nat.lt_or_ge j' j with h | h
        · exact h
        · have := Int.mul_le_mul_of_nonneg_right (show (j : Int) ≤ (j' : Int) by omega) (show 0 ≤ mAt zs i by omega)
          omega)).out)
      generalize hX : rAt zs i + (j : Int) * mAt zs i = X at *
      go_wp2_with fail
      refine (hper _ hcr).mono ?_
      rintro e w3 ⟨nq, rfl, rfl⟩
      have hB3 := bel_drewN hB nq
      generalize wr.drewN nq = wq at *
      go_wp2_with fail
      go_ret
      exact ⟨rb HK.out.symm, hB3⟩
set_option maxRecDepth 20000 in
set_option maxHeartbeats 1000000 in
theorem c_specHoleSpare (s : Option Addr) (n cap : Nat) (zs : List Cl) (hn : n ≤ 1048576) (hcap : n ≤ cap) (hcb : cap ≤ 9223372036854775807) (w : World) (hc : Cls w s n zs) : Calls Try.prog 33 #[.slice s n cap] w (RetI w (hspR zs) (sysB zs)) := by
  have hb1 : Below w.heap.size w (w.alloc (.cells #[] 3)) := ba (Below.refl _ _) _
  have hO1 : OwnI (w.alloc (.cells #[] 3)) w.heap.size 3 (.slice (some ⟨w.heap.size, 0, none⟩) 0 0) [] := World.ownsRow_lit w #[] 0 (Nat.le_refl _) (by unfold maxLen; omega) rfl
  have hc1 := hc.keep hb1
  have hcon := c_specSystemIn s n cap zs hn _ hc1
  cases hs : sysB zs
  · rw [hspR_f hs]
    rw [hs] at hcon
    go_enter Try.func33, Try.ntmps33
    go_wp2_with fail
    generalize w.alloc (.cells #[] 3) = W1 at *
    go_wp2_with (go_at_call 44; refine hcon.mono ?_; rintro e w2 ⟨rfl, hb⟩; have hO2 := hO1.keep hb)
    go_ret2
    exact ⟨_, rfl, hO2, bt2 hb1 hb⟩
  · rw [hspR_t hs]
    rw [hs] at hcon
    obtain ⟨hl1, hl2, ha, _, P1, P2⟩ := sysB_facts hs
    have hlen := hc.len
    obtain ⟨i0, hi, hz0, hz1, hz2⟩ := info_parts infoI
    have HT := Lib.hid (show splK zs (perI zs) n = splL zs (perI zs) by unfold splL; rw [hlen])
    have hn8 : n ≤ 8 := by omega
    have hspa := fun i (h : i < n) w1 (h1 : Cls w1 s n zs) => c_l3Spare s n cap zs i hn hcap hcb h ha (by omega) P2 w1 h1
    generalize hP : perI zs = P at *
    clear hlen ha hP
    go_enter Try.func33, Try.ntmps33
    go_wp2_with fail
    generalize w.alloc (.cells #[] 3) = W1 at *
    go_wp2_with fail
    refine hcon.mono ?_
    rintro e w2 ⟨rfl, hb⟩
    have hO2 : w2.ownsRow w.heap.size 3 1 (.slice (some ⟨w.heap.size, 0, none⟩) 0 0) 0 [] := hO1.keep hb
    have hB2 := bt2 hb1 hb
    clear hcon hO1 hb hb1 hc1
    go_wp2_with fail
    go_loopw [4, 5] (fun v i wr => ∃ (k : Nat), k ≤ n ∧ i = .int .i64 k ∧ wr.ownsRow w.heap.size 3 1 v (splK zs P k).length ((splK zs P k).map (Value.int .i64)) ∧ Below w.heap.size w wr) (fun _ i _ => n - (intOf i).toNat)
    case atStart => exact ⟨0, Nat.zero_le _, rfl, hO2, hB2⟩
    case round =>
      clear hO2 hB2
      obtain ⟨k, hk, rfl, hO, hB⟩ := hrel
      have hcr := hc.keep hB
      by_cases hlt : k < n
      · have hKl := splK_le zs P k
        cases he : spaB zs k P
        · have HK := Lib.hid (show splK zs P (k + 1) = splK zs P k by simp only [splK, he, cond_false])
          go_wp2_with fail
          refine (hspa k hlt _ hcr).mono ?_
          rintro e w5 ⟨rfl, hb5⟩
          have hB5 := bt2 hB hb5
          have hO5 := row_keep hO hb5
          rw [he]
          go_wp2_with fail
          go_roundw
          case rel => exact ⟨k + 1, by omega, by go_num, by rw [HK.out]; exact hO5, hB5⟩
          case measure => simp [intOf]; omega
        · have HK := Lib.hid (show splK zs P (k + 1) = splK zs P k ++ [(k : Int)] by simp only [splK, he, cond_true])
          go_wp2_with fail
          refine (hspa k hlt _ hcr).mono ?_
          rintro e w5 ⟨rfl, hb5⟩
          have hB5 := bt2 hB hb5
          have hO5 := row_keep hO hb5
          have hbs : w.heap.size ≤ w5.heap.size := hB5.size
          rw [he]
          generalize hLe : (splK zs P k).length = L at *
          go_wp2_with (at_builtin; refine wpList_append_own _ rfl _ _ 24 rfl w.heap.size 3 i0 (.int .i64 0) 1 8 Try.underlying24 hi hz0 hz1 hz2 rfl (by decide) u4 L _ rfl (hO5.alloc _) ⟨w5.heap.size, 0, none⟩ 1 1 [.int .i64 k] rfl rfl (one_new w5 _ _) (by simp [Value.oneCell']) (by unfold maxLen; omega) (by omega) (by simp; omega) ?_; intro v7 w7 hown7 hgrow7 _)
          have hb7 : Below w.heap.size w w7 := (hB5.alloc hbs _).grown hgrow7 (by simp; omega) (fun g e => (hO5.lt g e).1)
          go_roundw
          case rel => exact ⟨k + 1, by omega, by go_num, by rw [HK.out, List.map_append, List.length_append, hLe]; exact hown7, hb7⟩
          case measure => simp [intOf]; omega
      · have hk' : k = n := by omega
        subst hk'
        rw [HT.out] at hO
        have hOC : OwnI wr w.heap.size 3 u4 (splL zs P) := hO
        clear hO
        go_wp2_with fail
        go_ret2
        exact ⟨_, rfl, hOC, hB⟩
end Go.Proofs.Ytelgmmnjndinhaa
