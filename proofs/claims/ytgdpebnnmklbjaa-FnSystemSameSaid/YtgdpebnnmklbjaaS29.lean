/- The model's l3Spare and HoleSpare. -/
import Derived.Test.YtgdpebnnmklbjaaMg3
namespace Go.Proofs.Ytgdpebnnmklbjaa
open Go.RowKit
theorem cov_cnt {zs : List Cl} {x : Int} (h : (cntN zs x == 0) = true) : covB zs x = false := by rw [covB_cnt, h]; rfl
theorem cov_cnt2 {zs : List Cl} {x : Int} (h : (cntN zs x == 0) = false) : covB zs x = true := by rw [covB_cnt, h]; rfl
theorem step_succ (r m : Int) (j : Nat) : r + ((j + 1 : Nat) : Int) * m = r + (j : Int) * m + m := by
  rw [Int.natCast_add, Int.add_mul]; omega
set_option maxRecDepth 20000 in
set_option maxHeartbeats 2000000 in
theorem c_l3Spare (s : Option Addr) (n cap : Nat) (zs : List Cl) (i : Nat) (hn : n ≤ 1048576) (hcap : n ≤ cap) (hcb : cap ≤ 9223372036854775807) (hi : i < n) (ha : allB zs = true) (hP0 : 0 ≤ perI zs) (hP1 : perI zs ≤ 1000) (w : World) (hc : Cls w s n zs) :
    Calls Try.prog 96 #[.slice s n cap, .int .i64 i] w fun e w' => e = .returned (.bool (spaB zs i (perI zs))) ∧ Below w.heap.size w w' := by
  have hlen := hc.len
  have hin := allB_at ha i (by rw [hlen]; exact hi)
  obtain ⟨m1, m2, r1, r2⟩ := inB_iff.1 hin
  have HA := Lib.hid ha
  have HE := Lib.hid (allB_erase ha i)
  have hen := eraseIdx_len (show i < zs.length by rw [hlen]; exact hi)
  have HLe := Lib.hid (show (zs.eraseIdx i).length ≤ 1048576 by rw [hen]; omega)
  have HI := Lib.hid (spaB_iff hin hP1)
  have hiz0 : (0 : Int) ≤ (i : Int) := by omega
  have hiz : (i : Int) < (n : Int) := by omega
  have hper := fun w1 (h1 : Cls w1 s n zs) => c_l2Period s n cap zs hn ha w1 h1
  generalize hP : perI zs = P at *
  clear hin hen ha hP
  rcases hc.lies with h0 | ⟨b, off, rfl, hbw, hcells⟩
  · omega
  obtain ⟨x0, x1⟩ := hcells i hi
  clear hcells
  go_enter Try.func96, Try.ntmps96
  go_wp2_with fail
  refine (c_l3Without _ n cap zs i hn hcap hcb hi _ hc).mono ?_
  rintro e w1 ⟨v, rfl, hO, hB1⟩
  obtain ⟨s1, k1, rfl, hC1, hq1⟩ := hO.spread
  have hx0 := keepc hB1 x0
  clear hO hq1
  go_wp2_with fail
  go_loopw [6] (fun x wr => ∃ j : Nat, x = .int .i64 (rAt zs i + (j : Int) * mAt zs i) ∧ 0 ≤ rAt zs i + (j : Int) * mAt zs i ∧ rAt zs i + (j : Int) * mAt zs i ≤ 2000 ∧ (∀ j' : Nat, j' < j → Hid (covB (zs.eraseIdx i) (rAt zs i + (j' : Int) * mAt zs i) = true)) ∧ Below w.heap.size w wr ∧ Below w1.heap.size w1 wr) (fun x _ => (P - intOf x).toNat)
  case atStart => exact ⟨0, by simp, by omega, by omega, fun j hj => by omega, hB1, Below.refl _ _⟩
  case round =>
    obtain ⟨j, rfl, hj0, hj1, hv, hB, hBb⟩ := hrel
    have HV := Lib.hid hv
    clear hv
    have hcr := hc.keep hB
    have hCr := hC1.keep hBb
    have HS := Lib.hid (step_succ (rAt zs i) (mAt zs i) j)
    have hy0 := keepc hB x0
    have hy1 := keepc hB x1
    by_cases hlt : rAt zs i + (j : Int) * mAt zs i < P
    · cases he : (cntN (zs.eraseIdx i) (rAt zs i + (j : Int) * mAt zs i) == 0)
      · have HK := Lib.hid (show ∀ j' : Nat, j' < j + 1 → Hid (covB (zs.eraseIdx i) (rAt zs i + (j' : Int) * mAt zs i) = true) from fun j' hj' => by
          by_cases e : j' < j
          · exact HV.out j' e
          · have : j' = j := by omega
            subst this; exact cov_cnt2 he)
        have hb2 : rAt zs i + (j : Int) * mAt zs i + mAt zs i ≤ 2000 := by omega
        generalize hX : rAt zs i + (j : Int) * mAt zs i = X at *
        go_wp2_with fail
        refine (hper _ hcr).mono ?_
        rintro e w3 ⟨nq, rfl, rfl⟩
        have hB3 := bel_drewN hB nq
        have hB3b := bel_drewN hBb nq
        have hC3 := hC1.keep hB3b
        have z0 := keepc hB3 x0
        have z1 := keepc hB3 x1
        generalize wr.drewN nq = wq at *
        go_wp2_with fail
        refine (c_l2Count _ _ _ (zs.eraseIdx i) _ HLe.out HE.out _ hC3).mono ?_
        rintro e w5 ⟨rfl, hb5⟩
        have hB5 := bt2 hB3 hb5
        have hB5b := bt2 hB3b hb5
        have t0 := keepc hB5 x0
        have t1 := keepc hB5 x1
        clear z0 z1 hy0 hy1
        go_wp2_with fail
        go_roundw
        case rel => exact ⟨j + 1, by rw [HS.out], by rw [HS.out]; omega, by rw [HS.out]; exact hb2, HK.out, hB5, hB5b⟩
        case measure => simp [intOf]; omega
      · have HK := Lib.hid (show spaB zs i P = false by
          cases hs : spaB zs i P
          · rfl
          · have := HI.out.1 hs j hlt
            rw [cov_cnt he] at this; cases this)
        generalize hX : rAt zs i + (j : Int) * mAt zs i = X at *
        go_wp2_with fail
        refine (hper _ hcr).mono ?_
        rintro e w3 ⟨nq, rfl, rfl⟩
        have hB3 := bel_drewN hB nq
        have hB3b := bel_drewN hBb nq
        have hC3 := hC1.keep hB3b
        generalize wr.drewN nq = wq at *
        go_wp2_with fail
        refine (c_l2Count _ _ _ (zs.eraseIdx i) _ HLe.out HE.out _ hC3).mono ?_
        rintro e w5 ⟨rfl, hb5⟩
        have hB5 := bt2 hB3 hb5
        go_wp2_with fail
        go_ret
        exact ⟨rb HK.out.symm, hB5⟩
    · have HK := Lib.hid (show spaB zs i P = true from HI.out.2 fun j' hj' => (HV.out j' (by
        rcases Nat.lt_or_ge j' j with h | h
        · exact h
        · have := Int.mul_le_mul_of_nonneg_right (show (j : Int) ≤ (j' : Int) by omega) (show 0 ≤ mAt zs i by omega)
          omega)).out)
      generalize hX : rAt zs i + (j : Int) * mAt zs i = X at *
      go_wp2_with fail
      refine (hper _ hcr).mono ?_
      rintro e w3 ⟨nq, rfl, rfl⟩
      have hB3 := bel_drewN hB nq
      generalize wr.drewN nq = wq at *
      go_wp2_with fail
      go_ret
      exact ⟨rb HK.out.symm, hB3⟩
end Go.Proofs.Ytgdpebnnmklbjaa
