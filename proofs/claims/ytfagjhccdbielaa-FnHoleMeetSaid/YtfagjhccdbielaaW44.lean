/- The walk of the promise law FnHoleMeet. -/
import Derived.Test.YtfagjhccdbielaaW35
import Derived.Test.YtfagjhccdbielaaMathK
import Derived.Test.YtfagjhccdbielaaS23
import Derived.Test.YtfagjhccdbielaaC3
import Derived.RegionTactic
namespace Go.Proofs.Ytfagjhccdbielaa
open Go.RowKit
def DrawnHM (w : World) (e : Ending) (w' : World) : Prop := ∃ so n co zs st m ct ys, e = .returned (.tuple #[.slice so n co, .slice st m ct]) ∧ Cls w' so n zs ∧ n ≤ 9 ∧ n ≤ co ∧ Cls w' st m ys ∧ m ≤ 9 ∧ m ≤ ct ∧ Below w.heap.size w w'
theorem Cls.front {w : World} {s : Option Addr} {n k : Nat} {zs : List Cl} (h : Cls w s n zs) (hk : k ≤ n) : Cls w s k (zs.take k) := by
  have hlen := h.len
  refine ⟨by rw [List.length_take]; omega, ?_⟩
  rcases h.lies with h0 | ⟨b1, o1, hh, hb1, hcells1⟩
  · left
    omega
  · right
    refine ⟨b1, o1, hh, hb1, fun j hj => ?_⟩
    have := hcells1 j (by omega)
    unfold rAt mAt at *
    have e : (zs.take k).getD j (0, 0) = zs.getD j (0, 0) := by
      simp [List.getD, hj]
    rw [e]
    exact this
set_option maxRecDepth 20000 in
set_option maxHeartbeats 1000000 in
theorem c_DrawHoleMeet (s : Option Addr) (len cap : Nat) (w : World) (h : Code0 w s len cap) : Calls Try.prog 37 #[.slice s len cap] w (DrawnHM w) := by
  go_enter Try.func37, Try.ntmps37
  go_wp2_with fail
  refine (c_l6Open s len cap _ h).mono ?_
  rintro e w2 ⟨B, s', len', hB, rfl, hR2, hb2⟩
  go_wp2_with fail
  refine (c_l91System hR2 (by omega)).mono ?_
  rintro e w3 ⟨v, zs, p', rfl, hO3, hl3, hR3, hp3, hQ3⟩
  have hb3 := hb2.trans (oth_below hQ3 hR2)
  have hBlt := hR2.lt
  go_wp2_with fail
  refine (c_l91System hR3 (by omega)).mono ?_
  rintro e w4 ⟨u, ys, p4, rfl, hO4, hl4, hR4, hp4, hQ4⟩
  have hb4 := hb3.trans (oth_below hQ4 hR3)
  have hO34 := hO3.oth hQ4 hBlt
  go_wp2_with fail
  refine (c_pickR 2 (by omega) (by omega) hR4 (by omega)).mono ?_
  rintro e w5 ⟨x, x1, x2, rfl, hR5, hQ5⟩
  have hO5 := hO34.oth hQ5 hBlt
  have hO5' := hO4.oth hQ5 (Nat.lt_of_lt_of_le hBlt hQ3.size)
  have hb5 := hb4.trans (oth_below hQ5 hR4)
  clear hO3 hO34 hO4
  obtain ⟨so, co, rfl, hC, hc1, hc2⟩ := hO5.all
  obtain ⟨st, ct, rfl, hE, hd1, hd2⟩ := hO5'.all
  obtain ⟨n, hn⟩ : ∃ n, zs.length = n := ⟨_, rfl⟩
  obtain ⟨m, hm⟩ : ∃ m, ys.length = m := ⟨_, rfl⟩
  rw [hn] at hC hc1 hl3 ⊢
  rw [hm] at hE hd1 hl4 ⊢
  clear hO5 hO5'
  have hx : x = 0 ∨ x = 1 := by omega
  rcases hx with rfl | rfl
  · by_cases hn2 : n ≤ 2
    · have hz : ¬ (2 : Int) < (n : Int) := by omega
      go_wp2_with fail
      go_ret2
      exact ⟨so, n, co, zs, st, m, ct, ys, rfl, hC, hl3, hc1, hE, hl4, hd1, hb5⟩
    · have hz : (2 : Int) < (n : Int) := by omega
      have hz2 : (2 : Int) ≤ (co : Int) := by omega
      have hz3 : (n : Int) ≤ (co : Int) := by omega
      have hF := hC.front (k := 2) (by omega)
      go_wp2_with fail
      go_ret2
      exact ⟨so, 2, co, zs.take 2, st, m, ct, ys, rfl, hF, by omega, by omega, hE, hl4, hd1, hb5⟩
  · go_wp2_with fail
    go_ret2
    exact ⟨so, n, co, zs, st, m, ct, ys, rfl, hC, hl3, hc1, hE, hl4, hd1, hb5⟩
theorem has_cov {zs : List Cl} (hs : sysB zs = true) {k : Nat} (hk : k < zs.length) (x : Nat) (hx : x < 100) : hasB (rAt zs k) (mAt zs k) (x : Int) = ((x : Int) % mAt zs k == rAt zs k) := by
  have h := allB_at (sysB_facts hs).2.2.1 k hk
  have hn : numB (x : Int) = true := by unfold numB; simp; omega
  unfold hasB
  rw [h, hn]
  rfl
set_option maxRecDepth 20000 in
set_option maxHeartbeats 4000000 in
theorem w_FnHoleMeet (s : Option Addr) (len cap : Nat) (w : World) (h : Code0 w s len cap) : Calls Try.prog 10 #[.slice s len cap] w fun e w' => e = .returned (.bool true) ∧ Below w.heap.size w w' := by
  have hlc := h.lc
  have hcm := h.cm
  unfold maxLen at hcm
  by_cases hlen : len ≤ 1048576
  · go_enter Try.func10, Try.ntmps10
    go_wp2_with fail
    refine (c_DrawHoleMeet s len cap _ h).mono ?_
    rintro e w1 ⟨so, n, co, zs, st, m, ct, ys, rfl, hC, hn9, hc1, hD, hm9, hd1, hb1⟩
    have hcon := c_implHoleMeet so st n m co ct zs ys (by omega) (by omega) _ hC hD
    have hcos := fun w1 (h1 : Cls w1 so n zs) (h2 : Cls w1 st m ys) => c_specHoleMeet so st n m co ct zs ys (by omega) (by omega) w1 h1 h2
    cases hf : hmeB zs ys
    · have hr : hmeR zs ys = [] := by simp [hmeR, hf]
      rw [hf, hr] at hcon hcos
      go_wp2_with fail
      refine hcon.mono ?_
      rintro e w2 ⟨v2, rfl, hO2, hb2⟩
      obtain ⟨s2, k2, rfl, hI2, _⟩ := hO2.spread
      go_wp2_with fail
      refine (hcos _ (hC.keep hb2) (hD.keep hb2)).mono ?_
      rintro e w3 ⟨v3, rfl, hO3, hb3⟩
      obtain ⟨s3, k3, rfl, hI3, _⟩ := hO3.spread
      have hI23 := hI2.keep hb3
      have hsame := fun w1 (h1 : Below w3.heap.size w3 w1) => c_sameCls s2 s3 0 k2 k3 [] (by omega) w1 (hI23.keep h1) (hI3.keep h1)
      have hB3 := bt2 (bt2 hb1 hb2) hb3
      clear hcon hcos hO2 hO3 hI2 hI3 hI23 hC hD
      go_wp2_with (first | (go_at_call 29; refine (hsame _ (Below.refl _ _)).mono ?_; rintro e w4 ⟨rfl, hb4⟩; have hB4 := bt2 hB3 hb4) | (go_at_call 29; refine (hsame _ hb4).mono ?_; rintro e w5 ⟨rfl, hb5⟩; have hB5 := bt2 hB4 hb5) | fail)
      go_ret
      exact ⟨rfl, hB5⟩
    · have hr : hmeR zs ys = hmeL zs ys := by simp [hmeR, hf]
      have hsO : sysB (hmeL zs ys) = true := by
        unfold hmeB at hf
        exact (Bool.and_eq_true_iff.1 hf).2
      obtain ⟨hs, hy, _, _⟩ := com_bd (show comB zs ys = true by
        unfold hmeB at hf
        exact (Bool.and_eq_true_iff.1 hf).1)
      have hlz := hC.len
      have hly := hD.len
      have HCov := Lib.hid (fun x => hme_cov hf x)
      have HZ := Lib.hid (fun (x : Nat) (hx : x < 100) (k : Nat) (hk : k < n) => has_cov hs (show k < zs.length by omega) x hx)
      have HY := Lib.hid (fun (x : Nat) (hx : x < 100) (k : Nat) (hk : k < m) => has_cov hy (show k < ys.length by omega) x hx)
      have HO := Lib.hid (fun (x : Nat) (hx : x < 100) (k : Nat) (hk : k < (hmeL zs ys).length) => has_cov hsO hk x hx)
      have hq8 := (sysB_facts hsO).2.1
      rw [hf, hr] at hcon hcos
      clear hr hf hsO hs hy
      generalize hmeL zs ys = os at *
      obtain ⟨q, hq⟩ : ∃ q, os.length = q := ⟨_, rfl⟩
      rw [hq] at hq8 HO
      have HL := Lib.hid (show covK zs = fun x k => covK zs x k from rfl)
      go_wp2_with fail
      refine hcon.mono ?_
      rintro e w2 ⟨v2, rfl, hO2, hb2⟩
      obtain ⟨s2, k2, hv2, hI2, _⟩ := hO2.spread
      rw [hq] at hv2 hI2
      subst hv2
      go_wp2_with fail
      refine (hcos _ (hC.keep hb2) (hD.keep hb2)).mono ?_
      rintro e w3 ⟨v3, rfl, hO3, hb3⟩
      obtain ⟨s3, k3, hv3, hI3, _⟩ := hO3.spread
      rw [hq] at hv3 hI3
      subst hv3
      have hI23 := hI2.keep hb3
      have hC3 := (hC.keep hb2).keep hb3
      have hD3 := (hD.keep hb2).keep hb3
      have hs3 := c_sameCls s2 s3 q k2 k3 os (by omega) w3 hI23 hI3
      have hB3 := bt2 (bt2 hb1 hb2) hb3
      have HCz := Lib.hid (fun (x : Int) => show covB zs x = covK zs x n by unfold covB; rw [hlz])
      have HCy := Lib.hid (fun (x : Int) => show covB ys x = covK ys x m by unfold covB; rw [hly])
      have HCo := Lib.hid (fun (x : Int) => show covB os x = covK os x q by unfold covB; rw [hq])
      clear hcon hcos hO2 hO3 hI2 hI3 hC hD hb1 hb2 hb3 hlz hly hq
      go_wp2_with fail
      refine hs3.mono ?_
      rintro e w4 ⟨rfl, hb4⟩
      go_wp2_with fail
      go_loopw [9] (fun x wr => ∃ a : Nat, a ≤ 100 ∧ x = .int .i64 a ∧ Below w3.heap.size w3 wr) (fun x _ => 100 - (intOf x).toNat)
      case atStart => exact ⟨0, Nat.zero_le _, rfl, hb4⟩
      case round =>
        obtain ⟨x, hx, rfl, hBx⟩ := hrel
        by_cases hxl : x < 100
        · have HZ := Lib.hid (HZ.out x hxl)
          have HY := Lib.hid (HY.out x hxl)
          have HO := Lib.hid (HO.out x hxl)
          have hxz : (x : Int) < 100 := by omega
          have hfin := HCov.out (x : Int)
          rw [HCz.out, HCy.out, HCo.out] at hfin
          have HFin := Lib.hid hfin
          clear hfin
          go_wp2_with fail
          go_loopw [10, 13] (fun a i wr => ∃ k : Nat, k ≤ n ∧ i = .int .i64 k ∧ a = .bool (covK zs (x : Int) k) ∧ Below w3.heap.size w3 wr) (fun _ i _ => n - (intOf i).toNat)
          case atStart => exact ⟨0, Nat.zero_le _, rfl, rfl, hBx⟩
          case round =>
            obtain ⟨k, hk, rfl, rfl, hBa⟩ := hrel
            have hkw : k ≤ 10 := by omega
            by_cases hlt : k < n
            · have HS := Lib.hid (show covK zs (x : Int) (k + 1) = (covK zs (x : Int) k || ((x : Int) % mAt zs k == rAt zs k)) from rfl)
              cases hcv : covK zs (x : Int) k
              · rw [hcv, Bool.false_or] at HS
                have hh := HZ.out k hlt
                rcases (hC3.keep hBa).lies with h0 | ⟨b1, o1, rfl, hb1, hcells1⟩
                · omega
                obtain ⟨hx1, hx2⟩ := hcells1 k hlt
                have hkz0 : (0 : Int) ≤ (k : Int) := by omega
                have hkz1 : (k : Int) < (n : Int) := by omega
                have hcl := fun w1 => c_implClassHas (rAt zs k) (mAt zs k) (x : Int) w1
                rw [hh] at hcl
                clear hcells1 hcv
                generalize ((x : Int) % mAt zs k == rAt zs k) = B at *
                go_wp2_with fail
                refine (hcl _).mono ?_
                rintro e w5 ⟨rfl, hb5⟩
                have hB5 := bt2 hBa hb5
                go_wp2_with fail
                go_roundw
                case rel => exact ⟨k + 1, by omega, by go_num, by rw [HS.out], hB5⟩
                case measure => simp [intOf]; omega
              · rw [hcv, Bool.true_or] at HS
                clear hcv
                go_wp2_with fail
                go_roundw
                case rel => exact ⟨k + 1, by omega, by go_num, by rw [HS.out], hBa⟩
                case measure => simp [intOf]; omega
            · have hkn : n = k := by omega
              subst hkn
              go_wp2_with fail
              go_loopw [11, 14] (fun a i wr => ∃ k : Nat, k ≤ m ∧ i = .int .i64 k ∧ a = .bool (covK ys (x : Int) k) ∧ Below w3.heap.size w3 wr) (fun _ i _ => m - (intOf i).toNat)
              case atStart => exact ⟨0, Nat.zero_le _, rfl, rfl, hBa⟩
              case round =>
                obtain ⟨k, hk, rfl, rfl, hBb⟩ := hrel
                have hkw : k ≤ 10 := by omega
                by_cases hlt : k < m
                · have HS := Lib.hid (show covK ys (x : Int) (k + 1) = (covK ys (x : Int) k || ((x : Int) % mAt ys k == rAt ys k)) from rfl)
                  cases hcv : covK ys (x : Int) k
                  · rw [hcv, Bool.false_or] at HS
                    have hh := HY.out k hlt
                    rcases (hD3.keep hBb).lies with h0 | ⟨b1, o1, rfl, hb1, hcells1⟩
                    · omega
                    obtain ⟨hx1, hx2⟩ := hcells1 k hlt
                    have hkz0 : (0 : Int) ≤ (k : Int) := by omega
                    have hkz1 : (k : Int) < (m : Int) := by omega
                    have hcl := fun w1 => c_implClassHas (rAt ys k) (mAt ys k) (x : Int) w1
                    rw [hh] at hcl
                    clear hcells1 hcv
                    generalize ((x : Int) % mAt ys k == rAt ys k) = B at *
                    go_wp2_with fail
                    refine (hcl _).mono ?_
                    rintro e w5 ⟨rfl, hb5⟩
                    have hB5 := bt2 hBb hb5
                    go_wp2_with fail
                    go_roundw
                    case rel => exact ⟨k + 1, by omega, by go_num, by rw [HS.out], hB5⟩
                    case measure => simp [intOf]; omega
                  · rw [hcv, Bool.true_or] at HS
                    clear hcv
                    go_wp2_with fail
                    go_roundw
                    case rel => exact ⟨k + 1, by omega, by go_num, by rw [HS.out], hBb⟩
                    case measure => simp [intOf]; omega
                · have hkn : m = k := by omega
                  subst hkn
                  go_wp2_with fail
                  go_loopw [12, 15] (fun a i wr => ∃ k : Nat, k ≤ q ∧ i = .int .i64 k ∧ a = .bool (covK os (x : Int) k) ∧ Below w3.heap.size w3 wr) (fun _ i _ => q - (intOf i).toNat)
                  case atStart => exact ⟨0, Nat.zero_le _, rfl, rfl, hBb⟩
                  case round =>
                    obtain ⟨k, hk, rfl, rfl, hBc⟩ := hrel
                    have hkw : k ≤ 10 := by omega
                    by_cases hlt : k < q
                    · have HS := Lib.hid (show covK os (x : Int) (k + 1) = (covK os (x : Int) k || ((x : Int) % mAt os k == rAt os k)) from rfl)
                      cases hcv : covK os (x : Int) k
                      · rw [hcv, Bool.false_or] at HS
                        have hh := HO.out k hlt
                        rcases (hI23.keep hBc).lies with h0 | ⟨b1, o1, rfl, hb1, hcells1⟩
                        · omega
                        obtain ⟨hx1, hx2⟩ := hcells1 k hlt
                        have hkz0 : (0 : Int) ≤ (k : Int) := by omega
                        have hkz1 : (k : Int) < (q : Int) := by omega
                        have hcl := fun w1 => c_implClassHas (rAt os k) (mAt os k) (x : Int) w1
                        rw [hh] at hcl
                        clear hcells1 hcv
                        generalize ((x : Int) % mAt os k == rAt os k) = B at *
                        go_wp2_with fail
                        refine (hcl _).mono ?_
                        rintro e w5 ⟨rfl, hb5⟩
                        have hB5 := bt2 hBc hb5
                        go_wp2_with fail
                        go_roundw
                        case rel => exact ⟨k + 1, by omega, by go_num, by rw [HS.out], hB5⟩
                        case measure => simp [intOf]; omega
                      · rw [hcv, Bool.true_or] at HS
                        clear hcv
                        go_wp2_with fail
                        go_roundw
                        case rel => exact ⟨k + 1, by omega, by go_num, by rw [HS.out], hBc⟩
                        case measure => simp [intOf]; omega
                    · have hkn : q = k := by omega
                      subst hkn
                      have hfin := HFin.out
                      clear HFin HCz HCy HCo HCov HZ HY HO
                      generalize covK os (x : Int) q = C at *
                      generalize covK zs (x : Int) n = A at *
                      generalize covK ys (x : Int) m = B at *
                      subst hfin
                      cases A <;> cases B
                      all_goals
                        go_wp2_with fail
                        go_roundw
                        case rel => exact ⟨x + 1, by omega, by go_num, hBc⟩
                        case measure => simp [intOf]; omega
        · have hx100 : x = 100 := by omega
          subst hx100
          go_wp2_with fail
          go_ret
          exact ⟨rfl, bt2 hB3 hBx⟩
  · go_enter Try.func10, Try.ntmps10
    go_wp2_with fail
    go_ret
    exact ⟨rfl, Below.refl _ _⟩
end Go.Proofs.Ytfagjhccdbielaa
