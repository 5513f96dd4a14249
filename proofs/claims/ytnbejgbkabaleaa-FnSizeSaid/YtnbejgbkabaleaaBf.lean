/- Chapter 5, the model: digits. -/
import Derived.Test.YtnbejgbkabaleaaBe
namespace Go.Proofs.Ytnbejgbkabaleaa
open Go.RowKit
/-- the number of the first k digits, and a digit, by lists -/
def nuZ (zs ys : List Int) (k : Nat) : Int := numK (mo zs 0) (mo zs 1) (mo zs 2) (mo zs 3) (zA ys 0) (zA ys 1) (zA ys 2) (zA ys 3) k
theorem nuZ_succ (zs ys : List Int) (k : Nat) : nuZ zs ys (k + 1) = nuZ zs ys k + digZ zs ys k * pZ zs k := rfl
theorem at4_mo (zs : List Int) (k : Nat) (hk : k < 4) : at4 (mo zs 0) (mo zs 1) (mo zs 2) (mo zs 3) k = mo zs k := by
  rcases (show k = 0 ∨ k = 1 ∨ k = 2 ∨ k = 3 by omega) with rfl | rfl | rfl | rfl <;> rfl
theorem at4_zA (zs : List Int) (k : Nat) (hk : k < 4) : at4 (zA zs 0) (zA zs 1) (zA zs 2) (zA zs 3) k = zA zs k := by
  rcases (show k = 0 ∨ k = 1 ∨ k = 2 ∨ k = 3 by omega) with rfl | rfl | rfl | rfl <;> rfl
theorem nuZ_dig {zs ys : List Int} (h : okZ zs ys = true) (k : Nat) (hk : k < 4) :
    (0 ≤ digZ zs ys k ∧ digZ zs ys k < mo zs k) ∧ (nuZ zs ys k + digZ zs ys k * pZ zs k) % mo zs k = zA ys k ∧ ∀ s, 0 ≤ s → s < digZ zs ys k → (nuZ zs ys k + s * pZ zs k) % mo zs k ≠ zA ys k := by
  have := (okZ_sys h).dig k hk
  rw [at4_mo zs k hk, at4_zA ys k hk] at this
  exact this
theorem nuZ_bd {zs ys : List Int} (h : okZ zs ys = true) (k : Nat) (hk : k ≤ 4) : 0 ≤ nuZ zs ys k ∧ nuZ zs ys k < pZ zs k := (okZ_sys h).num k hk
theorem four_get {f : Nat → Int} {n k : Nat} (hn : n ≤ 4) (hk : k < n) : (four f n)[k]?.getD 0 = f k := by
  rcases (show k = 0 ∨ k = 1 ∨ k = 2 ∨ k = 3 by omega) with rfl | rfl | rfl | rfl <;> simp [four, hk]
set_option maxRecDepth 20000 in
set_option maxHeartbeats 4000000 in
theorem c_l5Digits (s u : Option Addr) (n cap m cap2 : Nat) (zs ys : List Int) (hok : okZ zs ys = true) (w : World) (hz : Ints w s n zs) (hy : Ints w u m ys) : Calls Try.prog 67 #[.slice s n cap, .slice u m cap2] w (RetL w (digL zs ys)) := by
  obtain rfl := hz.len
  obtain rfl := hy.len
  obtain ⟨i0, hi, hz0, hz1, hz2⟩ := info_parts infoJ
  have hl4 := (bas_len (okZ_bas hok)).2
  have hly : ys.length = zs.length := ((tolZ_iff (okZ_bas hok)).1 (by unfold okZ at hok; simp only [Bool.and_eq_true] at hok; exact hok.2)).1
  have hO0 : (w.alloc (.cells #[] 3)).ownsRow w.heap.size 3 1 (.slice (some ⟨w.heap.size, 0, none⟩) 0 0) 0 [] := World.ownsRow_lit w #[] 0 (Nat.le_refl _) (by unfold maxLen; omega) rfl
  have hB0 : Below w.heap.size w (w.alloc (.cells #[] 3)) := ba (Below.refl _ _) _
  have HR := Lib.hid (show four (digZ zs ys) zs.length = digL zs ys from rfl)
  have HF := Lib.hid (fun k (h : k < 4) => four_succ (f := digZ zs ys) h)
  have HN := Lib.hid (fun k (h : k ≤ 4) => four_len (f := digZ zs ys) h)
  have HM := Lib.hid (bas_mb (okZ_bas hok))
  have HD := Lib.hid (fun k hk => nuZ_dig hok k hk)
  have HB := Lib.hid (fun k hk => nuZ_bd hok k hk)
  have HP := Lib.hid (fun k hk => pZ_bd (bas_mb (okZ_bas hok)) k hk)
  have HS := Lib.hid (fun k (hk : k < 4) => pZ_succ zs k hk)
  have HZ := Lib.hid (fun (wr : World) (hB : Below w.heap.size w wr) => (hz.keep hB).lies)
  have HY := Lib.hid (fun (wr : World) (hB : Below w.heap.size w wr) => (hy.keep hB).lies)
  rw [hly]
  rw [hly] at HY
  clear hok hz hy hly
  go_enter Try.func67, Try.ntmps67
  go_wp2_with fail
  go_loopw [5, 6] (fun v i wr => ∃ (k : Nat), k ≤ zs.length ∧ i = .int .i64 k ∧ OwnI wr w.heap.size 3 v (four (digZ zs ys) k) ∧ Below w.heap.size w wr) (fun _ i _ => zs.length - (intOf i).toNat)
  case atStart => exact ⟨0, Nat.zero_le _, rfl, hO0, hB0⟩
  case round =>
    clear hO0 hB0
    obtain ⟨i, hk, rfl, hOr, hB⟩ := hrel
    by_cases hlt : i < zs.length
    · have hiz0 : (0 : Int) ≤ (i : Int) := by omega
      have hiz1 : (i : Int) < (zs.length : Int) := by omega
      obtain ⟨so, co, hv, hIO, hso⟩ := hOr.spread
      have hfl : (four (digZ zs ys) i).length = i := HN.out i (by omega)
      rw [hfl] at hv hIO
      subst hv
      go_wp2_with fail
      go_loopw [7, 8, 9] (fun v p k2 wr => ∃ (k : Nat), k ≤ i ∧ k2 = .int .i64 k ∧ v = .int .i64 (nuZ zs ys k) ∧ p = .int .i64 (pZ zs k) ∧ OwnI wr w.heap.size 3 (.slice so i co) (four (digZ zs ys) i) ∧ Below w.heap.size w wr) (fun _ _ k2 _ => i - (intOf k2).toNat)
      case atStart => exact ⟨0, by omega, rfl, rfl, rfl, hOr, hB⟩
      case round =>
        clear hOr hB hIO
        obtain ⟨k, hk2, rfl, rfl, rfl, hOr, hB⟩ := hrel
        by_cases hlt2 : k < i
        · rcases HZ.out _ hB with h0 | ⟨b, off, rfl, hbw, hcells⟩
          · omega
          rcases (spreadI hOr).lies with h0 | ⟨b2, off2, rfl, hbw2, hcells2⟩
          · omega
          rw [hfl] at hcells2
          have hx := hcells k (by omega)
          rw [mo_in (by omega)] at hx
          have hx2 := hcells2 k hlt2
          rw [four_get (by omega) hlt2] at hx2
          have hkz0 : (0 : Int) ≤ (k : Int) := by omega
          have hkz1 : (k : Int) < (i : Int) := by omega
          have hkz2 : (k : Int) < (zs.length : Int) := by omega
          obtain ⟨m1, m2⟩ := HM.out k
          have hd := (HD.out k (by omega)).1
          have hp := HP.out k (by omega)
          have hv := HB.out k (by omega)
          have hpm := mulb (show 0 ≤ pZ zs k by omega) hp.2 (show 0 ≤ mo zs k by omega) m2
          have hpd := mulb (show 0 ≤ digZ zs ys k by omega) (show digZ zs ys k ≤ 30 by omega) (show 0 ≤ pZ zs k by omega) hp.2
          have HS1 := Lib.hid (HS.out k (by omega))
          have HS2 := Lib.hid (nuZ_succ zs ys k)
          clear hcells hcells2
          go_wp2_with fail
          go_roundw
          case rel => exact ⟨k + 1, by omega, by go_num, by rw [HS2.out], by rw [HS1.out], hOr, hB⟩
          case measure => simp [intOf]; omega
        · have hk' : k = i := by omega
          subst hk'
          obtain ⟨m1, m2⟩ := HM.out k
          obtain ⟨hd, hd2, hd3⟩ := HD.out k (by omega)
          have hp := HP.out k (by omega)
          have hv := HB.out k (by omega)
          have HD2 := Lib.hid hd2
          have HD3 := Lib.hid hd3
          have HT := Lib.hid (HF.out k (by omega))
          clear hd2 hd3
          generalize digZ zs ys k = D at *
          generalize nuZ zs ys k = V at *
          generalize pZ zs k = P at *
          have hdk : decide ((k : Int) < (k : Int)) = false := by simp
          go_wp2_with fail
          clear hdk
          go_loopw [10] (fun x wr => ∃ (t : Int), 0 ≤ t ∧ t ≤ D ∧ x = .int .i64 t ∧ OwnI wr w.heap.size 3 (.slice so k co) (four (digZ zs ys) k) ∧ Below w.heap.size w wr) (fun x _ => (D - intOf x).toNat)
          case atStart => exact ⟨0, by omega, by omega, rfl, hOr, hB⟩
          case round =>
            clear hOr hB
            obtain ⟨t, t0, t1, rfl, hOr, hB⟩ := hrel
            rcases HZ.out _ hB with h0 | ⟨b, off, rfl, hbw, hcells⟩
            · omega
            rcases HY.out _ hB with h0 | ⟨b', off', rfl, hbw', hcells'⟩
            · omega
            have hx := hcells k hlt
            rw [mo_in hlt] at hx
            have hx' := hcells' k hlt
            rw [zA_in] at hx'
            have htp := mulb t0 (show t ≤ 30 by omega) (show 0 ≤ P by omega) hp.2
            have hX0 : 0 ≤ V + t * P := by omega
            have hw1 : wrap64 (t * P) = t * P := by unfold wrap64; omega
            have hw2 : wrap64 (V + t * P) = V + t * P := by unfold wrap64; omega
            have hw3 : (V + t * P).tmod (mo zs k) = (V + t * P) % mo zs k := Int.tmod_eq_emod_of_nonneg hX0
            clear hcells hcells'
            by_cases hq : (V + t * P) % mo zs k = zA ys k
            · have htD : t = D := by
                rcases Int.lt_or_eq_of_le t1 with h | h
                · exact absurd hq (HD3.out t t0 h)
                · exact h
              have hqb : ((V + t * P) % mo zs k != zA ys k) = false := by simp [hq]
              have HtD := Lib.hid htD
              clear hq htD
              go_wp2_with fail
              go_quiet (fail)
              clear hw1 hw2 hw3 hqb htp hX0
              have htD := HtD.out
              subst htD
              have hOd := row_keep hOr (bel_drewN (Below.refl _ _) nq)
              have hBd := bel_drewN hB nq
              have hbs : w.heap.size ≤ wr.heap.size := hB.size
              have hOd2 : (wr.drewN nq).ownsRow w.heap.size 3 1 (.slice so k co) k ((four (digZ zs ys) k).map (Value.int .i64)) := by
                have := hOd; rw [hfl] at this; exact this
              go_wp2_with (at_builtin; refine wpList_append_own_at _ rfl _ _ 23 rfl w.heap.size 3 i0 (.int .i64 0) 1 8 Try.underlying23 hi hz0 hz1 hz2 rfl (by decide) _ k _ rfl (hOd2.alloc _) ⟨(wr.drewN nq).heap.size, 0, none⟩ 1 1 [.int .i64 t] rfl rfl (one_newJ (wr.drewN nq) _ _) (by simp [Value.oneCell']) (by unfold maxLen; omega) (by omega) (by simp; omega) ?_; intro v7 w7 hown7 hgrow7 _ hloc)
              have hb7 : Below w.heap.size w w7 := (hBd.alloc hBd.size _).grown hgrow7 (by simp; omega) (fun g e => (hOd2.lt g e).1)
              go_roundw
              case rel =>
                refine ⟨k + 1, by omega, by go_num, ?_, hb7⟩
                unfold OwnI
                rw [HN.out _ (by omega), HT.out, List.map_append]
                exact hown7
              case measure => simp [intOf]; omega
            · have htD : t < D := by
                rcases Int.lt_or_eq_of_le t1 with h | h
                · exact h
                · exact absurd (h ▸ HD2.out) hq
              have hqb : ((V + t * P) % mo zs k != zA ys k) = true := by simpa using hq
              clear hq
              go_wp2_with fail
              go_quiet (fail)
              go_wp2_with fail
              go_roundw
              case rel => exact ⟨t + 1, by omega, by omega, rfl, row_keep hOr (bel_drewN (Below.refl _ _) nq), bel_drewN hB _⟩
              case measure => simp [intOf]; omega
    · have hk' : i = zs.length := by omega
      subst hk'
      rw [HR.out] at hOr
      go_wp2_with fail
      go_ret
      exact ⟨_, rfl, hOr, hB⟩
end Go.Proofs.Ytnbejgbkabaleaa
