/- Chapter 5, the model: RestBack. -/
import Derived.Test.YtnbejgbkabaleaaBg
namespace Go.Proofs.Ytnbejgbkabaleaa
open Go.RowKit
theorem invS_one (m r : Int) : invS m r 1 = 0 := by
  simp only [invS]
  cases h : (r * ((0 : Nat) : Int) % m == 1) <;> rfl
theorem invS_spec (m r : Int) (k : Nat) (h : invS m r k ≠ 0) : r * invS m r k % m = 1 := by
  induction k with
  | zero => exact absurd rfl h
  | succ k ih =>
    by_cases hq : r * (k : Int) % m = 1
    · rw [invS_t hq]; exact hq
    · rw [invS_f hq] at h ⊢; exact ih h
theorem okZ_mod {zs ys : List Int} (h : okZ zs ys = true) (k : Nat) (hk : k < zs.length) : 2 ≤ mo zs k := by
  have hb := okZ_bas h
  unfold basB at hb
  simp only [Bool.and_eq_true] at hb
  exact (okS_at hb.2 k hk).1
theorem bacB_f {zs ys : List Int} (h : okZ zs ys = true) (k : Nat) (hk : k < zs.length) (hi : invZ zs ys k = 0) : bacB zs ys = false := by
  have hm := okZ_mod h k hk
  have hl := (bas_len (okZ_bas h)).2
  have he : ((zA ys k * invZ zs ys k) % mo zs k == 1 % mo zs k) = false := by
    rw [hi, Int.mul_zero, Int.zero_emod, Int.emod_eq_of_lt (by omega) (by omega)]; rfl
  unfold bacB bakB
  rcases (show k = 0 ∨ k = 1 ∨ k = 2 ∨ k = 3 by omega) with rfl | rfl | rfl | rfl <;> simp [he]
theorem bacB_t {zs ys : List Int} (h : okZ zs ys = true) (hi : ∀ k, k < zs.length → invZ zs ys k ≠ 0) : bacB zs ys = true := by
  have he : ∀ k, ((zA ys k * invZ zs ys k) % mo zs k == 1 % mo zs k) = true := by
    intro k
    by_cases hk : k < zs.length
    · have hm := okZ_mod h k hk
      have := invS_spec (mo zs k) (zA ys k) (mo zs k).toNat (hi k hk)
      rw [show zA ys k * invZ zs ys k % mo zs k = 1 from this, Int.emod_eq_of_lt (by omega) (by omega)]; rfl
    · rw [mo_out (zs := zs) (i := k) (by omega), Int.emod_one, Int.emod_one]; rfl
  unfold bacB bakB
  rw [h, he 0, he 1, he 2, he 3]; rfl
set_option maxRecDepth 20000 in
set_option maxHeartbeats 4000000 in
theorem c_specRestBack (s u : Option Addr) (n cap m cap2 : Nat) (zs ys : List Int) (hn : n ≤ 1048576) (hm : m ≤ 1048576) (w : World) (hz : Ints w s n zs) (hy : Ints w u m ys) : Calls Try.prog 43 #[.slice s n cap, .slice u m cap2] w (RetJ w (bacR zs ys) (bacB zs ys)) := by
  have hcon := fun w hz hy => c_l5Rests s u n cap m cap2 zs ys hn hm w hz hy
  have hO0 := litJ w w (Below.refl _ _)
  have hlit := litJ w
  have hB0 : Below w.heap.size w (w.alloc (.cells #[] 3)) := ba (Below.refl _ _) _
  cases h1 : okZ zs ys
  · have ho : bacB zs ys = false := by rw [bacB, h1]; rfl
    have hr : bacR zs ys = [] := by rw [bacR, ho]; rfl
    rw [h1] at hcon
    rw [hr, ho]
    clear h1 ho hr
    go_enter Try.func43, Try.ntmps43
    go_wp2_with (first | (go_at_call 58; refine (hcon _ (hz.keep hB0) (hy.keep hB0)).mono ?_; rintro e w2 ⟨rfl, hb2⟩) | fail)
    go_ret2
    exact ⟨_, rfl, row_keep hO0 hb2, bt2 hB0 hb2⟩
  · obtain rfl := hz.len
    have hl4 := (bas_len (okZ_bas h1)).2
    have HM := Lib.hid (bas_mb (okZ_bas h1))
    have HM2 := Lib.hid (fun k hk => okZ_mod h1 k hk)
    have HA := Lib.hid (fun k hk => okZ_at h1 k hk)
    have e1 := okZ_len h1
    have hlm := hy.len
    have hm' : m = zs.length := by omega
    subst hm'
    obtain ⟨i0, hi, hz0, hz1, hz2⟩ := info_parts infoJ
    have HR := Lib.hid (show four (invZ zs ys) zs.length = bacL zs ys from rfl)
    have HF := Lib.hid (fun k (h : k < 4) => four_succ (f := invZ zs ys) h)
    have HN := Lib.hid (fun k (h : k ≤ 4) => four_len (f := invZ zs ys) h)
    have HZ := Lib.hid (fun (wr : World) (hB : Below w.heap.size w wr) => (hz.keep hB).lies)
    have HY := Lib.hid (fun (wr : World) (hB : Below w.heap.size w wr) => (hy.keep hB).lies)
    have HT := Lib.hid (fun hi => show bacR zs ys = bacL zs ys ∧ bacB zs ys = true by
      have ho := bacB_t h1 hi
      exact ⟨by rw [bacR, ho]; rfl, ho⟩)
    have HE := Lib.hid (fun k hk hi => show bacR zs ys = [] ∧ bacB zs ys = false by
      have ho := bacB_f h1 k hk hi
      exact ⟨by rw [bacR, ho]; rfl, ho⟩)
    rw [h1] at hcon
    clear h1 e1 hlm
    generalize bacB zs ys = TB at *
    generalize bacR zs ys = TR at *
    go_enter Try.func43, Try.ntmps43
    go_wp2_with fail
    refine (hcon _ (hz.keep hB0) (hy.keep hB0)).mono ?_
    rintro e w2 ⟨rfl, hb2⟩
    have hB2 := bt2 hB0 hb2
    have hO2 := row_keep hO0 hb2
    clear hcon hz hy hO0 hB0
    go_wp2_with fail
    go_loopw [6, 7] (fun v i wr => ∃ (k : Nat), k ≤ zs.length ∧ i = .int .i64 k ∧ Hid (∀ j, j < k → invZ zs ys j ≠ 0) ∧ wr.ownsRow w.heap.size 3 1 v k ((four (invZ zs ys) k).map (Value.int .i64)) ∧ Below w.heap.size w wr) (fun _ i _ => zs.length - (intOf i).toNat)
    case atStart => exact ⟨0, Nat.zero_le _, rfl, Lib.hid (fun j h => by omega), hO2, hB2⟩
    case round =>
      clear hO2 hB2
      obtain ⟨i, hk, rfl, hnz, hOr, hB⟩ := hrel
      by_cases hlt : i < zs.length
      · have hiz0 : (0 : Int) ≤ (i : Int) := by omega
        have hiz1 : (i : Int) < (zs.length : Int) := by omega
        obtain ⟨m1, m2⟩ := HM.out i
        have m3 := HM2.out i hlt
        obtain ⟨a1, a2⟩ := HA.out i hlt
        obtain ⟨C, hC⟩ := Int.eq_ofNat_of_zero_le (show 0 ≤ mo zs i by omega)
        have HC := Lib.hid hC
        have HI := Lib.hid (show invZ zs ys i = invS (mo zs i) (zA ys i) C by unfold invZ inv; rw [hC]; rfl)
        have HI1 := Lib.hid (invS_one (mo zs i) (zA ys i))
        have hC30 : C ≤ 30 := by omega
        have hC2 : 2 ≤ C := by omega
        clear hC
        go_wp2_with fail
        go_loopw [8, 9] (fun v k2 wr => ∃ (j : Nat), 1 ≤ j ∧ j ≤ C ∧ k2 = .int .i64 j ∧ v = .int .i64 (invS (mo zs i) (zA ys i) j) ∧ wr.ownsRow w.heap.size 3 1 u6 i ((four (invZ zs ys) i).map (Value.int .i64)) ∧ Below w.heap.size w wr) (fun _ k2 _ => C - (intOf k2).toNat)
        case atStart => exact ⟨1, by omega, by omega, rfl, by rw [HI1.out], hOr, hB⟩
        case round =>
          clear hOr hB
          obtain ⟨j, hj1, hj, rfl, rfl, hOr, hB⟩ := hrel
          rcases HZ.out _ hB with h0 | ⟨b, off, rfl, hbw, hcells⟩
          · omega
          rcases HY.out _ hB with h0 | ⟨b2, off2, rfl, hbw2, hcells2⟩
          · omega
          have hx := hcells i hlt
          rw [mo_in hlt] at hx
          have hx2 := hcells2 i hlt
          rw [zA_in] at hx2
          clear hcells hcells2
          by_cases hlt2 : j < C
          · have hjm : (j : Int) < mo zs i := by have := HC.out; omega
            have hjb := mulb (show 0 ≤ (j : Int) by omega) (show (j : Int) ≤ 30 by omega) a1 a2
            have hw0 : 0 ≤ (j : Int) * zA ys i := hjb.1
            have hw1 : wrap64 ((j : Int) * zA ys i) = (j : Int) * zA ys i := by unfold wrap64; omega
            have hw3 : ((j : Int) * zA ys i).tmod (mo zs i) = ((j : Int) * zA ys i) % mo zs i := Int.tmod_eq_emod_of_nonneg hw0
            have hcm := Int.mul_comm (j : Int) (zA ys i)
            clear hjb
            by_cases hq : zA ys i * (j : Int) % mo zs i = 1
            · have hqb : ((j : Int) * zA ys i % mo zs i == 1) = true := by rw [hcm]; simp [hq]
              have HS := Lib.hid (invS_t hq)
              clear hq hcm
              go_wp2_with fail
              go_quiet (fail)
              clear hw0 hw1 hw3 hqb
              go_wp2_with fail
              go_roundw
              case rel => exact ⟨j + 1, by omega, by omega, by go_num, by rw [HS.out], row_keep hOr (bel_drewN (Below.refl _ _) _), bel_drewN hB _⟩
              case measure => simp [intOf]; omega
            · have hqb : ((j : Int) * zA ys i % mo zs i == 1) = false := by rw [hcm]; simpa using hq
              have HS := Lib.hid (invS_f hq)
              clear hq hcm
              go_wp2_with fail
              go_quiet (fail)
              clear hw0 hw1 hw3 hqb
              go_wp2_with fail
              go_roundw
              case rel => exact ⟨j + 1, by omega, by omega, by go_num, by rw [HS.out], row_keep hOr (bel_drewN (Below.refl _ _) _), bel_drewN hB _⟩
              case measure => simp [intOf]; omega
          · have hk' : j = C := by omega
            subst hk'
            have hjm : ¬ (j : Int) < mo zs i := by have := HC.out; omega
            have hjd : decide ((j : Int) < mo zs i) = false := decide_eq_false hjm
            have hbd := inv_r30 (m := mo zs i) (r := zA ys i) (HM.out i)
            rw [← HI.out]
            have hbd2 : 0 ≤ invZ zs ys i ∧ invZ zs ys i ≤ 1000 := hbd
            have HT1 := Lib.hid (HF.out i (by omega))
            by_cases hv : invZ zs ys i = 0
            · obtain ⟨t1, t2⟩ := HE.out i hlt hv
              have hvb : (invZ zs ys i == 0) = true := by simp [hv]
              have HV := Lib.hid t1
              have HV2 := Lib.hid t2
              clear hv t1 t2
              go_wp2_with fail
              go_ret2
              rw [HV.out, HV2.out]
              exact ⟨_, rfl, hlit _ hB, ba hB _⟩
            · have hvb : (invZ zs ys i == 0) = false := by simpa using hv
              have HN2 : Hid (∀ j, j < i + 1 → invZ zs ys j ≠ 0) := Lib.hid (fun q hq => by
                by_cases e : q = i
                · subst e; exact hv
                · exact hnz.out q (by omega))
              clear hv
              have hbs := hB.size
              go_wp2_with (at_builtin; refine wpList_append_own_at _ rfl _ _ 23 rfl w.heap.size 3 i0 (.int .i64 0) 1 8 Try.underlying23 hi hz0 hz1 hz2 rfl (by decide) _ i _ rfl (hOr.alloc _) ⟨wr.heap.size, 0, none⟩ 1 1 [.int .i64 (invZ zs ys i)] rfl rfl (one_newJ wr _ _) (by simp [Value.oneCell']) (by unfold maxLen; omega) (by omega) (by simp; omega) ?_; intro v7 w7 hown7 hgrow7 _ hloc)
              have hb7 : Below w.heap.size w w7 := (hB.alloc hbs _).grown hgrow7 (by simp; omega) (fun g e => (hOr.lt g e).1)
              go_roundw
              case rel => exact ⟨i + 1, by omega, by go_num, HN2, by rw [HT1.out, List.map_append]; exact hown7, hb7⟩
              case measure => simp [intOf]; omega
      · have hk' : i = zs.length := by omega
        subst hk'
        obtain ⟨t1, t2⟩ := HT.out hnz.out
        rw [HR.out] at hOr
        have hOI : OwnI wr w.heap.size 3 u6 (bacL zs ys) := by
          unfold OwnI; rw [← HR.out, HN.out _ hl4]; rw [HR.out]; exact hOr
        clear hOr
        have HV := Lib.hid t1
        have HV2 := Lib.hid t2
        clear t1 t2
        go_wp2_with fail
        go_ret2
        rw [HV.out, HV2.out]
        exact ⟨_, rfl, hOI, hB⟩
end Go.Proofs.Ytnbejgbkabaleaa
