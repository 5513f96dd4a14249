/- Chapter 5, the model: RestTimes. -/
import Derived.Test.YtnbejgbkabaleaaBg
namespace Go.Proofs.Ytnbejgbkabaleaa
open Go.RowKit
set_option maxRecDepth 20000 in
set_option maxHeartbeats 2000000 in
theorem c_specRestTimes (s u x : Option Addr) (n cap m cap2 l cap3 : Nat) (zs ys xs : List Int) (hn : n ≤ 1048576) (hm : m ≤ 1048576) (hl : l ≤ 1048576) (w : World) (hz : Ints w s n zs) (hy : Ints w u m ys) (hx : Ints w x l xs) :
    Calls Try.prog 32 #[.slice s n cap, .slice u m cap2, .slice x l cap3] w (RetJ w (mulR zs ys xs) (twoB zs ys xs)) := by
  have hcon := fun w hz hy => c_l5Rests s u n cap m cap2 zs ys hn hm w hz hy
  have hco2 := fun w hz hy => c_l5Rests s x n cap l cap3 zs xs hn hl w hz hy
  have hO0 := litJ w w (Below.refl _ _)
  have hB0 : Below w.heap.size w (w.alloc (.cells #[] 3)) := ba (Below.refl _ _) _
  cases h1 : okZ zs ys
  · have ho : twoB zs ys xs = false := by rw [twoB_and, h1]; rfl
    have hr : mulR zs ys xs = [] := by rw [mulR, ho]; rfl
    rw [h1] at hcon
    rw [hr, ho]
    clear h1 ho hr
    go_enter Try.func32, Try.ntmps32
    go_wp2_with (first | (go_at_call 58; refine (hcon _ (hz.keep hB0) (hy.keep hB0)).mono ?_; rintro e w2 ⟨rfl, hb2⟩) | fail)
    go_ret2
    exact ⟨_, rfl, row_keep hO0 hb2, bt2 hB0 hb2⟩
  · cases h2 : okZ zs xs
    · have ho : twoB zs ys xs = false := by rw [twoB_and, h1, h2]; rfl
      have hr : mulR zs ys xs = [] := by rw [mulR, ho]; rfl
      rw [h1] at hcon
      rw [h2] at hco2
      rw [hr, ho]
      clear h1 h2 ho hr
      go_enter Try.func32, Try.ntmps32
      go_wp2_with fail
      refine (hcon _ (hz.keep hB0) (hy.keep hB0)).mono ?_
      rintro e w2 ⟨rfl, hb2⟩
      have hB2 := bt2 hB0 hb2
      go_wp2_with fail
      refine (hco2 _ (hz.keep hB2) (hx.keep hB2)).mono ?_
      rintro e w3 ⟨rfl, hb3⟩
      go_wp2_with fail
      go_ret2
      exact ⟨_, rfl, row_keep (row_keep hO0 hb2) hb3, bt2 hB2 hb3⟩
    · have ho : twoB zs ys xs = true := by rw [twoB_and, h1, h2]; rfl
      have hr : mulR zs ys xs = mulL zs ys xs := by rw [mulR, ho]; rfl
      have hl4 := (bas_len (okZ_bas h1)).2
      have HM := Lib.hid (bas_mb (okZ_bas h1))
      have HA := Lib.hid (fun k hk => okZ_at h1 k hk)
      have HC := Lib.hid (fun k hk => okZ_at h2 k hk)
      have e1 := okZ_len h1
      have e2 := okZ_len h2
      have hln := hz.len
      have hlm := hy.len
      have hll := hx.len
      obtain rfl : m = n := by omega
      obtain rfl : l = m := by omega
      obtain ⟨i0, hi, hz0, hz1, hz2⟩ := info_parts infoJ
      have HR := Lib.hid (show four (fun i => (zA ys i * zA xs i) % mo zs i) l = mulL zs ys xs by rw [← hln]; rfl)
      have HF := Lib.hid (fun k (h : k < 4) => four_succ (f := fun i => (zA ys i * zA xs i) % mo zs i) h)
      have HN := Lib.hid (fun k (h : k ≤ 4) => four_len (f := fun i => (zA ys i * zA xs i) % mo zs i) h)
      have hl4 : l ≤ 4 := by omega
      have HMI := Lib.hid (fun k (h : k < l) => mo_in (zs := zs) (k := k) (by omega))
      rw [hln] at HA HC
      have HZ := Lib.hid hz.lies
      have HY := Lib.hid hy.lies
      have HX := Lib.hid hx.lies
      rw [h1] at hcon
      rw [h2] at hco2
      rw [hr, ho]
      clear h1 h2 ho hr e1 e2 hln hlm hll
      go_enter Try.func32, Try.ntmps32
      go_wp2_with fail
      refine (hcon _ (hz.keep hB0) (hy.keep hB0)).mono ?_
      rintro e w2 ⟨rfl, hb2⟩
      have hB2 := bt2 hB0 hb2
      have hO2 := row_keep hO0 hb2
      go_wp2_with fail
      refine (hco2 _ (hz.keep hB2) (hx.keep hB2)).mono ?_
      rintro e w3 ⟨rfl, hb3⟩
      have hB3 := bt2 hB2 hb3
      have hO3 := row_keep hO2 hb3
      clear hcon hco2 hz hy hx hO2 hB2 hO0 hB0
      go_wp2_with fail
      go_loopw [8, 9] (fun v i wr => ∃ (k : Nat), k ≤ l ∧ i = .int .i64 k ∧ wr.ownsRow w.heap.size 3 1 v k ((four (fun i => (zA ys i * zA xs i) % mo zs i) k).map (Value.int .i64)) ∧ Below w.heap.size w wr) (fun _ i _ => l - (intOf i).toNat)
      case atStart => exact ⟨0, Nat.zero_le _, rfl, hO3, hB3⟩
      case round =>
        clear hO3 hB3
        obtain ⟨k, hk, rfl, hOr, hB⟩ := hrel
        by_cases hlt : k < l
        · rcases HZ.out with h0 | ⟨b, off, rfl, hbw, hcells⟩
          · omega
          rcases HY.out with h0 | ⟨b1, off1, rfl, hbw1, hcells1⟩
          · omega
          rcases HX.out with h0 | ⟨b2, off2, rfl, hbw2, hcells2⟩
          · omega
          have hx0 := (hB.cell (p := ⟨b, off + k, none⟩) hbw).trans (hcells k hlt)
          rw [HMI.out k hlt] at hx0
          have hx1 := (hB.cell (p := ⟨b1, off1 + k, none⟩) hbw1).trans (hcells1 k hlt)
          rw [zA_in] at hx1
          have hx2 := (hB.cell (p := ⟨b2, off2 + k, none⟩) hbw2).trans (hcells2 k hlt)
          rw [zA_in] at hx2
          have hkz0 : (0 : Int) ≤ (k : Int) := by omega
          have hkz1 : (k : Int) < (l : Int) := by omega
          obtain ⟨m1, m2⟩ := HM.out k
          obtain ⟨a1, a2⟩ := HA.out k hlt
          obtain ⟨c1, c2⟩ := HC.out k hlt
          have hne0 : some b ≠ u8.ownBlock := fun e => by have := (hOr.lt b e.symm).1; omega
          have hne1 : some b1 ≠ u8.ownBlock := fun e => by have := (hOr.lt b1 e.symm).1; omega
          have hne2 : some b2 ≠ u8.ownBlock := fun e => by have := (hOr.lt b2 e.symm).1; omega
          have hpp := mulb a1 a2 c1 c2
          have hw0 : 0 ≤ zA ys k * zA xs k := by omega
          have hw1 : wrap64 (zA ys k * zA xs k) = zA ys k * zA xs k := by unfold wrap64; omega
          have hw3 : (zA ys k * zA xs k).tmod (mo zs k) = (zA ys k * zA xs k) % mo zs k := Int.tmod_eq_emod_of_nonneg hw0
          have hw4 : IntKind.i64.wrap (zA ys k * zA xs k) = zA ys k * zA xs k := IntWalk.i64_in _ (by omega)
          have hmb := emod_bd (zA ys k * zA xs k) (mo zs k) m1
          have hm0 : ¬ mo zs k = 0 := by omega
          have hm1 : (mo zs k == 0) = false := by simpa using hm0
          have HT := Lib.hid (HF.out k (by omega))
          have HOne := Lib.hid (show ∀ u ∈ [Value.int .i64 ((zA ys k * zA xs k) % mo zs k)], u.oneCell' = true by simp [Value.oneCell'])
          clear hcells hcells1 hcells2 hpp
          have hk2 : (k + 1) * 8 ≤ 140737488355328 := by omega
          have hk1 : k + 1 ≤ maxLen := by unfold maxLen; omega
          have hbs := hB.size
          have HO2 := Lib.hid (hOr.alloc (.cells #[.int .i64 ((zA ys k * zA xs k) % mo zs k)] 3)).drew
          go_wp2_with fail
          go_region_held3 (fun w' => w'.cell? ⟨b, off + k, none⟩ = some (.int .i64 (mo zs k)) ∧ w'.cell? ⟨b1, off1 + k, none⟩ = some (.int .i64 (zA ys k)) ∧ w'.cell? ⟨b2, off2 + k, none⟩ = some (.int .i64 (zA xs k))) (go_keep) (first
            | (refine step_append_own rfl (.tmp 28) (.tmp 43) 23 rfl w.heap.size 3 i0 (.int .i64 0) 1 8 Try.underlying23 hi hz0 hz1 hz2 rfl (by decide) u8 k _ rfl (World.ownsRow.alloc (show World.ownsRow _ _ _ _ _ _ _ from hOr) _) ⟨wr.heap.size, 0, none⟩ 1 1 [.int .i64 ((zA ys k * zA xs k) % mo zs k)] rfl rfl (one_newJ wr _ _) HOne.out hk1 hk2 (by simp; omega) ?_; intro v7 w7 hown7 hgrow7 _; have g0 := hgrow7.cell (a := ⟨b, off + k, none⟩) (v := .int .i64 (mo zs k)) (by go_keep) hne0; have g1 := hgrow7.cell (a := ⟨b1, off1 + k, none⟩) (v := .int .i64 (zA ys k)) (by go_keep) hne1; have g2 := hgrow7.cell (a := ⟨b2, off2 + k, none⟩) (v := .int .i64 (zA xs k)) (by go_keep) hne2)
            | fail)
          have hb7 : Below w.heap.size w w7 := (ba hB.drew (.cells #[.int .i64 ((zA ys k * zA xs k) % mo zs k)] 3)).grown hgrow7 (ba hB.drew _).size (fun j e => (hOr.lt j e).1)
          clear hw0 hw1 hw3 hw4
          go_wp2_with fail
          go_roundw
          case rel => exact ⟨k + 1, by omega, by go_num, by rw [HT.out, List.map_append]; exact hown7, hb7⟩
          case measure => simp [intOf]; omega
        · have hk' : k = l := by omega
          subst hk'
          rw [HR.out] at hOr
          have hOI : OwnI wr w.heap.size 3 u8 (mulL zs ys xs) := by
            unfold OwnI; rw [← HR.out, HN.out _ hl4]; rw [HR.out]; exact hOr
          clear hOr
          go_wp2_with fail
          go_ret2
          exact ⟨_, rfl, hOI, hB⟩
end Go.Proofs.Ytnbejgbkabaleaa
