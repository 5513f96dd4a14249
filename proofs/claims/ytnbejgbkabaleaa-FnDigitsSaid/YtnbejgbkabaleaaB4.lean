/- Chapter 5, the program: the base that a list tells. -/
import Derived.Test.YtnbejgbkabaleaaB3
namespace Go.Proofs.Ytnbejgbkabaleaa
open Go.RowKit
theorem c_commonDivisorW (a b : Int) (ha : 0 ≤ a) (ha2 : a ≤ 1000000) (hb : 0 ≤ b) (hb2 : b ≤ 1000000) (w : World) : Calls Try.prog 69 #[.int .i64 a, .int .i64 b] w fun e w' => e = .returned (.int .i64 (gcdI a b)) ∧ Below w.heap.size w w' := by
  go_enter Try.func69, Try.ntmps69
  go_wp2
  go_loopw [0, 1] (fun x y wr => ∃ (p q : Int), 0 ≤ p ∧ p ≤ 1000000 ∧ 0 ≤ q ∧ q ≤ 1000000 ∧ Hid (gcdI p q = gcdI a b) ∧ x = .int .i64 p ∧ y = .int .i64 q ∧ Below w.heap.size w wr) (fun _ y _ => (intOf y).toNat)
  case atStart => exact ⟨a, b, ha, ha2, hb, hb2, rfl, rfl, rfl, Below.refl _ _⟩
  case round =>
    obtain ⟨p, q, p1, p2, q1, q2, hg, rfl, rfl, hB⟩ := hrel
    by_cases hq : q = 0
    · have hq0 : (q != 0) = false := by simp [hq]
      have hgo : p = gcdI a b := by have := hg.out; rw [hq, gcdI_zero p1] at this; exact this
      have HG := Lib.hid hgo
      clear hgo hg hq
      go_wp2
      go_ret
      exact ⟨ri HG.out, hB⟩
    · have hq0 : (q != 0) = true := by simpa using hq
      have hm := emod_bd p q (by omega)
      have hs : Hid (gcdI q (p % q) = gcdI a b) := by show _ = _; rw [gcdI_step p1 (by omega)]; exact hg.out
      clear hg
      go_wp2
      go_quiet (fail)
      go_wp2
      go_roundw
      case rel => exact ⟨q, p % q, by omega, by omega, hm.1, by omega, hs, rfl, rfl, bel_drewN hB _⟩
      case measure => simp [intOf]; omega
/-- the modulus at a place of a list, 1 behind it -/
def mo (zs : List Int) (i : Nat) : Int := zs[i]?.getD 1
/-- the product of the first k moduli -/
def pZ (zs : List Int) (k : Nat) : Int := pK (mo zs 0) (mo zs 1) (mo zs 2) (mo zs 3) k
/-- the first k are in their range, and have no common divisor with those ahead -/
def okS (zs : List Int) : Nat → Bool
  | 0 => true
  | k + 1 => okS zs k && decide (2 ≤ mo zs k) && decide (mo zs k ≤ 30) && gcdI (pZ zs k) (mo zs k) == 1
def basB (zs : List Int) : Bool := decide (1 ≤ zs.length ∧ zs.length ≤ 4) && okS zs zs.length
def basV (zs : List Int) : Value := baseV (selI (basB zs) (mo zs 0)) (selI (basB zs) (mo zs 1)) (selI (basB zs) (mo zs 2)) (selI (basB zs) (mo zs 3)) (selI (basB zs) zs.length)
theorem okS_at {zs : List Int} {n : Nat} (h : okS zs n = true) (k : Nat) (hk : k < n) : 2 ≤ mo zs k ∧ mo zs k ≤ 30 ∧ gcdI (pZ zs k) (mo zs k) = 1 := by
  induction n with
  | zero => omega
  | succ n ih =>
    simp only [okS, Bool.and_eq_true, decide_eq_true_eq, beq_iff_eq] at h
    by_cases e : k = n
    · subst e; exact ⟨h.1.1.2, h.1.2, h.2⟩
    · exact ih h.1.1.1 (by omega)
theorem okS_f {zs : List Int} {n k : Nat} (hk : k < n) (h : okS zs (k + 1) = false) : okS zs n = false := by
  induction n with
  | zero => omega
  | succ n ih =>
    by_cases e : k = n
    · subst e; exact h
    · simp only [okS, ih (by omega), Bool.false_and]
theorem mo_out {zs : List Int} {i : Nat} (h : zs.length ≤ i) : mo zs i = 1 := by simp [mo, h]
theorem mo_mb {zs : List Int} {n : Nat} (h : okS zs n = true) (hn : zs.length ≤ n) (i : Nat) : MB (mo zs i) := by
  by_cases hi : i < n
  · have := okS_at h i hi; exact ⟨by omega, this.2.1⟩
  · rw [mo_out (by omega)]; exact ⟨by omega, by omega⟩
/-- the first k moduli, and 1 behind them -/
def prt (zs : List Int) (k i : Nat) : Int := bif decide (i < k) then mo zs i else 1
theorem prt_mb {zs : List Int} {k : Nat} (h : okS zs k = true) (i : Nat) : MB (prt zs k i) := by
  unfold prt
  by_cases hi : i < k
  · have := okS_at h i hi
    simp only [hi, decide_true, cond_true]; exact ⟨by omega, this.2.1⟩
  · simp only [hi, decide_false, cond_false]; exact ⟨by omega, by omega⟩
theorem prt_size (zs : List Int) (k : Nat) (hk : k ≤ 4) : prt zs k 0 * prt zs k 1 * prt zs k 2 * prt zs k 3 = pZ zs k := by
  rcases (show k = 0 ∨ k = 1 ∨ k = 2 ∨ k = 3 ∨ k = 4 by omega) with rfl | rfl | rfl | rfl | rfl <;> simp [prt, pZ, pK]
theorem prt_set (zs : List Int) (k : Nat) (hk : k < 4) (x : Value) : [Value.int .i64 (prt zs k 0), .int .i64 (prt zs k 1), .int .i64 (prt zs k 2), .int .i64 (prt zs k 3), x].set k (.int .i64 (mo zs k)) = [Value.int .i64 (prt zs (k + 1) 0), .int .i64 (prt zs (k + 1) 1), .int .i64 (prt zs (k + 1) 2), .int .i64 (prt zs (k + 1) 3), x] := by
  rcases (show k = 0 ∨ k = 1 ∨ k = 2 ∨ k = 3 by omega) with rfl | rfl | rfl | rfl <;> simp [prt]
theorem prt_all (zs : List Int) (i : Nat) : prt zs zs.length i = mo zs i := by
  unfold prt
  by_cases hi : i < zs.length
  · simp [hi]
  · simp only [hi, decide_false, cond_false]; rw [mo_out (by omega)]
theorem basV_f {zs : List Int} (h : basB zs = false) : basV zs = baseV 0 0 0 0 0 := by unfold basV; simp only [h, selI_f]
theorem basV_t {zs : List Int} (h : basB zs = true) : basV zs = baseV (mo zs 0) (mo zs 1) (mo zs 2) (mo zs 3) zs.length := by unfold basV; simp only [h, selI_t]
theorem mo_in {zs : List Int} {k : Nat} (h : k < zs.length) : zs[k]?.getD 0 = mo zs k := by simp [mo, h]
theorem bas_end {zs : List Int} {k : Nat} (_hl : 1 ≤ zs.length ∧ zs.length ≤ 4) (hk : k < zs.length) (h : okS zs (k + 1) = false) : Ending.returned (.tuple #[baseV 0 0 0 0 0, .bool false]) = .returned (.tuple #[basV zs, .bool (basB zs)]) := by
  have hb : basB zs = false := by unfold basB; rw [okS_f hk h, Bool.and_false]
  rw [basV_f hb, hb]
theorem bas_done {zs : List Int} (hl : 1 ≤ zs.length ∧ zs.length ≤ 4) (h : okS zs zs.length = true) : Ending.returned (.tuple #[baseV (prt zs zs.length 0) (prt zs zs.length 1) (prt zs zs.length 2) (prt zs zs.length 3) zs.length, .bool true]) = .returned (.tuple #[basV zs, .bool (basB zs)]) := by
  have hb : basB zs = true := by unfold basB; rw [h, decide_eq_true hl]; rfl
  rw [basV_t hb, hb]
  simp only [prt_all]
theorem ret5 {w : World} {g : Nat} {x0 x1 x2 x3 x4 y0 y1 y2 y3 y4 : Value} (h : Arr w g [x0, x1, x2, x3, x4]) :
    Arr (((((w.setCell ⟨g, 0, none⟩ y0).setCell ⟨g, 1, none⟩ y1).setCell ⟨g, 2, none⟩ y2).setCell ⟨g, 3, none⟩ y3).setCell ⟨g, 4, none⟩ y4) g [y0, y1, y2, y3, y4] := by
  simpa using ((((h.put 0 (by simp) y0).put 1 (by simp) y1).put 2 (by simp) y2).put 3 (by simp) y3).put 4 (by simp) y4
theorem bel5 {w v : World} {B g : Nat} (h : Below B w v) (hg : B ≤ g) (y0 y1 y2 y3 y4 : Value) :
    Below B w (((((v.setCell ⟨g, 0, none⟩ y0).setCell ⟨g, 1, none⟩ y1).setCell ⟨g, 2, none⟩ y2).setCell ⟨g, 3, none⟩ y3).setCell ⟨g, 4, none⟩ y4) :=
  (bel4 h hg _ _ _ _).setCell hg _
set_option maxRecDepth 20000 in
set_option maxHeartbeats 4000000 in
theorem c_baseOf (s : Option Addr) (n cap : Nat) (zs : List Int) (hn : n ≤ 1048576) (w : World) (hz : Ints w s n zs) : Calls Try.prog 46 #[.slice s n cap] w fun e w' => e = .returned (.tuple #[basV zs, .bool (basB zs)]) ∧ Below w.heap.size w w' := by
  obtain rfl := hz.len
  have hN0 : Arr _ w.heap.size _ := Arr.newAt w #[.int .i64 0, .int .i64 0, .int .i64 0, .int .i64 0, .int .i64 0] 50 _ rfl
  have hB : Below w.heap.size w _ := ba (Below.refl _ _) (.cells #[.int .i64 0, .int .i64 0, .int .i64 0, .int .i64 0, .int .i64 0] 50)
  by_cases hl : 1 ≤ zs.length ∧ zs.length ≤ 4
  · have hN1 : Arr _ (w.heap.size + 1) _ := Arr.newAt (w.alloc (.cells #[.int .i64 0, .int .i64 0, .int .i64 0, .int .i64 0, .int .i64 0] 50)) #[.int .i64 1, .int .i64 1, .int .i64 1, .int .i64 1, .int .i64 zs.length] 50 _ (by simp)
    have hN0 := hN0.alloc (.cells #[.int .i64 1, .int .i64 1, .int .i64 1, .int .i64 1, .int .i64 zs.length] 50)
    have hB := ba hB (.cells #[.int .i64 1, .int .i64 1, .int .i64 1, .int .i64 1, .int .i64 zs.length] 50)
    have HE := Lib.hid (fun k hk h => bas_end (k := k) hl hk h)
    have HD := Lib.hid (fun h => bas_done hl h)
    go_enter Try.func46, Try.ntmps46
    go_wp2_with fail
    go_loopw [22] (fun i wr => ∃ (k : Nat), k ≤ zs.length ∧ i = .int .i64 k ∧ Hid (okS zs k = true) ∧ Arr wr (w.heap.size + 1) [.int .i64 (prt zs k 0), .int .i64 (prt zs k 1), .int .i64 (prt zs k 2), .int .i64 (prt zs k 3), .int .i64 zs.length] ∧ Arr wr w.heap.size [.int .i64 0, .int .i64 0, .int .i64 0, .int .i64 0, .int .i64 0] ∧ Below w.heap.size w wr) (fun i _ => zs.length - (intOf i).toNat)
    case atStart => exact ⟨0, by omega, rfl, Lib.hid rfl, hN1, hN0, hB⟩
    case round =>
      clear hN0 hN1 hB
      obtain ⟨k, hk, rfl, hok, hN1, hN0, hB⟩ := hrel
      obtain ⟨y0, y1, y2, y3, y4⟩ := Arr.get5 hN0
      obtain ⟨x0, x1, x2, x3, x4⟩ := Arr.get5 hN1
      have fy := hN0.f
      have fx := hN1.f
      obtain ⟨hl1, hl4⟩ := hl
      by_cases hlt : k < zs.length
      · rcases (hz.keep hB).lies with h0 | ⟨b, off, rfl, hbw, hcells⟩
        · omega
        have hx := hcells k hlt
        rw [mo_in hlt] at hx
        clear hcells hz
        have HS : Hid (okS zs (k + 1) = (decide (2 ≤ mo zs k) && decide (mo zs k ≤ 30) && gcdI (pZ zs k) (mo zs k) == 1)) := Lib.hid (by simp only [okS, hok.out, Bool.true_and])
        have HM := Lib.hid (fun i => prt_mb hok.out i)
        have HZ := Lib.hid (prt_size zs k (by omega))
        have HP := Lib.hid (prt_set zs k (by omega) (.int .i64 zs.length))
        have HF := Lib.hid (HE.out k hlt)
        generalize mo zs k = z at *
        rcases (show z < 2 ∨ 30 < z ∨ (2 ≤ z ∧ z ≤ 30) by omega) with hz2 | hz2 | hz2
        · go_wp2_with fail
          obtain ⟨z0, z1, z2, z3, z4⟩ := Arr.get5 (ret5 hN0 (y0 := .int .i64 0) (y1 := .int .i64 0) (y2 := .int .i64 0) (y3 := .int .i64 0) (y4 := .int .i64 0))
          refine bodyPost_ret (v := .tuple #[baseV 0 0 0 0 0, .bool false]) (by simp [results, Try.results46, go_sem, z0, z1, z2, z3, z4]) rfl ⟨HF.out (by rw [HS.out, decide_eq_false (by omega : ¬ 2 ≤ z)]; rfl), ?_⟩
          exact bel5 hB (by omega) _ _ _ _ _
        · have hz3 : ¬ z < 2 := by omega
          go_wp2_with fail
          obtain ⟨z0, z1, z2, z3, z4⟩ := Arr.get5 (ret5 hN0 (y0 := .int .i64 0) (y1 := .int .i64 0) (y2 := .int .i64 0) (y3 := .int .i64 0) (y4 := .int .i64 0))
          refine bodyPost_ret (v := .tuple #[baseV 0 0 0 0 0, .bool false]) (by simp [results, Try.results46, go_sem, z0, z1, z2, z3, z4]) rfl ⟨HF.out (by rw [HS.out, decide_eq_false (by omega : ¬ z ≤ 30), Bool.and_false]; rfl), ?_⟩
          exact bel5 hB (by omega) _ _ _ _ _
        · obtain ⟨hz3, hz4⟩ := hz2
          have hz5 : ¬ z < 2 := by omega
          have hz6 : ¬ 30 < z := by omega
          have hpb := (size_bd (HM.out 0) (HM.out 1) (HM.out 2) (HM.out 3)).2.2
          have HPB := Lib.hid hpb
          have HS2 : Hid (okS zs (k + 1) = (gcdI (prt zs k 0 * prt zs k 1 * prt zs k 2 * prt zs k 3) z == 1)) := Lib.hid (by rw [HS.out, HZ.out, decide_eq_true hz3, decide_eq_true hz4]; rfl)
          clear HS hpb
          by_cases hg : gcdI (prt zs k 0 * prt zs k 1 * prt zs k 2 * prt zs k 3) z = 1
          · have hg1 : (gcdI (prt zs k 0 * prt zs k 1 * prt zs k 2 * prt zs k 3) z != 1) = false := by simp [hg]
            have HO : Hid (okS zs (k + 1) = true) := Lib.hid (by rw [HS2.out, hg]; rfl)
            clear HS2 hg
            go_wp2_with (first
              | (go_at_call 49; refine (c_size (prt zs k 0) (prt zs k 1) (prt zs k 2) (prt zs k 3) zs.length (HM.out 0) (HM.out 1) (HM.out 2) (HM.out 3) _).mono ?_; rintro e w5 ⟨rfl, hb5⟩)
              | (go_at_call 69; refine (c_commonDivisorW _ z (by have := HPB.out; omega) (by have := HPB.out; omega) (by omega) (by omega) _).mono ?_; rintro e w6 ⟨rfl, hb6⟩; have hb7 := bt2 hb5 hb6; have hN0 := hN0.keep hb7; have hN1 := hN1.keep hb7; have hB := bt2 hB hb7; clear x0 x1 x2 x3 x4; have hx4 := hN1.c k (by simp; omega); have hx5 : ∃ u, [Value.int .i64 (prt zs k 0), .int .i64 (prt zs k 1), .int .i64 (prt zs k 2), .int .i64 (prt zs k 3), .int .i64 zs.length][k]? = some u := ⟨_, List.getElem?_eq_getElem (by simp; omega)⟩; obtain ⟨u, hu⟩ := hx5; rw [hu] at hx4; have fx := hN1.f)
              | fail)
            go_roundw
            case rel => exact ⟨k + 1, by omega, by go_num, HO, HP.out ▸ hN1.put k (by simp; omega) _, hN0.miss (by omega) _ _, hB.setCell (by simp) _⟩
            case measure => simp [intOf]; omega
          · have hg1 : (gcdI (prt zs k 0 * prt zs k 1 * prt zs k 2 * prt zs k 3) z != 1) = true := by simp [hg]
            have HO : Hid (okS zs (k + 1) = false) := Lib.hid (by rw [HS2.out]; simpa using hg)
            clear HS2 hg
            go_wp2_with (first
              | (go_at_call 49; refine (c_size (prt zs k 0) (prt zs k 1) (prt zs k 2) (prt zs k 3) zs.length (HM.out 0) (HM.out 1) (HM.out 2) (HM.out 3) _).mono ?_; rintro e w5 ⟨rfl, hb5⟩)
              | (go_at_call 69; refine (c_commonDivisorW _ z (by have := HPB.out; omega) (by have := HPB.out; omega) (by omega) (by omega) _).mono ?_; rintro e w6 ⟨rfl, hb6⟩; have hb7 := bt2 hb5 hb6; have hN0 := hN0.keep hb7; have hB := bt2 hB hb7; clear y0 y1 y2 y3 y4; obtain ⟨y0, y1, y2, y3, y4⟩ := Arr.get5 hN0; have fy := hN0.f)
              | fail)
            obtain ⟨z0, z1, z2, z3, z4⟩ := Arr.get5 (ret5 hN0 (y0 := .int .i64 0) (y1 := .int .i64 0) (y2 := .int .i64 0) (y3 := .int .i64 0) (y4 := .int .i64 0))
            refine bodyPost_ret (v := .tuple #[baseV 0 0 0 0 0, .bool false]) (by simp [results, Try.results46, go_sem, z0, z1, z2, z3, z4]) rfl ⟨HF.out HO.out, ?_⟩
            exact bel5 hB (by omega) _ _ _ _ _
      · have hk' : k = zs.length := by omega
        subst hk'
        have HD := Lib.hid (HD.out hok.out)
        go_wp2_with fail
        obtain ⟨z0, z1, z2, z3, z4⟩ := Arr.get5 (ret5 hN0 (y0 := .int .i64 (prt zs zs.length 0)) (y1 := .int .i64 (prt zs zs.length 1)) (y2 := .int .i64 (prt zs zs.length 2)) (y3 := .int .i64 (prt zs zs.length 3)) (y4 := .int .i64 zs.length))
        refine bodyPost_ret (v := .tuple #[baseV (prt zs zs.length 0) (prt zs zs.length 1) (prt zs zs.length 2) (prt zs zs.length 3) zs.length, .bool true]) (by simp [results, Try.results46, go_sem, z0, z1, z2, z3, z4]) rfl ⟨HD.out, ?_⟩
        exact bel5 hB (by omega) _ _ _ _ _
  · have hb : basB zs = false := by unfold basB; rw [decide_eq_false hl]; rfl
    have HV := Lib.hid (show Ending.returned (.tuple #[baseV 0 0 0 0 0, .bool false]) = .returned (.tuple #[basV zs, .bool (basB zs)]) by rw [basV_f hb, hb])
    clear hb
    obtain ⟨y0, y1, y2, y3, y4⟩ := Arr.get5 hN0
    rcases (show zs.length < 1 ∨ 4 < zs.length by omega) with h | h
    all_goals
      go_enter Try.func46, Try.ntmps46
      go_wp2_with fail
      refine bodyPost_ret (v := .tuple #[baseV 0 0 0 0 0, .bool false]) (by simp [results, Try.results46, go_sem, y0, y1, y2, y3, y4]) rfl ⟨HV.out, hB⟩
end Go.Proofs.Ytnbejgbkabaleaa
