/- Chapter 5, the model: RestDigits, RestNumber, RestMore, RestAdd, RestTimes. -/
import Derived.Test.YtnbejgbkabaleaaBf
import Derived.Test.YtnbejgbkabaleaaStepA
namespace Go.Proofs.Ytnbejgbkabaleaa
open Go.RowKit
theorem litJ (w w2 : World) (h : Below w.heap.size w w2) : OwnI (w2.alloc (.cells #[] 3)) w.heap.size 3 (.slice (some ⟨w2.heap.size, 0, none⟩) 0 0) [] := World.ownsRow_lit w2 #[] 0 h.size (by unfold maxLen; omega) rfl
theorem c_specRestDigits (s u : Option Addr) (n cap m cap2 : Nat) (zs ys : List Int) (hn : n ≤ 1048576) (hm : m ≤ 1048576) (w : World) (hz : Ints w s n zs) (hy : Ints w u m ys) : Calls Try.prog 35 #[.slice s n cap, .slice u m cap2] w (RetJ w (digR zs ys) (okZ zs ys)) := by
  have hcon := c_l5Rests s u n cap m cap2 zs ys hn hm w hz hy
  have hlit := litJ w
  cases hb : okZ zs ys
  · have hr : digR zs ys = [] := by rw [digR, hb]; rfl
    rw [hb] at hcon
    rw [hr]
    clear hb hr
    go_enter Try.func35, Try.ntmps35
    go_wp2_with (first | (go_at_call 58; refine hcon.mono ?_; rintro e w2 ⟨rfl, hb2⟩) | fail)
    go_ret2
    exact ⟨_, rfl, hlit _ hb2, ba hb2 _⟩
  · have hr : digR zs ys = digL zs ys := by rw [digR, hb]; rfl
    have hd := fun w hz hy => c_l5Digits s u n cap m cap2 zs ys hb w hz hy
    rw [hb] at hcon
    rw [hr]
    clear hb hr
    go_enter Try.func35, Try.ntmps35
    go_wp2_with (first | (go_at_call 58; refine hcon.mono ?_; rintro e w2 ⟨rfl, hb2⟩) | (go_at_call 67; refine (hd _ (hz.keep hb2) (hy.keep hb2)).mono ?_; rintro e w3 ⟨v, rfl, hO, hb3⟩) | fail)
    go_ret2
    exact ⟨_, rfl, hO.low hb2.size, bt2 hb2 hb3⟩
theorem digZ_out {zs ys : List Int} (h : okZ zs ys = true) (k : Nat) (hk : k < 4) (hl : zs.length ≤ k) : digZ zs ys k = 0 := by
  have := (nuZ_dig h k hk).1
  rw [mo_out hl] at this
  omega
theorem nuZ_all {zs ys : List Int} (h : okZ zs ys = true) : nuZ zs ys zs.length = numZ zs ys := by
  have hl := (bas_len (okZ_bas h)).2
  have h : ∀ j k, k + j = 4 → zs.length ≤ k → nuZ zs ys k = nuZ zs ys 4 := by
    intro j
    induction j with
    | zero => intro k hk _; rw [show k = 4 by omega]
    | succ j ih =>
      intro k hk hl
      rw [← ih (k + 1) (by omega) (by omega), nuZ_succ, digZ_out h k (by omega) hl, Int.zero_mul, Int.add_zero]
  exact h (4 - zs.length) zs.length (by omega) (Nat.le_refl _)
set_option maxRecDepth 20000 in
set_option maxHeartbeats 2000000 in
theorem c_l5Number (s u : Option Addr) (n cap m cap2 : Nat) (zs ys : List Int) (hok : okZ zs ys = true) (w : World) (hz : Ints w s n zs) (hy : Ints w u m ys) : Calls Try.prog 59 #[.slice s n cap, .slice u m cap2] w fun e w' => e = .returned (.int .i64 (numZ zs ys)) ∧ Below w.heap.size w w' := by
  have hcon := c_l5Digits s u n cap m cap2 zs ys hok w hz hy
  obtain rfl := hz.len
  have hl4 := (bas_len (okZ_bas hok)).2
  have HM := Lib.hid (bas_mb (okZ_bas hok))
  have HD := Lib.hid (fun k hk => nuZ_dig hok k hk)
  have HB := Lib.hid (fun k hk => nuZ_bd hok k hk)
  have HP := Lib.hid (fun k hk => pZ_bd (bas_mb (okZ_bas hok)) k hk)
  have HS := Lib.hid (fun k (hk : k < 4) => pZ_succ zs k hk)
  have HZ := Lib.hid (fun (wr : World) (hB : Below w.heap.size w wr) => (hz.keep hB).lies)
  have HA := Lib.hid (nuZ_all hok)
  clear hok hz hy
  go_enter Try.func59, Try.ntmps59
  go_wp2_with (first | (go_at_call 67; refine hcon.mono ?_; rintro e w2 ⟨v, rfl, hO, hb2⟩) | fail)
  obtain ⟨so, co, hv, hIO, hso⟩ := hO.spread
  subst hv
  clear hIO hcon
  have HF := Lib.hid (four_len (f := digZ zs ys) hl4)
  go_loopw [6, 7, 8] (fun v p k2 wr => ∃ (k : Nat), k ≤ zs.length ∧ k2 = .int .i64 k ∧ v = .int .i64 (nuZ zs ys k) ∧ p = .int .i64 (pZ zs k) ∧ OwnI wr w.heap.size 3 (.slice so (digL zs ys).length co) (digL zs ys) ∧ Below w.heap.size w wr) (fun _ _ k2 _ => zs.length - (intOf k2).toNat)
  case atStart => exact ⟨0, by omega, rfl, rfl, rfl, hO, hb2⟩
  case round =>
    clear hO hb2
    obtain ⟨k, hk, rfl, rfl, rfl, hOr, hB⟩ := hrel
    by_cases hlt : k < zs.length
    · rcases HZ.out _ hB with h0 | ⟨b, off, rfl, hbw, hcells⟩
      · omega
      have hfl : (digL zs ys).length = zs.length := HF.out
      rcases (spreadI hOr).lies with h0 | ⟨b2, off2, rfl, hbw2, hcells2⟩
      · omega
      have hx := hcells k (by omega)
      rw [mo_in (by omega)] at hx
      have hx2 := hcells2 k (by omega)
      rw [show (digL zs ys)[k]?.getD 0 = digZ zs ys k from four_get hl4 hlt] at hx2
      have hkz0 : (0 : Int) ≤ (k : Int) := by omega
      have hkz1 : (k : Int) < (zs.length : Int) := by omega
      have hkz2 : (k : Int) < ((digL zs ys).length : Int) := by omega
      obtain ⟨m1, m2⟩ := HM.out k
      have hd := (HD.out k (by omega)).1
      have hp := HP.out k (by omega)
      have hv := HB.out k (by omega)
      have hpm := mulb (show 0 ≤ pZ zs k by omega) hp.2 (show 0 ≤ mo zs k by omega) m2
      have hpd := mulb (show 0 ≤ digZ zs ys k by omega) (show digZ zs ys k ≤ 30 by omega) (show 0 ≤ pZ zs k by omega) hp.2
      have HS1 := Lib.hid (HS.out k (by omega))
      have HS2 := Lib.hid (nuZ_succ zs ys k)
      clear hcells hcells2 hfl
      generalize (digL zs ys).length = L at *
      go_wp2_with fail
      go_roundw
      case rel => exact ⟨k + 1, by omega, by go_num, by rw [HS2.out], by rw [HS1.out], hOr, hB⟩
      case measure => simp [intOf]; omega
    · have hk' : k = zs.length := by omega
      subst hk'
      go_wp2_with fail
      go_ret
      exact ⟨ri HA.out, hB⟩
theorem c_specRestNumber (s u : Option Addr) (n cap m cap2 : Nat) (zs ys : List Int) (hn : n ≤ 1048576) (hm : m ≤ 1048576) (w : World) (hz : Ints w s n zs) (hy : Ints w u m ys) : Calls Try.prog 25 #[.slice s n cap, .slice u m cap2] w fun e w' => e = .returned (.tuple #[.int .i64 (selI (okZ zs ys) (numZ zs ys)), .bool (okZ zs ys)]) ∧ Below w.heap.size w w' := by
  have hcon := c_l5Rests s u n cap m cap2 zs ys hn hm w hz hy
  cases hb : okZ zs ys
  · rw [hb] at hcon
    simp only [selI_f]
    clear hb
    go_enter Try.func25, Try.ntmps25
    go_wp2_with (first | (go_at_call 58; refine hcon.mono ?_; rintro e w2 ⟨rfl, hb2⟩) | fail)
    go_ret2
    exact ⟨rfl, hb2⟩
  · have hd := fun w hz hy => c_l5Number s u n cap m cap2 zs ys hb w hz hy
    rw [hb] at hcon
    simp only [selI_t]
    clear hb
    go_enter Try.func25, Try.ntmps25
    go_wp2_with (first | (go_at_call 58; refine hcon.mono ?_; rintro e w2 ⟨rfl, hb2⟩) | (go_at_call 59; refine (hd _ (hz.keep hb2) (hy.keep hb2)).mono ?_; rintro e w3 ⟨rfl, hb3⟩) | fail)
    go_ret2
    exact ⟨rfl, bt2 hb2 hb3⟩
theorem numZ_bd {zs ys : List Int} (h : okZ zs ys = true) : 0 ≤ numZ zs ys ∧ numZ zs ys < sizZ zs ∧ sizZ zs ≤ 810000 := by
  have := nuZ_bd h 4 (by omega)
  have := pZ_bd (bas_mb (okZ_bas h)) 4 (by omega)
  unfold nuZ at *
  unfold numZ sizZ
  omega
theorem c_specRestMore (s u : Option Addr) (n cap m cap2 : Nat) (zs ys : List Int) (x : Int) (hn : n ≤ 1048576) (hm : m ≤ 1048576) (w : World) (hz : Ints w s n zs) (hy : Ints w u m ys) : Calls Try.prog 40 #[.slice s n cap, .slice u m cap2, .int .i64 x] w fun e w' => e = .returned (.tuple #[.int .i64 (selI (morB zs ys x) (numZ zs ys % x)), .bool (morB zs ys x)]) ∧ Below w.heap.size w w' := by
  have hcon := c_l5Rests s u n cap m cap2 zs ys hn hm w hz hy
  cases hb : okZ zs ys
  · have ho : morB zs ys x = false := by rw [morB, hb]; rfl
    rw [hb] at hcon
    simp only [ho, selI_f]
    clear hb ho
    go_enter Try.func40, Try.ntmps40
    go_wp2_with (first | (go_at_call 58; refine hcon.mono ?_; rintro e w2 ⟨rfl, hb2⟩) | fail)
    go_ret2
    exact ⟨rfl, hb2⟩
  · have ho : morB zs ys x = modB x := by rw [morB, hb]; rfl
    have hd := fun w hz hy => c_l5Number s u n cap m cap2 zs ys hb w hz hy
    have hn2 := numZ_bd hb
    have hl6 := c_l6In x 1 1000
    rw [hb] at hcon
    cases hx : modB x
    · have hx2 : l6B x 1 1000 = false := hx
      simp only [ho, hx, selI_f]
      rw [hx2] at hl6
      clear hb ho hx hx2
      go_enter Try.func40, Try.ntmps40
      go_wp2_with (first | (go_at_call 58; refine hcon.mono ?_; rintro e w2 ⟨rfl, hb2⟩) | (go_at_call 47; refine (hl6 _).mono ?_; rintro e w' ⟨rfl, rfl⟩) | fail)
      go_ret2
      exact ⟨rfl, hb2⟩
    · have hx2 : l6B x 1 1000 = true := hx
      obtain ⟨x1, x2⟩ := modB_iff.1 hx
      simp only [ho, hx, selI_t]
      rw [hx2] at hl6
      clear hb ho hx hx2
      obtain ⟨n1, n2, n3⟩ := hn2
      generalize numZ zs ys = X at *
      go_enter Try.func40, Try.ntmps40
      go_wp2_with (first | (go_at_call 58; refine hcon.mono ?_; rintro e w2 ⟨rfl, hb2⟩) | (go_at_call 47; refine (hl6 _).mono ?_; rintro e w' ⟨rfl, rfl⟩) | (go_at_call 59; refine (hd _ (hz.keep hb2) (hy.keep hb2)).mono ?_; rintro e w3 ⟨rfl, hb3⟩) | fail)
      go_ret2
      exact ⟨rfl, bt2 hb2 hb3⟩
theorem okZ_at {zs ys : List Int} (h : okZ zs ys = true) (k : Nat) (hk : k < zs.length) : 0 ≤ zA ys k ∧ zA ys k ≤ 30 := by
  have hm := bas_mb (okZ_bas h) k
  have ht : tolZ zs ys = true := by unfold okZ at h; simp only [Bool.and_eq_true] at h; exact h.2
  have := ((tolZ_iff (okZ_bas h)).1 ht).2 k hk
  have := hm.2
  omega
theorem okZ_len {zs ys : List Int} (h : okZ zs ys = true) : ys.length = zs.length := by
  have ht : tolZ zs ys = true := by unfold okZ at h; simp only [Bool.and_eq_true] at h; exact h.2
  exact ((tolZ_iff (okZ_bas h)).1 ht).1
theorem twoB_and (zs ys xs : List Int) : twoB zs ys xs = (okZ zs ys && okZ zs xs) := by
  unfold twoB okZ
  cases basB zs <;> simp
end Go.Proofs.Ytnbejgbkabaleaa
