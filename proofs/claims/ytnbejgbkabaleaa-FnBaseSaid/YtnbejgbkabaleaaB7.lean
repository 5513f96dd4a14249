/- Chapter 5, the program: RestIn, RestSize, RestOf, RestNumber, RestLess, RestMore. -/
import Derived.Test.YtnbejgbkabaleaaB6
namespace Go.Proofs.Ytnbejgbkabaleaa
open Go.RowKit
/-- the list of a function's values at the first n of four places -/
def four (f : Nat → Int) (n : Nat) : List Int := [f 0, f 1, f 2, f 3].take n
theorem four_len {f : Nat → Int} {n : Nat} (h : n ≤ 4) : (four f n).length = n := by simp [four, h]
theorem four_succ {f : Nat → Int} {n : Nat} (h : n < 4) : four f (n + 1) = four f n ++ [f n] := by
  rcases (show n = 0 ∨ n = 1 ∨ n = 2 ∨ n = 3 by omega) with rfl | rfl | rfl | rfl <;> rfl
theorem c_implRestIn (s : Option Addr) (n cap : Nat) (zs : List Int) (hn : n ≤ 1048576) (w : World) (hz : Ints w s n zs) : Calls Try.prog 14 #[.slice s n cap] w fun e w' => e = .returned (.bool (basB zs)) ∧ Below w.heap.size w w' := by
  have hcon := c_baseOf s n cap zs hn w hz
  unfold basV at hcon
  go_enter Try.func14, Try.ntmps14
  go_wp2_with (first | (go_at_call 46; refine hcon.mono ?_; rintro e w2 ⟨rfl, hb2⟩) | fail)
  go_ret
  exact ⟨rfl, ba hb2 _⟩
def sizZ (zs : List Int) : Int := pZ zs 4
set_option maxHeartbeats 1000000 in
theorem c_implRestSize (s : Option Addr) (n cap : Nat) (zs : List Int) (hn : n ≤ 1048576) (w : World) (hz : Ints w s n zs) : Calls Try.prog 16 #[.slice s n cap] w fun e w' => e = .returned (.tuple #[.int .i64 (selI (basB zs) (sizZ zs)), .bool (basB zs)]) ∧ Below w.heap.size w w' := by
  have hcon := c_baseOf s n cap zs hn w hz
  cases hb : basB zs
  · rw [hb, basV_f hb] at hcon
    simp only [selI_f]
    clear hb
    go_enter Try.func16, Try.ntmps16
    go_wp2_with (first | (go_at_call 46; refine hcon.mono ?_; rintro e w2 ⟨rfl, hb2⟩) | fail)
    go_ret2
    exact ⟨rfl, ba hb2 _⟩
  · rw [hb, basV_t hb] at hcon
    have hsz := fun w => c_size (mo zs 0) (mo zs 1) (mo zs 2) (mo zs 3) zs.length (bas_mb hb 0) (bas_mb hb 1) (bas_mb hb 2) (bas_mb hb 3) w
    simp only [selI_t]
    clear hb
    go_enter Try.func16, Try.ntmps16
    go_wp2_with (first | (go_at_call 46; refine hcon.mono ?_; rintro e w2 ⟨rfl, hb2⟩) | (go_at_call 49; refine (hsz _).mono ?_; rintro e w3 ⟨rfl, hb3⟩) | fail)
    go_ret2
    exact ⟨rfl, bt2 (ba hb2 _) hb3⟩
theorem okZ_bas {zs ys : List Int} (h : okZ zs ys = true) : basB zs = true := by
  unfold okZ at h; simp only [Bool.and_eq_true] at h; exact h.1
theorem pZ_cop {zs : List Int} (h : basB zs = true) : Cop (mo zs 0) (mo zs 1) (mo zs 2) (mo zs 3) := by
  have h' := h
  unfold basB at h'
  simp only [Bool.and_eq_true, decide_eq_true_eq] at h'
  intro k hk
  have e : at4 (mo zs 0) (mo zs 1) (mo zs 2) (mo zs 3) k = mo zs k := by
    rcases (show k = 0 ∨ k = 1 ∨ k = 2 ∨ k = 3 by omega) with rfl | rfl | rfl | rfl <;> rfl
  rw [e]
  by_cases hl : k < zs.length
  · have := (okS_at h'.2 k hl).2.2
    unfold gcdI pZ at this
    omega
  · rw [mo_out (zs := zs) (i := k) (by omega)]
    exact Nat.gcd_one_right _
theorem emod_rts {x m : Int} (h : (x % m == x) = true) (hm : MB m) : 0 ≤ x ∧ x < m := by
  have := emod_bd x m hm.1
  have e : x % m = x := by simpa using h
  rw [e] at this
  exact this
theorem okZ_sys {zs ys : List Int} (h : okZ zs ys = true) : Sys (mo zs 0) (mo zs 1) (mo zs 2) (mo zs 3) (zA ys 0) (zA ys 1) (zA ys 2) (zA ys 3) := by
  have hb := okZ_bas h
  have h0 := bas_mb hb 0
  have h1 := bas_mb hb 1
  have h2 := bas_mb hb 2
  have h3 := bas_mb hb 3
  unfold okZ tolZ tolB at h
  simp only [Bool.and_eq_true] at h
  obtain ⟨_, ⟨⟨⟨_, a0⟩, a1⟩, a2⟩, a3⟩ := h
  refine ⟨h0, h1, h2, h3, pZ_cop hb, fun k hk => ?_⟩
  rcases (show k = 0 ∨ k = 1 ∨ k = 2 ∨ k = 3 by omega) with rfl | rfl | rfl | rfl
  · exact emod_rts a0 h0
  · exact emod_rts a1 h1
  · exact emod_rts a2 h2
  · exact emod_rts a3 h3
/-- the number that lists tell -/
def numZ (zs ys : List Int) : Int := numK (mo zs 0) (mo zs 1) (mo zs 2) (mo zs 3) (zA ys 0) (zA ys 1) (zA ys 2) (zA ys 3) 4
set_option maxHeartbeats 1000000 in
theorem c_implRestNumber (s u : Option Addr) (n cap m cap2 : Nat) (zs ys : List Int) (hn : n ≤ 1048576) (hm : m ≤ 1048576) (w : World) (hz : Ints w s n zs) (hy : Ints w u m ys) : Calls Try.prog 23 #[.slice s n cap, .slice u m cap2] w fun e w' => e = .returned (.tuple #[.int .i64 (selI (okZ zs ys) (numZ zs ys)), .bool (okZ zs ys)]) ∧ Below w.heap.size w w' := by
  have hcon := c_restsTold s u n cap m cap2 zs ys hn hm w hz hy
  cases hb : okZ zs ys
  · rw [hb] at hcon
    simp only [basW, resV, selI_f] at hcon
    simp only [selI_f]
    clear hb
    go_enter Try.func23, Try.ntmps23
    go_wp2_with (first | (go_at_call 55; refine hcon.mono ?_; rintro e w2 ⟨rfl, hb2⟩) | fail)
    go_ret2
    exact ⟨rfl, ba (ba hb2 _) _⟩
  · have hbb := okZ_bas hb
    rw [hb, hbb] at hcon
    simp only [basW, resV, selI_t] at hcon
    have hsz := fun w => c_numberOf _ _ _ _ _ _ _ _ zs.length (okZ_sys hb) w
    simp only [selI_t]
    clear hb hbb
    go_enter Try.func23, Try.ntmps23
    go_wp2_with (first | (go_at_call 55; refine hcon.mono ?_; rintro e w2 ⟨rfl, hb2⟩) | (go_at_call 56; refine (hsz _).mono ?_; rintro e w3 ⟨rfl, hb3⟩) | fail)
    go_ret2
    exact ⟨rfl, bt2 (ba (ba hb2 _) _) hb3⟩
def morB (zs ys : List Int) (m : Int) : Bool := okZ zs ys && modB m
set_option maxHeartbeats 1000000 in
theorem c_implRestMore (s u : Option Addr) (n cap m cap2 : Nat) (zs ys : List Int) (x : Int) (hn : n ≤ 1048576) (hm : m ≤ 1048576) (w : World) (hz : Ints w s n zs) (hy : Ints w u m ys) : Calls Try.prog 26 #[.slice s n cap, .slice u m cap2, .int .i64 x] w fun e w' => e = .returned (.tuple #[.int .i64 (selI (morB zs ys x) (numZ zs ys % x)), .bool (morB zs ys x)]) ∧ Below w.heap.size w w' := by
  have hcon := c_restsTold s u n cap m cap2 zs ys hn hm w hz hy
  cases hb : okZ zs ys
  · have ho : morB zs ys x = false := by rw [morB, hb]; rfl
    rw [hb] at hcon
    simp only [basW, resV, selI_f] at hcon
    simp only [ho, selI_f]
    clear hb ho
    go_enter Try.func26, Try.ntmps26
    go_wp2_with (first | (go_at_call 55; refine hcon.mono ?_; rintro e w2 ⟨rfl, hb2⟩) | fail)
    go_ret2
    exact ⟨rfl, ba (ba hb2 _) _⟩
  · have hbb := okZ_bas hb
    have ho : morB zs ys x = modB x := by rw [morB, hb]; rfl
    rw [hb, hbb] at hcon
    simp only [basW, resV, selI_t] at hcon
    have hsz := fun w => c_numberOf _ _ _ _ _ _ _ _ zs.length (okZ_sys hb) w
    have hmod := c_inModuli x
    cases hx : modB x
    · simp only [ho, hx, selI_f]
      rw [hx] at hmod
      clear hb hbb ho hx hsz
      go_enter Try.func26, Try.ntmps26
      go_wp2_with (first | (go_at_call 55; refine hcon.mono ?_; rintro e w2 ⟨rfl, hb2⟩) | (go_at_call 60; refine (hmod _).mono ?_; rintro e w' ⟨rfl, rfl⟩) | fail)
      go_ret2
      exact ⟨rfl, ba (ba hb2 _) _⟩
    · obtain ⟨x1, x2⟩ := modB_iff.1 hx
      simp only [ho, hx, selI_t]
      rw [hx] at hmod
      clear hb hbb ho hx
      go_enter Try.func26, Try.ntmps26
      go_wp2_with (first | (go_at_call 55; refine hcon.mono ?_; rintro e w2 ⟨rfl, hb2⟩) | (go_at_call 60; refine (hmod _).mono ?_; rintro e w' ⟨rfl, rfl⟩) | (go_at_call 56; refine (hsz _).mono ?_; rintro e w3 ⟨rfl, hb3⟩) | (go_at_call 61; refine (c_restOf _ _ x1 x2 _).mono ?_; rintro e w1 ⟨rfl, rfl⟩) | fail)
      go_ret2
      exact ⟨rfl, bt2 (ba (ba hb2 _) _) hb3⟩
end Go.Proofs.Ytnbejgbkabaleaa
