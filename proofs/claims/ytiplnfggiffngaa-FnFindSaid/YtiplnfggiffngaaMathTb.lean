/- Chapter 7 in plain: what is moved twice, steps. -/
import Derived.Test.YtiplnfggiffngaaMathTa
namespace Go.Proofs.Ytiplnfggiffngaa
theorem tmvR_mem {n : Int} (n1 : 1 ≤ n) (z : List Int) (t y : Int) : y ∈ tmvR n z t ↔ ∃ x ∈ z, (x + t) % n = y := by
  unfold tmvR
  rw [plc_mem n1 (tmvL_bd z t n1)]
  unfold tmvL
  rw [List.mem_map]
theorem tmvR_asc (n : Int) (z : List Int) (t : Int) : (tmvR n z t).Pairwise (· < ·) := setL_asc _ _
theorem tmv_mov {n : Int} (n1 : 1 ≤ n) (z : List Int) (a b : Int) : tmvR n (tmvR n z a) b = tmvR n z (a + b) :=
  asc_ext (tmvR_asc _ _ _) (tmvR_asc _ _ _) fun y => by
    rw [tmvR_mem n1, tmvR_mem n1]
    constructor
    · rintro ⟨x, hx, rfl⟩
      obtain ⟨u, hu, rfl⟩ := (tmvR_mem n1 z a x).1 hx
      refine ⟨u, hu, ?_⟩
      rw [Int.emod_add_emod, Int.add_assoc]
    · rintro ⟨u, hu, rfl⟩
      refine ⟨(u + a) % n, (tmvR_mem n1 z a _).2 ⟨u, hu, rfl⟩, ?_⟩
      rw [Int.emod_add_emod, Int.add_assoc]
theorem tmv_zero {n : Int} {z : List Int} (h : Til n z) : tmvR n z 0 = z := asc_ext (tmvR_asc _ _ _) h.2.2.2.1 fun y => by
  rw [tmvR_mem h.1]
  constructor
  · rintro ⟨x, hx, rfl⟩
    have := h.2.2.2.2 x hx
    rw [Int.add_zero, Int.emod_eq_of_lt this.1 (by omega)]
    exact hx
  · intro hy
    have := h.2.2.2.2 y hy
    exact ⟨y, hy, by rw [Int.add_zero, Int.emod_eq_of_lt this.1 (by omega)]⟩
theorem tmv_back {n : Int} {z : List Int} (h : Til n z) (t : Int) : tmvR n (tmvR n z t) (0 - t) = z := by
  rw [tmv_mov h.1, show t + (0 - t) = 0 by omega, tmv_zero h]
theorem tmv_times {n : Int} {z : List Int} (h : Til n z) {d : Int} (hd : tmvR n z d = z) : ∀ k : Nat, tmvR n z (k * d) = z
  | 0 => by rw [show ((0 : Nat) : Int) * d = 0 by simp, tmv_zero h]
  | k + 1 => by
    rw [show ((k + 1 : Nat) : Int) * d = (k : Int) * d + d by rw [Int.natCast_add, Int.add_mul]; simp, ← tmv_mov h.1, tmv_times h hd k, hd]
theorem stp_dvd {n : Int} {z : List Int} (h : Til n z) {m : Int} (hm0 : 0 ≤ m) (hm : tmvR n z m = z) : m % stpX n z = 0 := by
  obtain ⟨h1, h2, h3, h4⟩ := stp_facts h
  have r0 := Int.emod_nonneg m (show stpX n z ≠ 0 by omega)
  have r1 := Int.emod_lt_of_pos m (show 0 < stpX n z by omega)
  have q0 : 0 ≤ m / stpX n z := Int.ediv_nonneg hm0 (by omega)
  have e := Int.mul_ediv_add_emod m (stpX n z)
  obtain ⟨k, hk⟩ := Int.eq_ofNat_of_zero_le q0
  have e2 : tmvR n z (m % stpX n z) = z := by
    have h5 : tmvR n (tmvR n z (k * stpX n z)) (m % stpX n z) = z := by
      rw [tmv_mov h.1]
      have : (k : Int) * stpX n z + m % stpX n z = m := by rw [← hk, Int.mul_comm]; exact e
      rw [this]; exact hm
    rw [tmv_times h h1 k] at h5
    exact h5
  rcases Int.lt_or_eq_of_le r0 with h5 | h5
  · exact absurd e2 (h4 _ (by omega) r1)
  · exact h5.symm
theorem stp_n {n : Int} {z : List Int} (h : Til n z) : n % stpX n z = 0 := stp_dvd h (by have := h.1; omega) (tmvR_n h)
theorem stp_moved {n : Int} {z : List Int} (h : Til n z) (t : Int) : stpX n (tmvR n z t) = stpX n z := by
  have hp : stpP n (tmvR n z t) = stpP n z := by
    funext d
    unfold stpP
    have e : tmvR n (tmvR n z t) d = tmvR n (tmvR n z d) t := by rw [tmv_mov h.1, tmv_mov h.1, Int.add_comm]
    rw [e]
    apply Bool.eq_iff_iff.2
    rw [beq_iff_eq, beq_iff_eq]
    constructor
    · intro hh
      have h2 := congrArg (fun y => tmvR n y (0 - t)) hh
      rw [tmv_back h, tmv_mov h.1, tmv_mov h.1, show d + (t + (0 - t)) = d by omega] at h2
      · exact h2
    · intro hh
      rw [hh]
  unfold stpX
  rw [hp]
/-! the number of places -/
theorem setL_add (a b : Nat) (p : Int → Bool) : (setL (a + b) p).length = (setL a p).length + (setL b fun x => p (x + a)).length := by
  induction b with
  | zero => simp [setL]
  | succ b ih =>
    rw [← Nat.add_assoc, setL_succ, setL_succ, List.length_append, List.length_append, ih]
    have : p ((a + b : Nat) : Int) = p ((b : Int) + (a : Int)) := by rw [Int.natCast_add, Int.add_comm]
    rw [this, Nat.add_assoc]
    cases p ((b : Int) + (a : Int)) <;> rfl
theorem setL_times (d : Nat) (p : Int → Bool) (hp : ∀ x : Int, 0 ≤ x → p (x + d) = p x) : ∀ m : Nat, (setL (m * d) p).length = m * (setL d p).length
  | 0 => by simp [setL]
  | m + 1 => by
    rw [Nat.succ_mul, setL_add, setL_times d p hp m, Nat.succ_mul]
    congr 2
    refine setL_eq fun x x0 _ => ?_
    have : ∀ k : Nat, p (x + ((k * d : Nat) : Int)) = p x := by
      intro k
      induction k with
      | zero => simp
      | succ k ih =>
        rw [Nat.succ_mul, Int.natCast_add, ← Int.add_assoc, hp _ (by omega), ih]
    exact this m
theorem stp_count {n : Int} {z : List Int} (h : Til n z) : (z.length : Int) * stpX n z % n = 0 := by
  obtain ⟨h1, h2, h3, h4⟩ := stp_facts h
  have hdv := stp_n h
  obtain ⟨c, hc⟩ := Int.dvd_of_emod_eq_zero hdv
  have n1 := h.1
  obtain ⟨d, hd⟩ := Int.eq_ofNat_of_zero_le (show 0 ≤ stpX n z by omega)
  rw [hd] at hc h1 h2 h3 ⊢
  have c0 : 0 < c := by
    rcases Int.lt_or_le 0 c with h5 | h5
    · exact h5
    · have := Int.mul_le_mul_of_nonneg_left h5 (show (0 : Int) ≤ (d : Int) by omega)
      omega
  obtain ⟨m, hm⟩ := Int.eq_ofNat_of_zero_le (show 0 ≤ c by omega)
  subst hm
  have hN : n.toNat = m * d := by rw [hc, ← Int.natCast_mul, Int.toNat_natCast, Nat.mul_comm]
  have hz : z = setL (m * d) fun y => decide (y % n ∈ z) := by
    rw [← hN]
    refine asc_ext h.2.2.2.1 (setL_asc _ _) fun x => ?_
    rw [setL_mem]
    constructor
    · intro hx
      have := h.2.2.2.2 x hx
      exact ⟨this.1, by omega, by rw [Int.emod_eq_of_lt this.1 (by omega)]; simpa using hx⟩
    · rintro ⟨x0, x1, hx⟩
      rw [Int.emod_eq_of_lt x0 (by omega)] at hx
      simpa using hx
  have hper : ∀ x : Int, 0 ≤ x → decide ((x + (d : Int)) % n ∈ z) = decide (x % n ∈ z) := by
    intro x _
    refine decide_eq_decide.2 ?_
    have key : ∀ y : Int, y % n ∈ z → (y + (d : Int)) % n ∈ z := fun y hy => by
      have h5 : (y % n + (d : Int)) % n ∈ tmvR n z (d : Int) := (tmvR_mem n1 z _ _).2 ⟨y % n, hy, rfl⟩
      rw [h1, Int.emod_add_emod] at h5
      exact h5
    constructor
    · intro hx
      -- go on until the circle is round
      have hk : ∀ k : Nat, (x + (d : Int) + (k * d : Nat)) % n ∈ z := by
        intro k
        induction k with
        | zero => simpa using hx
        | succ k ih =>
          have := key _ ih
          rw [Nat.succ_mul, Int.natCast_add, ← Int.add_assoc]
          exact this
      obtain ⟨m', rfl⟩ : ∃ m', m = m' + 1 := ⟨m - 1, by omega⟩
      have h6 := hk m'
      have e : x + (d : Int) + ((m' * d : Nat) : Int) = x + n := by
        rw [hc, ← Int.natCast_mul, Nat.mul_succ, Int.natCast_add, Nat.mul_comm m' d]
        omega
      rw [e, Int.add_emod_right] at h6
      exact h6
    · exact key x
  have hl : z.length = m * (setL d fun y => decide (y % n ∈ z)).length := by
    have := setL_times d (fun y => decide (y % n ∈ z)) hper m
    rw [← hz] at this
    exact this
  rw [hl, Int.natCast_mul]
  generalize ((setL d fun y => decide (y % n ∈ z)).length : Int) = q
  rw [hc]
  refine Int.emod_eq_zero_of_dvd ⟨q, ?_⟩
  rw [Int.mul_assoc, Int.mul_comm q, ← Int.mul_assoc, Int.mul_comm (m : Int)]
end Go.Proofs.Ytiplnfggiffngaa
