/- The walk of the promise law FnSystemMoved. -/
import Derived.Test.YtfagjhccdbielaaMg4
import Derived.Test.YtfagjhccdbielaaMathV
import Derived.BigQuiet
namespace Go.Proofs.Ytfagjhccdbielaa
open Go.RowKit
theorem sumF_shift (g : Nat → Int) (n : Nat) : sumF (fun y => g (y + 1)) n = sumF g n + g n - g 0 := by
  induction n with
  | zero => simp [sumF]
  | succ n ih => simp only [sumF, ih]; omega
theorem sumF_turn (f : Nat → Int) (P : Nat) (k : Nat) : sumF (fun y => f ((y + k) % P)) P = sumF f P := by
  induction k with
  | zero => exact sumF_congr fun y hy => by rw [Nat.add_zero, Nat.mod_eq_of_lt hy]
  | succ k ih =>
    have h := sumF_shift (fun y => f ((y + k) % P)) P
    rw [ih] at h
    have e : (P + k) % P = (0 + k) % P := by rw [Nat.add_mod_left, Nat.zero_add]
    simp only [e] at h
    have e2 : (fun y => f ((y + (k + 1)) % P)) = fun y => f ((y + 1 + k) % P) := by
      funext y
      rw [show y + (k + 1) = y + 1 + k by omega]
    rw [e2]
    omega
def indN (zs : List Cl) (x : Nat) : Int := bif cntN zs x == 0 then 1 else 0
theorem hol_count (zs : List Cl) (k : Nat) : ((holK zs k).length : Int) = sumF (indN zs) k := by
  induction k with
  | zero => rfl
  | succ k ih =>
    simp only [holK, sumF, indN]
    cases (cntN zs k == 0)
    · simp only [cond_false]; omega
    · simp only [cond_true, List.length_append, List.length_singleton]; omega
theorem movL_hol {x : Int} {zs : List Cl} (h : sysB zs = true) : (holL (movL x zs)).length = (holL zs).length := by
  obtain ⟨P, hP⟩ := per_nat h
  obtain ⟨h2, e⟩ := movL_sys (x := x) h
  obtain ⟨_, _, ha, _, P1, _⟩ := sysB_facts h
  have hk0 := Int.emod_nonneg (-x) (show (P : Int) ≠ 0 by omega)
  obtain ⟨k, hk⟩ := Int.eq_ofNat_of_zero_le hk0
  have key : ((holK (movL x zs) P).length : Int) = (holK zs P).length := by
    rw [hol_count, hol_count, ← sumF_turn (indN zs) P k]
    refine sumF_congr fun y _ => ?_
    unfold indN
    have e1 : cntN (movL x zs) y = cntN zs (y - x) := by
      unfold cntN
      rw [movL_length]
      exact movL_cnt ha y _ (Nat.le_refl _)
    have e2 : ((y : Int) - x) % (P : Int) = (((y + k) % P : Nat) : Int) := by
      rw [Int.natCast_emod, Int.natCast_add, ← hk, Int.add_emod (y : Int) (-x % (P : Int)), Int.emod_emod, ← Int.add_emod, Int.sub_eq_add_neg]
    rw [e1, cnt_mod h, hP, e2]
  unfold holL
  rw [e, hP, Int.toNat_natCast]
  omega
theorem movL_back {x : Int} {zs : List Cl} (ha : allB zs = true) : movL (-x) (movL x zs) = zs := by
  induction zs with
  | nil => rfl
  | cons c t ih =>
    obtain ⟨hc, ht⟩ : inB c.1 c.2 = true ∧ allB t = true := by simpa [allB] using ha
    obtain ⟨m1, _, r1, r2⟩ := inB_iff.1 hc
    have e : movL (-x) (movL x (c :: t)) = (((c.1 + x) % c.2 + -x) % c.2, c.2) :: movL (-x) (movL x t) := rfl
    rw [e, ih ht]
    have h2 : ((c.1 + x) % c.2 + -x) % c.2 = c.1 := by
      rw [Int.add_emod, Int.emod_emod, ← Int.add_emod, Int.add_assoc, Int.add_right_neg, Int.add_zero, Int.emod_eq_of_lt r1 r2]
    rw [h2]
set_option maxRecDepth 20000 in
set_option maxHeartbeats 400000 in
theorem c_sameCls (s t : Option Addr) (n c1 c2 : Nat) (zs : List Cl) (hn : n ≤ 1048576) (w : World) (hs : Cls w s n zs) (ht : Cls w t n zs) : Calls Try.prog 29 #[.slice s n c1, .slice t n c2] w fun e w' => e = .returned (.bool true) ∧ Below w.heap.size w w' := by
  go_enter Try.func29, Try.ntmps29
  go_wp2_with fail
  go_loopw [5] (fun i wr => ∃ k : Nat, k ≤ n ∧ i = .int .i64 k ∧ Below w.heap.size w wr) (fun i _ => n - (intOf i).toNat)
  case atStart => exact ⟨0, Nat.zero_le _, rfl, Below.refl _ _⟩
  case round =>
    obtain ⟨k, hk, rfl, hB⟩ := hrel
    by_cases hlt : k < n
    · rcases (hs.keep hB).lies with h0 | ⟨b1, o1, rfl, hb1, hcells1⟩
      · omega
      rcases (ht.keep hB).lies with h0 | ⟨b2, o2, rfl, hb2, hcells2⟩
      · omega
      obtain ⟨hx, hy⟩ := hcells1 k hlt
      obtain ⟨hx2, hy2⟩ := hcells2 k hlt
      clear hcells1 hcells2
      go_wp2_with fail
      go_quiet (fail)
      go_wp2_with fail
      go_roundw
      case rel => exact ⟨k + 1, by omega, by go_num, bel_drewN hB _⟩
      case measure => simp [intOf]; omega
    · go_wp2_with fail
      go_ret
      exact ⟨rfl, hB⟩
def DrawnSI (w : World) (e : Ending) (w' : World) : Prop := ∃ v zs x, e = .returned (.tuple #[v, .int .i64 x]) ∧ OwnC w' w.heap.size 43 v zs ∧ zs.length ≤ 9 ∧ -100 ≤ x ∧ x ≤ 2000099 ∧ Below w.heap.size w w'
theorem num_neg {x : Int} (h : numB x = true) : numB (-x) = true := by
  unfold numB at *
  simp only [decide_eq_true_eq] at *
  omega
end Go.Proofs.Ytfagjhccdbielaa
