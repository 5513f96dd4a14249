/- Contract of the numbers of a class as an iterator: it hands out first, first + m, .. below the end, to every loop body that keeps its three boxes. -/
import Derived.RangeFuncNested
import Derived.RangeFuncBound
import Derived.RangeFuncCalls
import Derived.RangeFuncLeaves
import Derived.Shelf.Abstract
import Derived.Shelf.RegionOpen
import Derived.WalkKit
import Derived.OwnWalkIn
import Derived.TacticsInMore
import Derived.LoopNIn
import Derived.LoopIn
import Derived.Test.YtonecelkkeakiaaGreatDoorMz2
import Derived.Test.YtonecelkkeakiaaGreatDoorMathS
import Derived.Test.YtonecelkkeakiaaGreatDoorE2
namespace Go.Proofs.YtonecelkkeakiaaGreatDoor
open Go.RowKit Go.Shelf
attribute [local go_sem] Oper.semAt_some
/-- f 0, f 1, .. f (k - 1) -/
def seqTo (f : Nat → Int) (k : Nat) : List Int := (List.range k).map f
theorem seqTo_succ (f : Nat → Int) (k : Nat) : seqTo f (k + 1) = seqTo f k ++ [f k] := by simp [seqTo, List.range_succ]
theorem seqTo_length (f : Nat → Int) (k : Nat) : (seqTo f k).length = k := by simp [seqTo]
/-- the k-th number -/
def numK (r m a : Int) (k : Nat) : Int := firI r m a + (k : Int) * m
theorem numK_succ (r m a : Int) (k : Nat) : numK r m a (k + 1) = numK r m a k + m := by
  unfold numK; rw [Int.natCast_add, Int.add_mul]; omega
theorem numK_ge {r m a : Int} (hm : 1 ≤ m) (k : Nat) : firI r m a + k ≤ numK r m a k := by
  unfold numK
  have := Int.mul_le_mul_of_nonneg_left hm (Int.natCast_nonneg k); omega
/-- all numbers below b have come -/
def NumAll (r m a b : Int) (ys : List Int) : Prop := ∃ k, ys = seqTo (numK r m a) k ∧ b ≤ numK r m a k ∧ ∀ j, j < k → numK r m a j < b
def NumPart (r m a b : Int) (ys : List Int) : Prop := ∃ k, ys = seqTo (numK r m a) (k + 1) ∧ ∀ j, j < k + 1 → numK r m a j < b
set_option maxHeartbeats 1000000 in
theorem num1_in (n : Nat) (hn : 1 ≤ n) (l C A E : Nat) (r m a b : Int) (m1 : 1 ≤ m) (m2 : m ≤ 1000) (r1 : 0 ≤ r) (r2 : r < m) (a1 : 0 ≤ a) (a2 : a ≤ 1000000) (b2 : b ≤ 1000000) (Kp : World → World → Prop)
    (hKp : ∀ W W', Kp W W' → ∀ p : Addr, (p.block = C ∨ p.block = A ∨ p.block = E) → W'.cell? p = W.cell? p) (J Jx : List Int → World → Prop)
    (hY : ∀ pre x W, J pre W → pre.length < 1000001 → YieldAt Fence.wide (n - 1) Tryz.prog l #[.int .i64 x] W fun e W' =>
      (e = .returned (.bool true) ∧ J (pre ++ [x]) W' ∧ Kp W W') ∨ (e = .returned (.bool false) ∧ Jx (pre ++ [x]) W'))
    (W : World) (hJ : AbidesFrom W.heap.size J) (hc0 : W.cell? ⟨C, 0, none⟩ = some (.int .i64 r)) (hc1 : W.cell? ⟨C, 1, none⟩ = some (.int .i64 m)) (ha : W.cell? ⟨A, 0, none⟩ = some (.int .i64 a)) (he : W.cell? ⟨E, 0, none⟩ = some (.int .i64 b)) (h0 : J [] W) :
    CallsIn Fence.wide n Tryz.prog 90 #[.func (.yield l) #[] #[], .pointer (some ⟨C, 0, none⟩), .pointer (some ⟨A, 0, none⟩), .pointer (some ⟨E, 0, none⟩)] W fun e W' => (∃ v, e = .returned v) ∧
      ((∃ ys, NumAll r m a b ys ∧ J ys W') ∨ (∃ pre, NumPart r m a b pre ∧ Jx pre W')) := by
  have hf := @firI_bd r m a m1
  refine callsIn_of_wp Tryz.func90 rfl trivial ?_ rfl
  simp only [Tryz.ntmps90, List.size_toArray, List.length_cons, List.length_nil, Nat.reduceAdd, Nat.reduceSub, Array.replicate_succ, Array.replicate_zero, List.push_toArray, List.append_toArray, List.nil_append, List.cons_append]
  gi_wp2_with (refine ⟨trivial, ?_⟩; gi_at_call 91; refine (callsIn_wide.2 (c_first r m a m1 m2 r1 r2 (by omega) a2 _)).mono ?_; rintro e w' ⟨rfl, rfl⟩)
  have hJ0 : J [] (W.alloc (Obj.cells #[Value.int IntKind.i64 r, Value.int IntKind.i64 m] 41)) := hJ _ _ _ none h0 (World.grownBy_alloc W _ none) (fun r e => by cases e)
  gi_loopw [5] (fun i wr => ∃ k : Nat, i = .int .i64 (numK r m a k) ∧ (∀ j, j < k → numK r m a j < b) ∧ J (seqTo (numK r m a) k) wr ∧ wr.cell? ⟨C, 1, none⟩ = some (.int .i64 m) ∧ wr.cell? ⟨E, 0, none⟩ = some (.int .i64 b))
    (fun i _ => (b - intOf i).toNat)
  case atStart => exact ⟨0, by simp [numK], by simp, hJ0, cell_kept hc1 (World.grownBy_alloc W _ none) (fun r e => by cases e), cell_kept he (World.grownBy_alloc W _ none) (fun r e => by cases e)⟩
  case round =>
    obtain ⟨k, rfl, hlt, hJs, hm', he'⟩ := hrel
    have hge := @numK_ge r m a m1 k
    by_cases hx : numK r m a k < b
    · obtain ⟨fn, tmps, assign, body, hy, hR⟩ := hY _ (numK r m a k) wr hJs (by rw [seqTo_length]; omega)
      have hs := Lib.hid (numK_succ r m a k)
      have hq := Lib.hid (seqTo_succ (numK r m a) k)
      have hall : ∀ j, j < k + 1 → numK r m a j < b := fun j hj => by
        rcases Nat.lt_succ_iff_lt_or_eq.1 hj with h | h
        · exact hlt j h
        · rw [h]; exact hx
      have hall' := Lib.hid hall
      clear hall hlt
      gi_wp2
      refine hR.mono ?_
      rintro e W3 (⟨rfl, hJ3, hk3⟩ | ⟨rfl, hJx3⟩)
      · have e1 := (hKp _ _ hk3 ⟨C, 1, none⟩ (.inl rfl)).trans hm'
        have e2 := (hKp _ _ hk3 ⟨E, 0, none⟩ (.inr (.inr rfl))).trans he'
        gi_wp2
        go_roundw
        case rel => exact ⟨k + 1, by rw [hs.out], hall'.out, by rw [hq.out]; exact hJ3, e1, e2⟩
        case measure => simp [intOf]; omega
      · gi_wp2
        refine bodyPost_ret (results_none rfl _ _ _) rfl ?_
        exact ⟨⟨_, rfl⟩, .inr ⟨_, ⟨k, hq.out.symm, hall'.out⟩, hJx3⟩⟩
    · have hl' := Lib.hid hlt
      clear hlt
      gi_wp2
      go_end0
      exact ⟨⟨_, rfl⟩, .inl ⟨_, ⟨k, rfl, by omega, hl'.out⟩, hJs⟩⟩
end Go.Proofs.YtonecelkkeakiaaGreatDoor
namespace Go.Proofs.YtonecelkkeakiaaGreatDoor
open Go.RowKit
theorem lcmI_nat (a b : Nat) : lcmI (a : Int) (b : Int) = ((a.lcm b : Nat) : Int) := by
  unfold lcmI gcdI
  simp only [Int.toNat_natCast]
  rw [← Int.natCast_ediv, ← Int.natCast_mul]
  congr 1
  rw [Nat.lcm, Nat.div_mul_right_comm (Nat.gcd_dvd_left a b)]
theorem lcmI_pos {a b : Int} (ha : 1 ≤ a) (hb : 1 ≤ b) : 1 ≤ lcmI a b ∧ a ≤ lcmI a b ∧ b ≤ lcmI a b := by
  obtain ⟨x, rfl⟩ := Int.eq_ofNat_of_zero_le (show 0 ≤ a by omega)
  obtain ⟨y, rfl⟩ := Int.eq_ofNat_of_zero_le (show 0 ≤ b by omega)
  rw [lcmI_nat]
  have hx : 0 < x := by omega
  have hy : 0 < y := by omega
  have h0 : 0 < x.lcm y := Nat.lcm_pos hx hy
  have h1 := Nat.le_of_dvd h0 (Nat.dvd_lcm_left x y)
  have h2 := Nat.le_of_dvd h0 (Nat.dvd_lcm_right x y)
  omega
def perO : Int → List Cl → Option Int
  | p, [] => some p
  | p, c :: t => if inB c.1 c.2 = true ∧ lcmI p c.2 ≤ 1000 then perO (lcmI p c.2) t else none
def allB (zs : List Cl) : Bool := zs.all fun c => inB c.1 c.2
def sysB (zs : List Cl) : Bool := decide (1 ≤ zs.length ∧ zs.length ≤ 8) && (perO 1 zs).isSome
def perI (zs : List Cl) : Int := (perO 1 zs).getD 0
theorem drop_cl (zs : List Cl) (k : Nat) (h : k < zs.length) : zs.drop k = (rAt zs k, mAt zs k) :: zs.drop (k + 1) := by
  have e : (rAt zs k, mAt zs k) = zs[k] := by simp [rAt, mAt, h]
  rw [List.drop_eq_getElem_cons h, e]
theorem allB_at {zs : List Cl} (h : allB zs = true) (k : Nat) (hk : k < zs.length) : inB (rAt zs k) (mAt zs k) = true := by
  have := List.all_eq_true.1 h zs[k] (List.getElem_mem hk)
  simpa [rAt, mAt, hk] using this
theorem allB_of {zs : List Cl} (h : ∀ k, k < zs.length → inB (rAt zs k) (mAt zs k) = true) : allB zs = true := by
  refine List.all_eq_true.2 fun c hc => ?_
  obtain ⟨k, hk, rfl⟩ := List.getElem_of_mem hc
  simpa [rAt, mAt, hk] using h k hk
theorem allB_no {zs : List Cl} {k : Nat} (hk : k < zs.length) (h : inB (rAt zs k) (mAt zs k) = false) : allB zs = false := by
  cases ha : allB zs
  · rfl
  · rw [allB_at ha k hk] at h; cases h
theorem perO_all {p q : Int} {zs : List Cl} (h : perO p zs = some q) : allB zs = true := by
  induction zs generalizing p with
  | nil => rfl
  | cons c t ih =>
    unfold perO at h
    split at h
    · rename_i h1
      have := ih h
      simp only [allB, List.all_cons, Bool.and_eq_true] at this ⊢
      exact ⟨h1.1, this⟩
    · cases h
theorem perO_bd {p q : Int} {zs : List Cl} (h : perO p zs = some q) (h1 : 1 ≤ p) (h2 : p ≤ 1000) : 1 ≤ q ∧ q ≤ 1000 := by
  induction zs generalizing p with
  | nil => cases h; exact ⟨h1, h2⟩
  | cons c t ih =>
    unfold perO at h
    split at h
    · rename_i h3
      obtain ⟨m1, m2, _, _⟩ := inB_iff.1 h3.1
      exact ih h (lcmI_pos h1 m1).1 h3.2
    · cases h
theorem sysB_0 {zs : List Cl} (h : ¬ (1 ≤ zs.length ∧ zs.length ≤ 8)) : sysB zs = false := by simp [sysB]; omega
theorem sysB_1 {zs : List Cl} (h : perO 1 zs = none) : sysB zs = false := by simp [sysB, h]
theorem sysB_2 {zs : List Cl} (h : allB zs = false) : sysB zs = false := by
  cases ho : perO 1 zs with
  | none => exact sysB_1 ho
  | some q => rw [perO_all ho] at h; cases h
theorem sysB_t {zs : List Cl} {q : Int} (h : 1 ≤ zs.length ∧ zs.length ≤ 8) (k : perO 1 zs = some q) : sysB zs = true := by simp [sysB, h, k]
theorem sysB_iff {zs : List Cl} : sysB zs = true ↔ (1 ≤ zs.length ∧ zs.length ≤ 8) ∧ ∃ q, perO 1 zs = some q := by
  simp [sysB, Option.isSome_iff_exists]
theorem sysB_facts {zs : List Cl} (h : sysB zs = true) : 1 ≤ zs.length ∧ zs.length ≤ 8 ∧ allB zs = true ∧ perO 1 zs = some (perI zs) ∧ 1 ≤ perI zs ∧ perI zs ≤ 1000 := by
  obtain ⟨⟨h1, h2⟩, q, hq⟩ := sysB_iff.1 h
  have hb := perO_bd hq (by omega) (by omega)
  have e : perI zs = q := by simp [perI, hq]
  rw [e]
  exact ⟨h1, h2, perO_all hq, hq, hb.1, hb.2⟩
theorem per_yes {p P : Int} {zs : List Cl} {k : Nat} {o : Option Int} (hk : k < zs.length) (h : perO p (zs.drop k) = o) (hi : inB (rAt zs k) (mAt zs k) = true) (hl : lcmI p (mAt zs k) = P) (hP : P ≤ 1000) : perO P (zs.drop (k + 1)) = o := by
  rw [drop_cl zs k hk] at h
  unfold perO at h
  rw [if_pos ⟨hi, by rw [hl]; exact hP⟩] at h
  rw [← hl]; exact h
theorem per_no {p : Int} {zs : List Cl} {k : Nat} {o : Option Int} (hk : k < zs.length) (h : perO p (zs.drop k) = o) (hn : ¬ (inB (rAt zs k) (mAt zs k) = true ∧ lcmI p (mAt zs k) ≤ 1000)) : o = none := by
  rw [drop_cl zs k hk] at h
  unfold perO at h
  rw [if_neg hn] at h
  exact h.symm
theorem per_end {p : Int} {zs : List Cl} {k : Nat} {o : Option Int} (hk : zs.length ≤ k) (h : perO p (zs.drop k) = o) : o = some p := by
  rw [List.drop_eq_nil_of_le hk] at h
  exact h.symm
end Go.Proofs.YtonecelkkeakiaaGreatDoor
