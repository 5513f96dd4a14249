/- Contract of the numbers of a class as an iterator: it hands out first, first + m, .. below the end, to every loop body that keeps its three boxes. -/
import Derived.RangeFuncNested
import Derived.RangeFuncBound
import Derived.RangeFuncCalls
import Derived.RangeFuncLeaves
import Derived.Shelf.Abstract
import Derived.Shelf.RegionOpen
import Derived.WalkKit
import Derived.OwnWalkIn
import Derived.TacticsInMore
import Derived.LoopNIn
import Derived.LoopIn
import Derived.Test.YtgdpebnnmklbjaaE1
namespace Go.Proofs.Ytgdpebnnmklbjaa
open Go.RowKit Go.Shelf
attribute [local go_sem] Oper.semAt_some
/-- f 0, f 1, .. f (k - 1) -/
def seqTo (f : Nat → Int) (k : Nat) : List Int := (List.range k).map f
theorem seqTo_succ (f : Nat → Int) (k : Nat) : seqTo f (k + 1) = seqTo f k ++ [f k] := by simp [seqTo, List.range_succ]
theorem seqTo_length (f : Nat → Int) (k : Nat) : (seqTo f k).length = k := by simp [seqTo]
/-- the k-th number -/
def numK (r m a : Int) (k : Nat) : Int := firI r m a + (k : Int) * m
theorem numK_succ (r m a : Int) (k : Nat) : numK r m a (k + 1) = numK r m a k + m := by
  unfold numK; rw [Int.natCast_add, Int.add_mul]; omega
theorem numK_ge {r m a : Int} (hm : 1 ≤ m) (k : Nat) : firI r m a + k ≤ numK r m a k := by
  unfold numK
  have := Int.mul_le_mul_of_nonneg_left hm (Int.natCast_nonneg k); omega
/-- all numbers below b have come -/
def NumAll (r m a b : Int) (ys : List Int) : Prop := ∃ k, ys = seqTo (numK r m a) k ∧ b ≤ numK r m a k ∧ ∀ j, j < k → numK r m a j < b
def NumPart (r m a b : Int) (ys : List Int) : Prop := ∃ k, ys = seqTo (numK r m a) (k + 1) ∧ ∀ j, j < k + 1 → numK r m a j < b
set_option maxHeartbeats 1000000 in
theorem num1_in (n : Nat) (hn : 1 ≤ n) (l C A E : Nat) (r m a b : Int) (m1 : 1 ≤ m) (m2 : m ≤ 1000) (r1 : 0 ≤ r) (r2 : r < m) (a1 : 0 ≤ a) (a2 : a ≤ 1000000) (b2 : b ≤ 1000000) (Kp : World → World → Prop)
    (hKp : ∀ W W', Kp W W' → ∀ p : Addr, (p.block = C ∨ p.block = A ∨ p.block = E) → W'.cell? p = W.cell? p) (J Jx : List Int → World → Prop)
    (hY : ∀ pre x W, J pre W → pre.length < 1000001 → YieldAt Fence.wide (n - 1) Try.prog l #[.int .i64 x] W fun e W' =>
      (e = .returned (.bool true) ∧ J (pre ++ [x]) W' ∧ Kp W W') ∨ (e = .returned (.bool false) ∧ Jx (pre ++ [x]) W'))
    (W : World) (hJ : AbidesFrom W.heap.size J) (hc0 : W.cell? ⟨C, 0, none⟩ = some (.int .i64 r)) (hc1 : W.cell? ⟨C, 1, none⟩ = some (.int .i64 m)) (ha : W.cell? ⟨A, 0, none⟩ = some (.int .i64 a)) (he : W.cell? ⟨E, 0, none⟩ = some (.int .i64 b)) (h0 : J [] W) :
    CallsIn Fence.wide n Try.prog 79 #[.func (.yield l) #[] #[], .pointer (some ⟨C, 0, none⟩), .pointer (some ⟨A, 0, none⟩), .pointer (some ⟨E, 0, none⟩)] W fun e W' => (∃ v, e = .returned v) ∧
      ((∃ ys, NumAll r m a b ys ∧ J ys W') ∨ (∃ pre, NumPart r m a b pre ∧ Jx pre W')) := by
  have hf := @firI_bd r m a m1
  refine callsIn_of_wp Try.func79 rfl trivial ?_ rfl
  simp only [Try.ntmps79, List.size_toArray, List.length_cons, List.length_nil, Nat.reduceAdd, Nat.reduceSub, Array.replicate_succ, Array.replicate_zero, List.push_toArray, List.append_toArray, List.nil_append, List.cons_append]
  gi_wp2_with (refine ⟨trivial, ?_⟩; gi_at_call 80; refine (callsIn_wide.2 (c_first r m a m1 m2 r1 r2 (by omega) a2 _)).mono ?_; rintro e w' ⟨rfl, rfl⟩)
  have hJ0 : J [] (W.alloc (Obj.cells #[Value.int IntKind.i64 r, Value.int IntKind.i64 m] 34)) := hJ _ _ _ none h0 (World.grownBy_alloc W _ none) (fun r e => by cases e)
  gi_loopw [5] (fun i wr => ∃ k : Nat, i = .int .i64 (numK r m a k) ∧ (∀ j, j < k → numK r m a j < b) ∧ J (seqTo (numK r m a) k) wr ∧ wr.cell? ⟨C, 1, none⟩ = some (.int .i64 m) ∧ wr.cell? ⟨E, 0, none⟩ = some (.int .i64 b))
    (fun i _ => (b - intOf i).toNat)
  case atStart => exact ⟨0, by simp [numK], by simp, hJ0, cell_kept hc1 (World.grownBy_alloc W _ none) (fun r e => by cases e), cell_kept he (World.grownBy_alloc W _ none) (fun r e => by cases e)⟩
  case round =>
    obtain ⟨k, rfl, hlt, hJs, hm', he'⟩ := hrel
    have hge := @numK_ge r m a m1 k
    by_cases hx : numK r m a k < b
    · obtain ⟨fn, tmps, assign, body, hy, hR⟩ := hY _ (numK r m a k) wr hJs (by rw [seqTo_length]; omega)
      have hs := Lib.hid (numK_succ r m a k)
      have hq := Lib.hid (seqTo_succ (numK r m a) k)
      have hall : ∀ j, j < k + 1 → numK r m a j < b := fun j hj => by
        rcases Nat.lt_succ_iff_lt_or_eq.1 hj with h | h
        · exact hlt j h
        · rw [h]; exact hx
      have hall' := Lib.hid hall
      clear hall hlt
      gi_wp2
      refine hR.mono ?_
      rintro e W3 (⟨rfl, hJ3, hk3⟩ | ⟨rfl, hJx3⟩)
      · have e1 := (hKp _ _ hk3 ⟨C, 1, none⟩ (.inl rfl)).trans hm'
        have e2 := (hKp _ _ hk3 ⟨E, 0, none⟩ (.inr (.inr rfl))).trans he'
        gi_wp2
        go_roundw
        case rel => exact ⟨k + 1, by rw [hs.out], hall'.out, by rw [hq.out]; exact hJ3, e1, e2⟩
        case measure => simp [intOf]; omega
      · gi_wp2
        refine bodyPost_ret (results_none rfl _ _ _) rfl ?_
        exact ⟨⟨_, rfl⟩, .inr ⟨_, ⟨k, hq.out.symm, hall'.out⟩, hJx3⟩⟩
    · have hl' := Lib.hid hlt
      clear hlt
      gi_wp2
      go_end0
      exact ⟨⟨_, rfl⟩, .inl ⟨_, ⟨k, rfl, by omega, hl'.out⟩, hJs⟩⟩
end Go.Proofs.Ytgdpebnnmklbjaa
