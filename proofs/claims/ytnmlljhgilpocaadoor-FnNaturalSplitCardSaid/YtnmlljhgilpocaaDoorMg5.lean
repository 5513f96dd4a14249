/- Contract of the numbers of a class as an iterator: it hands out first, first + m, .. below the end, to every loop body that keeps its three boxes. -/
import Derived.RangeFuncNested
import Derived.RangeFuncBound
import Derived.RangeFuncCalls
import Derived.RangeFuncLeaves
import Derived.Shelf.Abstract
import Derived.Shelf.RegionOpen
import Derived.WalkKit
import Derived.OwnWalkIn
import Derived.TacticsInMore
import Derived.LoopNIn
import Derived.LoopIn
import Derived.Test.YtnmlljhgilpocaaDoorMg6
import Derived.Outline
import Derived.Test.YtnmlljhgilpocaaDoorMz6
namespace Go.Proofs.YtnmlljhgilpocaaDoor
open Go.RowKit Go.Shelf
attribute [local go_sem] Oper.semAt_some
/-- f 0, f 1, .. f (k - 1) -/
def seqTo (f : Nat → Int) (k : Nat) : List Int := (List.range k).map f
theorem seqTo_succ (f : Nat → Int) (k : Nat) : seqTo f (k + 1) = seqTo f k ++ [f k] := by simp [seqTo, List.range_succ]
theorem seqTo_length (f : Nat → Int) (k : Nat) : (seqTo f k).length = k := by simp [seqTo]
/-- the k-th number -/
def numK (r m a : Int) (k : Nat) : Int := firI r m a + (k : Int) * m
theorem numK_succ (r m a : Int) (k : Nat) : numK r m a (k + 1) = numK r m a k + m := by
  unfold numK; rw [Int.natCast_add, Int.add_mul]; omega
theorem numK_ge {r m a : Int} (hm : 1 ≤ m) (k : Nat) : firI r m a + k ≤ numK r m a k := by
  unfold numK
  have := Int.mul_le_mul_of_nonneg_left hm (Int.natCast_nonneg k); omega
/-- all numbers below b have come -/
def NumAll (r m a b : Int) (ys : List Int) : Prop := ∃ k, ys = seqTo (numK r m a) k ∧ b ≤ numK r m a k ∧ ∀ j, j < k → numK r m a j < b
def NumPart (r m a b : Int) (ys : List Int) : Prop := ∃ k, ys = seqTo (numK r m a) (k + 1) ∧ ∀ j, j < k + 1 → numK r m a j < b
set_option maxHeartbeats 1000000 in
theorem num1_in (n : Nat) (hn : 1 ≤ n) (l C A E : Nat) (r m a b : Int) (m1 : 1 ≤ m) (m2 : m ≤ 1000) (r1 : 0 ≤ r) (r2 : r < m) (a1 : 0 ≤ a) (a2 : a ≤ 1000000) (b2 : b ≤ 1000000) (Kp : World → World → Prop)
    (hKp : ∀ W W', Kp W W' → ∀ p : Addr, (p.block = C ∨ p.block = A ∨ p.block = E) → W'.cell? p = W.cell? p) (J Jx : List Int → World → Prop)
    (hY : ∀ pre x W, J pre W → pre.length < 1000001 → YieldAt Fence.wide (n - 1) Tryd.prog l #[.int .i64 x] W fun e W' =>
      (e = .returned (.bool true) ∧ J (pre ++ [x]) W' ∧ Kp W W') ∨ (e = .returned (.bool false) ∧ Jx (pre ++ [x]) W'))
    (W : World) (hJ : AbidesFrom W.heap.size J) (hc0 : W.cell? ⟨C, 0, none⟩ = some (.int .i64 r)) (hc1 : W.cell? ⟨C, 1, none⟩ = some (.int .i64 m)) (ha : W.cell? ⟨A, 0, none⟩ = some (.int .i64 a)) (he : W.cell? ⟨E, 0, none⟩ = some (.int .i64 b)) (h0 : J [] W) :
    CallsIn Fence.wide n Tryd.prog 48 #[.func (.yield l) #[] #[], .pointer (some ⟨C, 0, none⟩), .pointer (some ⟨A, 0, none⟩), .pointer (some ⟨E, 0, none⟩)] W fun e W' => (∃ v, e = .returned v) ∧
      ((∃ ys, NumAll r m a b ys ∧ J ys W') ∨ (∃ pre, NumPart r m a b pre ∧ Jx pre W')) := by
  have hf := @firI_bd r m a m1
  refine callsIn_of_wp Tryd.func48 rfl trivial ?_ rfl
  simp only [Tryd.ntmps48, List.size_toArray, List.length_cons, List.length_nil, Nat.reduceAdd, Nat.reduceSub, Array.replicate_succ, Array.replicate_zero, List.push_toArray, List.append_toArray, List.nil_append, List.cons_append]
  gi_wp2_with (refine ⟨trivial, ?_⟩; gi_at_call 49; refine (callsIn_wide.2 (c_first r m a m1 m2 r1 r2 (by omega) a2 _)).mono ?_; rintro e w' ⟨rfl, rfl⟩)
  have hJ0 : J [] (W.alloc (Obj.cells #[Value.int IntKind.i64 r, Value.int IntKind.i64 m] 41)) := hJ _ _ _ none h0 (World.grownBy_alloc W _ none) (fun r e => by cases e)
  gi_loopw [5] (fun i wr => ∃ k : Nat, i = .int .i64 (numK r m a k) ∧ (∀ j, j < k → numK r m a j < b) ∧ J (seqTo (numK r m a) k) wr ∧ wr.cell? ⟨C, 1, none⟩ = some (.int .i64 m) ∧ wr.cell? ⟨E, 0, none⟩ = some (.int .i64 b))
    (fun i _ => (b - intOf i).toNat)
  case atStart => exact ⟨0, by simp [numK], by simp, hJ0, cell_kept hc1 (World.grownBy_alloc W _ none) (fun r e => by cases e), cell_kept he (World.grownBy_alloc W _ none) (fun r e => by cases e)⟩
  case round =>
    obtain ⟨k, rfl, hlt, hJs, hm', he'⟩ := hrel
    have hge := @numK_ge r m a m1 k
    by_cases hx : numK r m a k < b
    · obtain ⟨fn, tmps, assign, body, hy, hR⟩ := hY _ (numK r m a k) wr hJs (by rw [seqTo_length]; omega)
      have hs := Lib.hid (numK_succ r m a k)
      have hq := Lib.hid (seqTo_succ (numK r m a) k)
      have hall : ∀ j, j < k + 1 → numK r m a j < b := fun j hj => by
        rcases Nat.lt_succ_iff_lt_or_eq.1 hj with h | h
        · exact hlt j h
        · rw [h]; exact hx
      have hall' := Lib.hid hall
      clear hall hlt
      gi_wp2
      refine hR.mono ?_
      rintro e W3 (⟨rfl, hJ3, hk3⟩ | ⟨rfl, hJx3⟩)
      · have e1 := (hKp _ _ hk3 ⟨C, 1, none⟩ (.inl rfl)).trans hm'
        have e2 := (hKp _ _ hk3 ⟨E, 0, none⟩ (.inr (.inr rfl))).trans he'
        gi_wp2
        go_roundw
        case rel => exact ⟨k + 1, by rw [hs.out], hall'.out, by rw [hq.out]; exact hJ3, e1, e2⟩
        case measure => simp [intOf]; omega
      · gi_wp2
        refine bodyPost_ret (results_none rfl _ _ _) rfl ?_
        exact ⟨⟨_, rfl⟩, .inr ⟨_, ⟨k, hq.out.symm, hall'.out⟩, hJx3⟩⟩
    · have hl' := Lib.hid hlt
      clear hlt
      gi_wp2
      go_end0
      exact ⟨⟨_, rfl⟩, .inl ⟨_, ⟨k, rfl, by omega, hl'.out⟩, hJs⟩⟩
end Go.Proofs.YtnmlljhgilpocaaDoor
namespace Go.Proofs.YtnmlljhgilpocaaDoor
open Go.RowKit
theorem numK0 {r m : Int} (h0 : 0 ≤ r) (h1 : r < m) (k : Nat) : numK r m 0 k = r + (k : Int) * m := by
  unfold numK firI
  rw [Int.sub_zero, Int.emod_eq_of_lt h0 h1]; omega
theorem findX_steps {m s n M r : Int} (k : Nat) : ∀ K, (∀ j : Nat, j < k → r + (j : Int) * m < M ∧ ¬ (r + (j : Int) * m) % n = s) → findX m s n M (K + k) r = findX m s n M K (r + (k : Int) * m) := by
  induction k with
  | zero => intro K _; simp
  | succ k ih =>
    intro K h
    have e : K + (k + 1) = (K + 1) + k := by omega
    obtain ⟨h1, h2⟩ := h k (by omega)
    rw [e, ih (K + 1) (fun j hj => h j (by omega)), findX_no h1 h2]
    congr 1
    rw [Int.natCast_add, Int.add_mul]; omega
theorem steps_le {m M r : Int} (hm : 1 ≤ m) (h0 : 0 ≤ r) (hM : M ≤ 1000) (k : Nat) (h : ∀ j : Nat, j < k → r + (j : Int) * m < M) : k ≤ 1000 := by
  rcases Nat.eq_zero_or_pos k with hk | hk
  · omega
  · have := h (k - 1) (by omega)
    have := Int.mul_le_mul_of_nonneg_left hm (Int.natCast_nonneg (k - 1)); omega
theorem met_all {r m s n M : Int} {ys : List Int} (hm : 1 ≤ m) (h0 : 0 ≤ r) (h1 : r < m) (hM : lcmI m n = M) (hl : M ≤ 1000) (hy : NumAll r m 0 M ys) (hn : ∀ y ∈ ys, ¬ y % n = s) : metB m s n r = false := by
  obtain ⟨k, rfl, hk, hj⟩ := hy
  simp only [numK0 h0 h1] at hk hj
  have hk2 := steps_le hm h0 hl k hj
  have e := findX_steps (m := m) (s := s) (n := n) (M := M) (r := r) k (1001 - k) (fun j hjk => ⟨hj j hjk, fun he => hn (numK r m 0 j) (by simp [seqTo]; exact ⟨j, hjk, rfl⟩) (by rw [numK0 h0 h1]; exact he)⟩)
  rw [show 1001 - k + k = 1001 by omega, findX_end _ hk] at e
  exact met_none (k := 1001) (X := r) (M := M) (by unfold metO; rw [hM]) e
theorem met_part {r m s n M x : Int} {ys p : List Int} (hm : 1 ≤ m) (h0 : 0 ≤ r) (h1 : r < m) (hM : lcmI m n = M) (hl : M ≤ 1000) (hy : NumPart r m 0 M ys) (hp : ys = p ++ [x]) (hx : x % n = s) (hn : ∀ y ∈ p, ¬ y % n = s) : metB m s n r = true ∧ metX m s n r = x := by
  obtain ⟨k, rfl, hj⟩ := hy
  rw [seqTo_succ] at hp
  obtain ⟨rfl, h2⟩ := List.append_inj' hp rfl
  obtain rfl : numK r m 0 k = x := by simpa using h2
  simp only [numK0 h0 h1] at hj hx ⊢
  have hk2 := steps_le hm h0 hl (k + 1) hj
  have e := findX_steps (m := m) (s := s) (n := n) (M := M) (r := r) k (1001 - k) (fun j hjk => ⟨hj j (by omega), fun he => hn (numK r m 0 j) (by simp [seqTo]; exact ⟨j, hjk, rfl⟩) (by rw [numK0 h0 h1]; exact he)⟩)
  rw [show 1001 - k + k = 1001 by omega, findX_yes (by omega) (hj k (by omega)) hx] at e
  have e2 : metO m s n r = some (r + (k : Int) * m) := by unfold metO; rw [hM]; exact e
  simp [metB, metX, e2, hM, hl]
end Go.Proofs.YtnmlljhgilpocaaDoor
namespace Go.Proofs.YtnmlljhgilpocaaDoor
open Go.RowKit Go.Shelf
attribute [local go_sem] Oper.semAt_some
def LcmPost (a b : Int) (w : World) (e : Ending) (w' : World) : Prop := ∃ n, e = .returned (.int .i64 (lcmI a b)) ∧ w' = w.drewN n
theorem c_commonMultiple (a b : Int) (ha : 1 ≤ a) (ha2 : a ≤ 1000) (hb : 1 ≤ b) (hb2 : b ≤ 1000) (w : World) : Calls Tryd.prog 47 #[.int .i64 a, .int .i64 b] w (LcmPost a b w) := by
  obtain ⟨l1, l2, l3, l4⟩ := lcmI_bd ha ha2 hb hb2
  obtain ⟨g1, g2⟩ := gcdI_bd ha (show 0 ≤ b by omega)
  go_enter Tryd.func47, Tryd.ntmps47
  go_wp2_with fail
  refine (c_commonDivisor a b (by omega) ha2 (by omega) hb2 w).mono ?_
  rintro e w1 ⟨n, rfl, rfl⟩
  go_wp2
  go_ret
  exact ⟨n, rfl, rfl⟩
theorem c_numbers (r m a b : Int) (w : World) : Calls Tryd.prog 39 #[.agg #[.int .i64 r, .int .i64 m], .int .i64 a, .int .i64 b] w fun e w' =>
    e = .returned (.func (.func 48) #[] #[.pointer (some ⟨w.heap.size, 0, none⟩), .pointer (some ⟨w.heap.size + 1, 0, none⟩), .pointer (some ⟨w.heap.size + 1 + 1, 0, none⟩)]) ∧
    ((w.alloc (Obj.cells #[Value.int IntKind.i64 r, Value.int IntKind.i64 m] 41)).alloc (.cells #[.int .i64 a] 3)).alloc (.cells #[.int .i64 b] 3) = w' := by
  go_enter Tryd.func39, Tryd.ntmps39
  go_wp2
  go_ret
  exact ⟨rfl, rfl⟩
theorem num_stops (n : Nat) (hn : 1 ≤ n) (C A E : Nat) (r m a b : Int) (m1 : 1 ≤ m) (m2 : m ≤ 1000) (r1 : 0 ≤ r) (r2 : r < m) (a1 : 0 ≤ a) (a2 : a ≤ 1000000) (b2 : b ≤ 1000000) (Kp : World → World → Prop)
    (hKp : ∀ W W', Kp W W' → ∀ p : Addr, (p.block = C ∨ p.block = A ∨ p.block = E) → W'.cell? p = W.cell? p) (w : World) (hC : C < w.heap.size) (hA : A < w.heap.size) (hE : E < w.heap.size)
    (hc0 : w.cell? ⟨C, 0, none⟩ = some (.int .i64 r)) (hc1 : w.cell? ⟨C, 1, none⟩ = some (.int .i64 m)) (ha : w.cell? ⟨A, 0, none⟩ = some (.int .i64 a)) (he : w.cell? ⟨E, 0, none⟩ = some (.int .i64 b)) :
    SeqStopsK Fence.wide n Tryd.prog 48 #[.pointer (some ⟨C, 0, none⟩), .pointer (some ⟨A, 0, none⟩), .pointer (some ⟨E, 0, none⟩)] (fun x : Int => #[Value.int .i64 x]) Kp (NumAll r m a b) (NumPart r m a b) 1000001 w := fun l J Jx W hW hJ _ hY h0 =>
  num1_in n hn l C A E r m a b m1 m2 r1 r2 a1 a2 b2 Kp hKp J Jx hY W hJ ((hW.cell (p := ⟨C, 0, none⟩) hC).trans hc0) ((hW.cell (p := ⟨C, 1, none⟩) hC).trans hc1) ((hW.cell (p := ⟨A, 0, none⟩) hA).trans ha) ((hW.cell (p := ⟨E, 0, none⟩) hE).trans he) h0
theorem keep_drew {w : World} {a : Addr} {v : Value} (h : w.cell? a = some v) : w.drew.cell? a = some v := h
theorem keep_alloc {w : World} {a : Addr} {v : Value} {o : Obj} (h : w.cell? a = some v) : (w.alloc o).cell? a = some v := cell_kept h (World.grownBy_alloc w o none) (fun r e => by cases e)
theorem set_hit {w : World} {a : Addr} {u v : Value} (h : w.cell? a = some u) : (w.setCell a v).cell? a = some v := World.cell?_setCell_same' _ _ _ (by rw [h]; rfl)
theorem set_miss {w : World} {a b : Addr} {u v : Value} (hn : b ≠ a) (h : w.cell? a = some v) : (w.setCell b u).cell? a = some v := (cell_other hn).trans h
theorem c_hasK (r m x : Int) (hm : 1 ≤ m) (hm2 : m ≤ 1000) (w : World) : Calls Tryd.prog 50 #[.agg #[.int .i64 r, .int .i64 m], .int .i64 x] w fun e w' => e = .returned (.bool (x % m == r)) ∧ Below w.heap.size w w' ∧ KeepsOthers w w' :=
  (c_has r m x hm hm2 w).mono fun _ _ ⟨h1, h2⟩ => ⟨h1, h2 ▸ (ba (ba (Below.refl _ _) _) _).drew, h2 ▸ ((KeepsOthers.alloc _ _).trans (KeepsOthers.alloc _ _)).trans (KeepsOthers.drew _)⟩
theorem lcm_pos {a b : Int} (ha : 1 ≤ a) (hb : 1 ≤ b) : 1 ≤ lcmI a b := by
  obtain ⟨g1, g2⟩ := gcdI_bd ha (show 0 ≤ b by omega)
  have h1 : 1 ≤ a / gcdI a b := by
    rw [Int.le_ediv_iff_mul_le (by omega)]; omega
  have := Int.mul_le_mul h1 hb (by omega) (by omega)
  unfold lcmI; omega
end Go.Proofs.YtnmlljhgilpocaaDoor
namespace Go.Proofs.YtnmlljhgilpocaaDoor
open Go.RowKit
end Go.Proofs.YtnmlljhgilpocaaDoor
