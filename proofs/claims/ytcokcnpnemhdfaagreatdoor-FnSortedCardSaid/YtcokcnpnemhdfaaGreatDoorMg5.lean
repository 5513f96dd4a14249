/- Contract of the numbers of a class as an iterator: it hands out first, first + m, .. below the end, to every loop body that keeps its three boxes. -/
import Derived.RangeFuncNested
import Derived.RangeFuncBound
import Derived.RangeFuncCalls
import Derived.RangeFuncLeaves
import Derived.Shelf.Abstract
import Derived.Shelf.RegionOpen
import Derived.WalkKit
import Derived.OwnWalkIn
import Derived.TacticsInMore
import Derived.LoopNIn
import Derived.LoopIn
import Derived.Test.YtcokcnpnemhdfaaGreatDoorMg6
import Derived.Outline
import Derived.Test.YtcokcnpnemhdfaaGreatDoorM1
namespace Go.Proofs.YtcokcnpnemhdfaaGreatDoor
open Go.RowKit Go.Shelf
attribute [local go_sem] Oper.semAt_some
/-- f 0, f 1, .. f (k - 1) -/
def seqTo (f : Nat → Int) (k : Nat) : List Int := (List.range k).map f
theorem seqTo_succ (f : Nat → Int) (k : Nat) : seqTo f (k + 1) = seqTo f k ++ [f k] := by simp [seqTo, List.range_succ]
theorem seqTo_length (f : Nat → Int) (k : Nat) : (seqTo f k).length = k := by simp [seqTo]
/-- the k-th number -/
def numK (r m a : Int) (k : Nat) : Int := firI r m a + (k : Int) * m
theorem numK_succ (r m a : Int) (k : Nat) : numK r m a (k + 1) = numK r m a k + m := by
  unfold numK; rw [Int.natCast_add, Int.add_mul]; omega
theorem numK_ge {r m a : Int} (hm : 1 ≤ m) (k : Nat) : firI r m a + k ≤ numK r m a k := by
  unfold numK
  have := Int.mul_le_mul_of_nonneg_left hm (Int.natCast_nonneg k); omega
/-- all numbers below b have come -/
def NumAll (r m a b : Int) (ys : List Int) : Prop := ∃ k, ys = seqTo (numK r m a) k ∧ b ≤ numK r m a k ∧ ∀ j, j < k → numK r m a j < b
def NumPart (r m a b : Int) (ys : List Int) : Prop := ∃ k, ys = seqTo (numK r m a) (k + 1) ∧ ∀ j, j < k + 1 → numK r m a j < b
end Go.Proofs.YtcokcnpnemhdfaaGreatDoor
namespace Go.Proofs.YtcokcnpnemhdfaaGreatDoor
open Go.RowKit
theorem numK0 {r m : Int} (h0 : 0 ≤ r) (h1 : r < m) (k : Nat) : numK r m 0 k = r + (k : Int) * m := by
  unfold numK firI
  rw [Int.sub_zero, Int.emod_eq_of_lt h0 h1]; omega
theorem findX_steps {m s n M r : Int} (k : Nat) : ∀ K, (∀ j : Nat, j < k → r + (j : Int) * m < M ∧ ¬ (r + (j : Int) * m) % n = s) → findX m s n M (K + k) r = findX m s n M K (r + (k : Int) * m) := by
  induction k with
  | zero => intro K _; simp
  | succ k ih =>
    intro K h
    have e : K + (k + 1) = (K + 1) + k := by omega
    obtain ⟨h1, h2⟩ := h k (by omega)
    rw [e, ih (K + 1) (fun j hj => h j (by omega)), findX_no h1 h2]
    congr 1
    rw [Int.natCast_add, Int.add_mul]; omega
theorem steps_le {m M r : Int} (hm : 1 ≤ m) (h0 : 0 ≤ r) (hM : M ≤ 1000) (k : Nat) (h : ∀ j : Nat, j < k → r + (j : Int) * m < M) : k ≤ 1000 := by
  rcases Nat.eq_zero_or_pos k with hk | hk
  · omega
  · have := h (k - 1) (by omega)
    have := Int.mul_le_mul_of_nonneg_left hm (Int.natCast_nonneg (k - 1)); omega
theorem met_all {r m s n M : Int} {ys : List Int} (hm : 1 ≤ m) (h0 : 0 ≤ r) (h1 : r < m) (hM : lcmI m n = M) (hl : M ≤ 1000) (hy : NumAll r m 0 M ys) (hn : ∀ y ∈ ys, ¬ y % n = s) : metB m s n r = false := by
  obtain ⟨k, rfl, hk, hj⟩ := hy
  simp only [numK0 h0 h1] at hk hj
  have hk2 := steps_le hm h0 hl k hj
  have e := findX_steps (m := m) (s := s) (n := n) (M := M) (r := r) k (1001 - k) (fun j hjk => ⟨hj j hjk, fun he => hn (numK r m 0 j) (by simp [seqTo]; exact ⟨j, hjk, rfl⟩) (by rw [numK0 h0 h1]; exact he)⟩)
  rw [show 1001 - k + k = 1001 by omega, findX_end _ hk] at e
  exact met_none (k := 1001) (X := r) (M := M) (by unfold metO; rw [hM]) e
theorem met_part {r m s n M x : Int} {ys p : List Int} (hm : 1 ≤ m) (h0 : 0 ≤ r) (h1 : r < m) (hM : lcmI m n = M) (hl : M ≤ 1000) (hy : NumPart r m 0 M ys) (hp : ys = p ++ [x]) (hx : x % n = s) (hn : ∀ y ∈ p, ¬ y % n = s) : metB m s n r = true ∧ metX m s n r = x := by
  obtain ⟨k, rfl, hj⟩ := hy
  rw [seqTo_succ] at hp
  obtain ⟨rfl, h2⟩ := List.append_inj' hp rfl
  obtain rfl : numK r m 0 k = x := by simpa using h2
  simp only [numK0 h0 h1] at hj hx ⊢
  have hk2 := steps_le hm h0 hl (k + 1) hj
  have e := findX_steps (m := m) (s := s) (n := n) (M := M) (r := r) k (1001 - k) (fun j hjk => ⟨hj j (by omega), fun he => hn (numK r m 0 j) (by simp [seqTo]; exact ⟨j, hjk, rfl⟩) (by rw [numK0 h0 h1]; exact he)⟩)
  rw [show 1001 - k + k = 1001 by omega, findX_yes (by omega) (hj k (by omega)) hx] at e
  have e2 : metO m s n r = some (r + (k : Int) * m) := by unfold metO; rw [hM]; exact e
  simp [metB, metX, e2, hM, hl]
end Go.Proofs.YtcokcnpnemhdfaaGreatDoor
namespace Go.Proofs.YtcokcnpnemhdfaaGreatDoor
open Go.RowKit Go.Shelf
attribute [local go_sem] Oper.semAt_some
def LcmPost (a b : Int) (w : World) (e : Ending) (w' : World) : Prop := ∃ n, e = .returned (.int .i64 (lcmI a b)) ∧ w' = w.drewN n
theorem c_commonMultiple (a b : Int) (ha : 1 ≤ a) (ha2 : a ≤ 1000) (hb : 1 ≤ b) (hb2 : b ≤ 1000) (w : World) : Calls Tryz.prog 33 #[.int .i64 a, .int .i64 b] w (LcmPost a b w) := by
  obtain ⟨l1, l2, l3, l4⟩ := lcmI_bd ha ha2 hb hb2
  obtain ⟨g1, g2⟩ := gcdI_bd ha (show 0 ≤ b by omega)
  go_enter Tryz.func33, Tryz.ntmps33
  go_wp2_with fail
  refine (c_commonDivisor a b (by omega) ha2 (by omega) hb2 w).mono ?_
  rintro e w1 ⟨n, rfl, rfl⟩
  go_wp2
  go_ret
  exact ⟨n, rfl, rfl⟩
theorem keep_drew {w : World} {a : Addr} {v : Value} (h : w.cell? a = some v) : w.drew.cell? a = some v := h
theorem keep_alloc {w : World} {a : Addr} {v : Value} {o : Obj} (h : w.cell? a = some v) : (w.alloc o).cell? a = some v := cell_kept h (World.grownBy_alloc w o none) (fun r e => by cases e)
theorem set_hit {w : World} {a : Addr} {u v : Value} (h : w.cell? a = some u) : (w.setCell a v).cell? a = some v := World.cell?_setCell_same' _ _ _ (by rw [h]; rfl)
theorem set_miss {w : World} {a b : Addr} {u v : Value} (hn : b ≠ a) (h : w.cell? a = some v) : (w.setCell b u).cell? a = some v := (cell_other hn).trans h
theorem c_hasK (r m x : Int) (hm : 1 ≤ m) (hm2 : m ≤ 1000) (w : World) : Calls Tryz.prog 50 #[.agg #[.int .i64 r, .int .i64 m], .int .i64 x] w fun e w' => e = .returned (.bool (x % m == r)) ∧ Below w.heap.size w w' ∧ KeepsOthers w w' :=
  (c_has r m x hm hm2 w).mono fun _ _ ⟨h1, h2⟩ => ⟨h1, h2 ▸ (ba (ba (Below.refl _ _) _) _).drew, h2 ▸ ((KeepsOthers.alloc _ _).trans (KeepsOthers.alloc _ _)).trans (KeepsOthers.drew _)⟩
theorem lcm_pos {a b : Int} (ha : 1 ≤ a) (hb : 1 ≤ b) : 1 ≤ lcmI a b := by
  obtain ⟨g1, g2⟩ := gcdI_bd ha (show 0 ≤ b by omega)
  have h1 : 1 ≤ a / gcdI a b := by
    rw [Int.le_ediv_iff_mul_le (by omega)]; omega
  have := Int.mul_le_mul h1 hb (by omega) (by omega)
  unfold lcmI; omega
end Go.Proofs.YtcokcnpnemhdfaaGreatDoor
namespace Go.Proofs.YtcokcnpnemhdfaaGreatDoor
open Go.RowKit
end Go.Proofs.YtcokcnpnemhdfaaGreatDoor
