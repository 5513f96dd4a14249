/- Contracts of what the laws of chapter 6 draw: lines, pairs, powers. -/
import Derived.Test.YtonecelkkeakiaaGreatDoorD5
namespace Go.Proofs.YtonecelkkeakiaaGreatDoor
open Go.RowKit
/-- a line is drawn -/
def DrLine (b0 B : Nat) (s : Option Addr) (len p : Nat) (w : World) (e : Ending) (w' : World) : Prop :=
  ∃ a b m : Int, -5 ≤ a ∧ a ≤ 2000024 ∧ -5 ≤ b ∧ b ≤ 24 ∧ 0 ≤ m ∧ m ≤ 20 ∧ e = .returned (.tuple #[.int .i64 a, .int .i64 b, .int .i64 m]) ∧ Rd b0 w' B s len (p + 5) ∧ Oth B w w'
theorem quo_lt {x n : Int} (h0 : 0 ≤ x) (h1 : x < 2 * n) (hn : 1 ≤ n) : x.tdiv n = x / n ∧ 0 ≤ x / n ∧ x / n ≤ 1 := by
  refine ⟨Int.tdiv_eq_ediv_of_nonneg h0, Int.ediv_nonneg h0 (by omega), ?_⟩
  have := Int.ediv_lt_of_lt_mul (show 0 < n by omega) h1
  omega
def DrawnLn (w : World) (e : Ending) (w' : World) : Prop :=
  ∃ a b m : Int, -5 ≤ a ∧ a ≤ 2000024 ∧ -5 ≤ b ∧ b ≤ 24 ∧ 0 ≤ m ∧ m ≤ 20 ∧ e = .returned (.tuple #[.int .i64 a, .int .i64 b, .int .i64 m]) ∧ Below w.heap.size w w'
def DrawnP (w : World) (e : Ending) (w' : World) : Prop :=
  ∃ a m : Int, -5 ≤ a ∧ a ≤ 2000024 ∧ 0 ≤ m ∧ m ≤ 20 ∧ e = .returned (.tuple #[.int .i64 a, .int .i64 m]) ∧ Below w.heap.size w w'
def DrawnK (w : World) (e : Ending) (w' : World) : Prop :=
  ∃ a k m : Int, -5 ≤ a ∧ a ≤ 2000024 ∧ -1 ≤ k ∧ k ≤ 1000049 ∧ 0 ≤ m ∧ m ≤ 20 ∧ e = .returned (.tuple #[.int .i64 a, .int .i64 k, .int .i64 m]) ∧ Below w.heap.size w w'
end Go.Proofs.YtonecelkkeakiaaGreatDoor
