/- Contracts of what the laws on scaled classes and on counts draw. -/
import Derived.Test.YtonecelkkeakiaaGreatDoorD4
namespace Go.Proofs.YtonecelkkeakiaaGreatDoor
open Go.RowKit
theorem c_pickRW (n : Int) (hn : 1 ≤ n) (hn2 : n ≤ 1000000) {b0 : Nat} {w : World} {B : Nat} {s : Option Addr} {len p : Nat} (h : Rd b0 w B s len p) (hp : p < 1000000) (W : World) (hW : W = w ∨ W = w.drew) :
    Calls Tryz.prog 22 #[.pointer (some ⟨B, 0, none⟩), .int .i64 n] W (PickR n b0 B s len p w) := by
  rcases hW with rfl | rfl
  · exact c_pickR n hn hn2 h hp
  · exact (c_pickR n hn hn2 h.drew hp).mono fun _ _ ⟨x, h1, h2, h3, h4, h6⟩ => ⟨x, h1, h2, h3, h4, ((Oth.refl _ _).drew).trans h6⟩
/-- the old blocks may be fewer -/
theorem Rd.keep_le {b0 b1 : Nat} {w : World} {B : Nat} {s : Option Addr} {len p : Nat} (h : Rd b0 w B s len p) (hl : b1 ≤ b0) : b1 ≤ B := Nat.le_trans hl h.le
theorem Rd.setp {b0 : Nat} {w : World} {B : Nat} {s : Option Addr} {len p : Nat} (h : Rd b0 w B s len p) (q : Nat) (hq : q ≤ 1000000) :
    Rd b0 (w.setCell ⟨B, 1, none⟩ (.int .i64 (q : Int))) B s len q := by
  obtain ⟨cap, c0⟩ := h.c0
  refine ⟨⟨cap, ?_⟩, ?_, ?_, h.bt.keep fun b i hb => ?_, h.le, h.hl, hq⟩
  · rw [cell_other (by simp)]; exact c0
  · rw [World.cell?_setCell_same' _ _ _ (by rw [h.c1]; rfl)]
  · simpa using h.fz
  · have := h.le
    rw [cell_other (by simp <;> omega)]
def DrawnCII (w : World) (e : Ending) (w' : World) : Prop :=
  ∃ r m a b : Int, 1 ≤ m ∧ m ≤ 24 ∧ 0 ≤ r ∧ r ≤ m ∧ -100 ≤ a ∧ a ≤ 2000099 ∧ a - 5 ≤ b ∧ b ≤ a + 54 ∧ e = .returned (.tuple #[.agg #[.int .i64 r, .int .i64 m], .int .i64 a, .int .i64 b]) ∧ Below w.heap.size w w'
end Go.Proofs.YtonecelkkeakiaaGreatDoor
