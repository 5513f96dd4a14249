/- Contracts of what the laws of chapter 1 draw. -/
import Derived.Test.YtgokhchkpjnnlaaD3
import Derived.Deep.RegionWith
namespace Go.Proofs.Ytgokhchkpjnnlaa
open Go.RowKit
def DrawnCI (lo hi : Int) (w : World) (e : Ending) (w' : World) : Prop :=
  ∃ r m x : Int, 1 ≤ m ∧ m ≤ 24 ∧ 0 ≤ r ∧ r ≤ m ∧ lo ≤ x ∧ x ≤ hi ∧ e = .returned (.tuple #[.agg #[.int .i64 r, .int .i64 m], .int .i64 x]) ∧ Below w.heap.size w w'
theorem c_l91NumberW {b0 : Nat} {w : World} {B : Nat} {s : Option Addr} {len p : Nat} (h : Rd b0 w B s len p) (hp : p + 2 < 1000000) (o : Obj) (W : World) (hW : W = w.alloc o ∨ W = (w.alloc o).drew) :
    Calls Try.prog 67 #[.pointer (some ⟨B, 0, none⟩)] W (DrawnI (-100) 2000099 2 b0 B s len p (w.alloc o)) := by
  rcases hW with rfl | rfl
  · exact c_l91Number (h.alloc o) hp
  · exact (c_l91Number (h.alloc o).drew hp).mono fun _ _ ⟨x, p', h1, h2, h3, h4, h5, h6⟩ => ⟨x, p', h1, h2, h3, h4, h5, ((Oth.refl _ _).drew).trans h6⟩
/-! what the laws draw -/
def DrawnII (w : World) (e : Ending) (w' : World) : Prop :=
  ∃ x m : Int, -100 ≤ x ∧ x ≤ 2000099 ∧ 0 ≤ m ∧ m ≤ 30 ∧ e = .returned (.tuple #[.int .i64 x, .int .i64 m]) ∧ Below w.heap.size w w'
end Go.Proofs.Ytgokhchkpjnnlaa
