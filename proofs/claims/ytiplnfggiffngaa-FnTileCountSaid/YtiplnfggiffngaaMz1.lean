/- Contract of ClassMeet in the program: it searches by an iterator, and comes to what the model comes to. -/
import Derived.Test.YtiplnfggiffngaaR2a
import Derived.Outline
import Derived.Test.YtiplnfggiffngaaC1
import Derived.Test.YtiplnfggiffngaaMathP
import Derived.LoopTactic
import Derived.Test.YtiplnfggiffngaaD3
import Derived.Deep.RegionWith
namespace Go.Proofs.Ytiplnfggiffngaa
open Go.RowKit Go.Shelf
attribute [local go_sem] Oper.semAt_some
def LcmPost (a b : Int) (w : World) (e : Ending) (w' : World) : Prop := ∃ n, e = .returned (.int .i64 (lcmI a b)) ∧ w' = w.drewN n
theorem keep_drew {w : World} {a : Addr} {v : Value} (h : w.cell? a = some v) : w.drew.cell? a = some v := h
theorem keep_alloc {w : World} {a : Addr} {v : Value} {o : Obj} (h : w.cell? a = some v) : (w.alloc o).cell? a = some v := cell_kept h (World.grownBy_alloc w o none) (fun r e => by cases e)
theorem set_hit {w : World} {a : Addr} {u v : Value} (h : w.cell? a = some u) : (w.setCell a v).cell? a = some v := World.cell?_setCell_same' _ _ _ (by rw [h]; rfl)
theorem set_miss {w : World} {a b : Addr} {u v : Value} (hn : b ≠ a) (h : w.cell? a = some v) : (w.setCell b u).cell? a = some v := (cell_other hn).trans h
theorem lcm_pos {a b : Int} (ha : 1 ≤ a) (hb : 1 ≤ b) : 1 ≤ lcmI a b := by
  obtain ⟨g1, g2⟩ := gcdI_bd ha (show 0 ≤ b by omega)
  have h1 : 1 ≤ a / gcdI a b := by
    rw [Int.le_ediv_iff_mul_le (by omega)]; omega
  have := Int.mul_le_mul h1 hb (by omega) (by omega)
  unfold lcmI; omega
end Go.Proofs.Ytiplnfggiffngaa
namespace Go.Proofs.Ytiplnfggiffngaa
open Go.RowKit
theorem sys_some {zs : List Cl} (hl : 1 ≤ zs.length ∧ zs.length ≤ 8) (h : ∃ q, perO 1 zs = some q) : sysB zs = true := by obtain ⟨q, h⟩ := h; exact sysB_t hl h
end Go.Proofs.Ytiplnfggiffngaa
namespace Go.Proofs.Ytiplnfggiffngaa
open Go.RowKit
def DrawnCI (lo hi : Int) (w : World) (e : Ending) (w' : World) : Prop :=
  ∃ r m x : Int, 1 ≤ m ∧ m ≤ 24 ∧ 0 ≤ r ∧ r ≤ m ∧ lo ≤ x ∧ x ≤ hi ∧ e = .returned (.tuple #[.agg #[.int .i64 r, .int .i64 m], .int .i64 x]) ∧ Below w.heap.size w w'
/-! what the laws draw -/
def DrawnII (w : World) (e : Ending) (w' : World) : Prop :=
  ∃ x m : Int, -100 ≤ x ∧ x ≤ 2000099 ∧ 0 ≤ m ∧ m ≤ 30 ∧ e = .returned (.tuple #[.int .i64 x, .int .i64 m]) ∧ Below w.heap.size w w'
end Go.Proofs.Ytiplnfggiffngaa
