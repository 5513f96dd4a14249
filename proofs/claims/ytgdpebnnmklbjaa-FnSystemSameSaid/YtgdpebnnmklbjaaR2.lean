/- Contract of ClassMeet in the program: it searches by an iterator, and comes to what the model comes to. -/
import Derived.Test.YtgdpebnnmklbjaaR2a
import Derived.Outline
namespace Go.Proofs.Ytgdpebnnmklbjaa
open Go.RowKit Go.Shelf
attribute [local go_sem] Oper.semAt_some
def LcmPost (a b : Int) (w : World) (e : Ending) (w' : World) : Prop := ∃ n, e = .returned (.int .i64 (lcmI a b)) ∧ w' = w.drewN n
theorem c_commonMultiple (a b : Int) (ha : 1 ≤ a) (ha2 : a ≤ 1000) (hb : 1 ≤ b) (hb2 : b ≤ 1000) (w : World) : Calls Try.prog 55 #[.int .i64 a, .int .i64 b] w (LcmPost a b w) := by
  obtain ⟨l1, l2, l3, l4⟩ := lcmI_bd ha ha2 hb hb2
  obtain ⟨g1, g2⟩ := gcdI_bd ha (show 0 ≤ b by omega)
  go_enter Try.func55, Try.ntmps55
  go_wp2_with fail
  refine (c_commonDivisor a b (by omega) ha2 (by omega) hb2 w).mono ?_
  rintro e w1 ⟨n, rfl, rfl⟩
  go_wp2
  go_ret
  exact ⟨n, rfl, rfl⟩
theorem c_numbers (r m a b : Int) (w : World) : Calls Try.prog 57 #[.agg #[.int .i64 r, .int .i64 m], .int .i64 a, .int .i64 b] w fun e w' =>
    e = .returned (.func (.func 79) #[] #[.pointer (some ⟨w.heap.size, 0, none⟩), .pointer (some ⟨w.heap.size + 1, 0, none⟩), .pointer (some ⟨w.heap.size + 1 + 1, 0, none⟩)]) ∧
    ((w.alloc (Obj.cells #[Value.int IntKind.i64 r, Value.int IntKind.i64 m] 34)).alloc (.cells #[.int .i64 a] 3)).alloc (.cells #[.int .i64 b] 3) = w' := by
  go_enter Try.func57, Try.ntmps57
  go_wp2
  go_ret
  exact ⟨rfl, rfl⟩
theorem num_stops (n : Nat) (hn : 1 ≤ n) (C A E : Nat) (r m a b : Int) (m1 : 1 ≤ m) (m2 : m ≤ 1000) (r1 : 0 ≤ r) (r2 : r < m) (a1 : 0 ≤ a) (a2 : a ≤ 1000000) (b2 : b ≤ 1000000) (Kp : World → World → Prop)
    (hKp : ∀ W W', Kp W W' → ∀ p : Addr, (p.block = C ∨ p.block = A ∨ p.block = E) → W'.cell? p = W.cell? p) (w : World) (hC : C < w.heap.size) (hA : A < w.heap.size) (hE : E < w.heap.size)
    (hc0 : w.cell? ⟨C, 0, none⟩ = some (.int .i64 r)) (hc1 : w.cell? ⟨C, 1, none⟩ = some (.int .i64 m)) (ha : w.cell? ⟨A, 0, none⟩ = some (.int .i64 a)) (he : w.cell? ⟨E, 0, none⟩ = some (.int .i64 b)) :
    SeqStopsK Fence.wide n Try.prog 79 #[.pointer (some ⟨C, 0, none⟩), .pointer (some ⟨A, 0, none⟩), .pointer (some ⟨E, 0, none⟩)] (fun x : Int => #[Value.int .i64 x]) Kp (NumAll r m a b) (NumPart r m a b) 1000001 w := fun l J Jx W hW hJ _ hY h0 =>
  num1_in n hn l C A E r m a b m1 m2 r1 r2 a1 a2 b2 Kp hKp J Jx hY W hJ ((hW.cell (p := ⟨C, 0, none⟩) hC).trans hc0) ((hW.cell (p := ⟨C, 1, none⟩) hC).trans hc1) ((hW.cell (p := ⟨A, 0, none⟩) hA).trans ha) ((hW.cell (p := ⟨E, 0, none⟩) hE).trans he) h0
theorem keep_drew {w : World} {a : Addr} {v : Value} (h : w.cell? a = some v) : w.drew.cell? a = some v := h
theorem keep_alloc {w : World} {a : Addr} {v : Value} {o : Obj} (h : w.cell? a = some v) : (w.alloc o).cell? a = some v := cell_kept h (World.grownBy_alloc w o none) (fun r e => by cases e)
theorem set_hit {w : World} {a : Addr} {u v : Value} (h : w.cell? a = some u) : (w.setCell a v).cell? a = some v := World.cell?_setCell_same' _ _ _ (by rw [h]; rfl)
theorem set_miss {w : World} {a b : Addr} {u v : Value} (hn : b ≠ a) (h : w.cell? a = some v) : (w.setCell b u).cell? a = some v := (cell_other hn).trans h
theorem c_hasK (r m x : Int) (hm : 1 ≤ m) (hm2 : m ≤ 1000) (w : World) : Calls Try.prog 61 #[.agg #[.int .i64 r, .int .i64 m], .int .i64 x] w fun e w' => e = .returned (.bool (x % m == r)) ∧ Below w.heap.size w w' ∧ KeepsOthers w w' :=
  (c_has r m x hm hm2 w).mono fun _ _ ⟨h1, h2⟩ => ⟨h1, h2 ▸ (ba (ba (Below.refl _ _) _) _).drew, h2 ▸ ((KeepsOthers.alloc _ _).trans (KeepsOthers.alloc _ _)).trans (KeepsOthers.drew _)⟩
theorem lcm_pos {a b : Int} (ha : 1 ≤ a) (hb : 1 ≤ b) : 1 ≤ lcmI a b := by
  obtain ⟨g1, g2⟩ := gcdI_bd ha (show 0 ≤ b by omega)
  have h1 : 1 ≤ a / gcdI a b := by
    rw [Int.le_ediv_iff_mul_le (by omega)]; omega
  have := Int.mul_le_mul h1 hb (by omega) (by omega)
  unfold lcmI; omega
end Go.Proofs.Ytgdpebnnmklbjaa
