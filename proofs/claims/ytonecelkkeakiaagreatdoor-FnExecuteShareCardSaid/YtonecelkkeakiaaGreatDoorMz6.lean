/- Contract of ClassMeet in the program: it searches by an iterator, and comes to what the model comes to. -/
import Derived.Test.YtonecelkkeakiaaGreatDoorMz5
import Derived.Outline
import Derived.Laws.AppendOwn
import Derived.Deep.RegionLaw
import Derived.Test.YtonecelkkeakiaaGreatDoorMathS
import Derived.Deep.QuietTactic
namespace Go.Proofs.YtonecelkkeakiaaGreatDoor
open Go.RowKit Go.Shelf
attribute [local go_sem] Oper.semAt_some
def LcmPost (a b : Int) (w : World) (e : Ending) (w' : World) : Prop := ∃ n, e = .returned (.int .i64 (lcmI a b)) ∧ w' = w.drewN n
theorem c_commonMultiple (a b : Int) (ha : 1 ≤ a) (ha2 : a ≤ 1000) (hb : 1 ≤ b) (hb2 : b ≤ 1000) (w : World) : Calls Tryz.prog 87 #[.int .i64 a, .int .i64 b] w (LcmPost a b w) := by
  obtain ⟨l1, l2, l3, l4⟩ := lcmI_bd ha ha2 hb hb2
  obtain ⟨g1, g2⟩ := gcdI_bd ha (show 0 ≤ b by omega)
  go_enter Tryz.func87, Tryz.ntmps87
  go_wp2_with fail
  refine (c_commonDivisor a b (by omega) ha2 (by omega) hb2 w).mono ?_
  rintro e w1 ⟨n, rfl, rfl⟩
  go_wp2
  go_ret
  exact ⟨n, rfl, rfl⟩
theorem c_numbers (r m a b : Int) (w : World) : Calls Tryz.prog 40 #[.agg #[.int .i64 r, .int .i64 m], .int .i64 a, .int .i64 b] w fun e w' =>
    e = .returned (.func (.func 90) #[] #[.pointer (some ⟨w.heap.size, 0, none⟩), .pointer (some ⟨w.heap.size + 1, 0, none⟩), .pointer (some ⟨w.heap.size + 1 + 1, 0, none⟩)]) ∧
    ((w.alloc (Obj.cells #[Value.int IntKind.i64 r, Value.int IntKind.i64 m] 41)).alloc (.cells #[.int .i64 a] 3)).alloc (.cells #[.int .i64 b] 3) = w' := by
  go_enter Tryz.func40, Tryz.ntmps40
  go_wp2
  go_ret
  exact ⟨rfl, rfl⟩
theorem num_stops (n : Nat) (hn : 1 ≤ n) (C A E : Nat) (r m a b : Int) (m1 : 1 ≤ m) (m2 : m ≤ 1000) (r1 : 0 ≤ r) (r2 : r < m) (a1 : 0 ≤ a) (a2 : a ≤ 1000000) (b2 : b ≤ 1000000) (Kp : World → World → Prop)
    (hKp : ∀ W W', Kp W W' → ∀ p : Addr, (p.block = C ∨ p.block = A ∨ p.block = E) → W'.cell? p = W.cell? p) (w : World) (hC : C < w.heap.size) (hA : A < w.heap.size) (hE : E < w.heap.size)
    (hc0 : w.cell? ⟨C, 0, none⟩ = some (.int .i64 r)) (hc1 : w.cell? ⟨C, 1, none⟩ = some (.int .i64 m)) (ha : w.cell? ⟨A, 0, none⟩ = some (.int .i64 a)) (he : w.cell? ⟨E, 0, none⟩ = some (.int .i64 b)) :
    SeqStopsK Fence.wide n Tryz.prog 90 #[.pointer (some ⟨C, 0, none⟩), .pointer (some ⟨A, 0, none⟩), .pointer (some ⟨E, 0, none⟩)] (fun x : Int => #[Value.int .i64 x]) Kp (NumAll r m a b) (NumPart r m a b) 1000001 w := fun l J Jx W hW hJ _ hY h0 =>
  num1_in n hn l C A E r m a b m1 m2 r1 r2 a1 a2 b2 Kp hKp J Jx hY W hJ ((hW.cell (p := ⟨C, 0, none⟩) hC).trans hc0) ((hW.cell (p := ⟨C, 1, none⟩) hC).trans hc1) ((hW.cell (p := ⟨A, 0, none⟩) hA).trans ha) ((hW.cell (p := ⟨E, 0, none⟩) hE).trans he) h0
theorem keep_drew {w : World} {a : Addr} {v : Value} (h : w.cell? a = some v) : w.drew.cell? a = some v := h
theorem keep_alloc {w : World} {a : Addr} {v : Value} {o : Obj} (h : w.cell? a = some v) : (w.alloc o).cell? a = some v := cell_kept h (World.grownBy_alloc w o none) (fun r e => by cases e)
theorem set_hit {w : World} {a : Addr} {u v : Value} (h : w.cell? a = some u) : (w.setCell a v).cell? a = some v := World.cell?_setCell_same' _ _ _ (by rw [h]; rfl)
theorem set_miss {w : World} {a b : Addr} {u v : Value} (hn : b ≠ a) (h : w.cell? a = some v) : (w.setCell b u).cell? a = some v := (cell_other hn).trans h
theorem c_hasK (r m x : Int) (hm : 1 ≤ m) (hm2 : m ≤ 1000) (w : World) : Calls Tryz.prog 271 #[.agg #[.int .i64 r, .int .i64 m], .int .i64 x] w fun e w' => e = .returned (.bool (x % m == r)) ∧ Below w.heap.size w w' ∧ KeepsOthers w w' :=
  (c_has r m x hm hm2 w).mono fun _ _ ⟨h1, h2⟩ => ⟨h1, h2 ▸ (ba (ba (Below.refl _ _) _) _).drew, h2 ▸ ((KeepsOthers.alloc _ _).trans (KeepsOthers.alloc _ _)).trans (KeepsOthers.drew _)⟩
theorem lcm_pos {a b : Int} (ha : 1 ≤ a) (hb : 1 ≤ b) : 1 ≤ lcmI a b := by
  obtain ⟨g1, g2⟩ := gcdI_bd ha (show 0 ≤ b by omega)
  have h1 : 1 ≤ a / gcdI a b := by
    rw [Int.le_ediv_iff_mul_le (by omega)]; omega
  have := Int.mul_le_mul h1 hb (by omega) (by omega)
  unfold lcmI; omega
end Go.Proofs.YtonecelkkeakiaaGreatDoor
namespace Go.Proofs.YtonecelkkeakiaaGreatDoor
open Go
theorem step_append_own {P : Program} {ops : Array Oper} {o : Oper} {a : Act} {w : World} {K : Act → World → Prop} {Q : Exit → Act → World → Prop} {E : Prop}
    (hg : o.guard = none) (s x : Operand) (t : TypeId) (ho : o.op = .call { callee := .builtin .append, args := #[s, x], argTypes := #[t, t] })
    (base : Nat) (e : TypeId) (i : TypeInfo) (z : Value) (size bytes : Nat) (ht : P.underlying t = some (.slice e)) (hi : P.info? e = some i) (hz : i.zero = some z)
    (hsize : i.size = size) (hby : i.bytes = bytes) (hzs : z.cells.size = size) (hsz : 0 < size)
    (v : Value) (n : Nat) (xs : List Value) (hs : a.eval s = v) (hown : w.ownsRow base e size v n xs)
    (ad : Addr) (m c : Nat) (news : List Value) (hx : a.eval x = .slice (some ad) m c) (hl : news.length = m * size) (hnews : ∀ j u, news[j]? = some u → w.cell? (ad.add j) = some u) (h1 : ∀ u ∈ news, u.oneCell' = true)
    (h63 : n + m ≤ maxLen) (hbytes : (n + m) * bytes ≤ 140737488355328) (hbase : base ≤ w.heap.size)
    (h : ∀ v' w', w'.ownsRow base e size v' (n + m) (xs ++ news) → w.grownBy w' v.ownBlock → (v' = .slice none 0 0 ↔ v = .slice none 0 0 ∧ m = 0) → K (a.put o.dst v') w') :
    if Region.wanted o (yielded ops a.tmps) = true then Oper.wp P o a w K Q else E := by
  have hw : Region.wanted o (yielded ops a.tmps) = true := by simp [Region.wanted, hg]
  rw [if_pos hw]
  exact wp_append_own w s x t ho base e i z size bytes ht hi hz hsize hby hzs hsz v n xs hs hown ad m c news hx hl hnews h1 h63 hbytes hbase h
end Go.Proofs.YtonecelkkeakiaaGreatDoor
namespace Go.Proofs.YtonecelkkeakiaaGreatDoor
open Go.RowKit
/-- a proposition that is not laid open by whoever looks at its head -/
structure Sh (p : Prop) : Prop where
  out : p
theorem q_step {P : Program} {ops : Array Oper} {C : World → Prop} {Q : Act → Prop} {a : Act} {o : Oper} {rest : List Oper}
    (h : ∀ K : Act → Prop, (∀ a, Sh (wpQuiet P ops C Q rest a) → K a) → if Region.wanted o (yielded ops a.tmps) then o.quiet P a C K else K (a.put o.dst undef)) : Sh (wpQuiet P ops C Q (o :: rest) a) :=
  ⟨wpQuiet_step fun K hK => h K fun a s => hK a s.out⟩
theorem q_nil {P : Program} {ops : Array Oper} {C : World → Prop} {Q : Act → Prop} {a : Act} (h : Q a) : Sh (wpQuiet P ops C Q [] a) := ⟨h⟩
/-- a world above w: the old blocks are as they were -/
structure Abv (w : World) where
  x : World
  h : Below w.heap.size w x
instance (w : World) : Inhabited (Abv w) := ⟨⟨w, Below.refl _ w⟩⟩
theorem wp_region_above {P : Program} {id : Nat} {Q : Exit → Act → World → Prop} {a : Act} {w : World} {l : List Oper} (hm : P.follows .mixedOrders = true) (hB : Region.lexB .any l.toArray = true)
    (h : Sh (wpQuiet P l.toArray (fun w' => ∃ p : Abv w, w' = p.x) (fun a' => ∀ w', (∃ p : Abv w, w' = p.x) → Q .normal a' w') l a)) : (Code.region id l.toArray true).wp P Q a w :=
  wp_region_quiet (C := fun w' => ∃ p : Abv w, w' = p.x) hm hB ⟨⟨w.drew, (Below.refl _ w).drew⟩, rfl⟩ (by simpa using h.out)
theorem Abv.cell {w : World} (p : Abv w) {a : Addr} {v : Value} (h : w.cell? a = some v) : p.x.cell? a = some v := keepc p.h h
/-- A callee's contract, met above w. -/
theorem calls_above {P : Program} {f : FuncId} {args : Array Value} {w : World} {p : Abv w} {v : Value}
    (h : Calls P f args p.x fun e w' => e = .returned v ∧ Below p.x.heap.size p.x w') : Calls P f args p.x fun e w'' => e = .returned v ∧ ∃ p : Abv w, w'' = p.x :=
  h.mono fun _ _ ⟨he, hb⟩ => ⟨he, ⟨⟨_, p.h.trans (hb.mono p.h.size)⟩, rfl⟩⟩
end Go.Proofs.YtonecelkkeakiaaGreatDoor
