/- The numbers of a class as an iterator, once more: each number that it hands out is told to lie in the range, and how many there are at most. -/
import Derived.Test.YtgdpebnnmklbjaaR2
namespace Go.Proofs.Ytgdpebnnmklbjaa
open Go.RowKit Go.Shelf
attribute [local go_sem] Oper.semAt_some
/-- a number from a on, less than b -/
abbrev Rng (a b : Int) := { x : Int // a ≤ x ∧ x < b }
def vals {a b : Int} (ys : List (Rng a b)) : List Int := ys.map (·.1)
theorem vals_snoc {a b : Int} (ys : List (Rng a b)) (x : Rng a b) : vals (ys ++ [x]) = vals ys ++ [x.1] := by simp [vals]
theorem vals_length {a b : Int} (ys : List (Rng a b)) : (vals ys).length = ys.length := by simp [vals]
set_option maxHeartbeats 1000000 in
theorem num2_in (n : Nat) (hn : 1 ≤ n) (l C A E N : Nat) (r m a b : Int) (m1 : 1 ≤ m) (m2 : m ≤ 1000) (r1 : 0 ≤ r) (r2 : r < m) (a1 : 0 ≤ a) (a2 : a ≤ 1000000) (b2 : b ≤ 1000000) (hN : ∀ k, numK r m a k < b → k < N) (Kp : World → World → Prop)
    (hKp : ∀ W W', Kp W W' → ∀ p : Addr, (p.block = C ∨ p.block = A ∨ p.block = E) → W'.cell? p = W.cell? p) (J Jx : List (Rng a b) → World → Prop)
    (hY : ∀ pre x W, J pre W → pre.length < N → YieldAt Fence.wide (n - 1) Try.prog l #[.int .i64 x.1] W fun e W' =>
      (e = .returned (.bool true) ∧ J (pre ++ [x]) W' ∧ Kp W W') ∨ (e = .returned (.bool false) ∧ Jx (pre ++ [x]) W'))
    (W : World) (hJ : AbidesFrom W.heap.size J) (hc0 : W.cell? ⟨C, 0, none⟩ = some (.int .i64 r)) (hc1 : W.cell? ⟨C, 1, none⟩ = some (.int .i64 m)) (ha : W.cell? ⟨A, 0, none⟩ = some (.int .i64 a)) (he : W.cell? ⟨E, 0, none⟩ = some (.int .i64 b)) (h0 : J [] W) :
    CallsIn Fence.wide n Try.prog 79 #[.func (.yield l) #[] #[], .pointer (some ⟨C, 0, none⟩), .pointer (some ⟨A, 0, none⟩), .pointer (some ⟨E, 0, none⟩)] W fun e W' => (∃ v, e = .returned v) ∧
      ((∃ ys, NumAll r m a b (vals ys) ∧ J ys W') ∨ (∃ pre, NumPart r m a b (vals pre) ∧ Jx pre W')) := by
  have hf := @firI_bd r m a m1
  refine callsIn_of_wp Try.func79 rfl trivial ?_ rfl
  simp only [Try.ntmps79, List.size_toArray, List.length_cons, List.length_nil, Nat.reduceAdd, Nat.reduceSub, Array.replicate_succ, Array.replicate_zero, List.push_toArray, List.append_toArray, List.nil_append, List.cons_append]
  gi_wp2_with (refine ⟨trivial, ?_⟩; gi_at_call 80; refine (callsIn_wide.2 (c_first r m a m1 m2 r1 r2 (by omega) a2 _)).mono ?_; rintro e w' ⟨rfl, rfl⟩)
  have hJ0 : J [] (W.alloc (Obj.cells #[Value.int IntKind.i64 r, Value.int IntKind.i64 m] 34)) := hJ _ _ _ none h0 (World.grownBy_alloc W _ none) (fun r e => by cases e)
  gi_loopw [5] (fun i wr => ∃ (k : Nat) (pre : List (Rng a b)), i = .int .i64 (numK r m a k) ∧ (∀ j, j < k → numK r m a j < b) ∧ Hid (vals pre = seqTo (numK r m a) k) ∧ J pre wr ∧ wr.cell? ⟨C, 1, none⟩ = some (.int .i64 m) ∧ wr.cell? ⟨E, 0, none⟩ = some (.int .i64 b))
    (fun i _ => (b - intOf i).toNat)
  case atStart => exact ⟨0, [], by simp [numK], by simp, rfl, hJ0, cell_kept hc1 (World.grownBy_alloc W _ none) (fun r e => by cases e), cell_kept he (World.grownBy_alloc W _ none) (fun r e => by cases e)⟩
  case round =>
    obtain ⟨k, pre, rfl, hlt, hv, hJs, hm', he'⟩ := hrel
    have hge := @numK_ge r m a m1 k
    by_cases hx : numK r m a k < b
    · have hlen : pre.length = k := by rw [← vals_length, hv.out, seqTo_length]
      obtain ⟨x0, hx0⟩ : ∃ x0 : Rng a b, x0.1 = numK r m a k := ⟨⟨numK r m a k, Int.le_trans hf.1 (Int.le_trans (Int.le_add_of_nonneg_right (Int.natCast_nonneg k)) hge), hx⟩, rfl⟩
      obtain ⟨fn, tmps, assign, body, hy, hR⟩ := hY pre x0 wr hJs (by rw [hlen]; exact hN k hx)
      rw [hx0] at hy
      have hs := Lib.hid (numK_succ r m a k)
      have hq := Lib.hid (show vals (pre ++ [x0]) = seqTo (numK r m a) (k + 1) by rw [vals_snoc, hv.out, seqTo_succ, hx0])
      have hall : ∀ j, j < k + 1 → numK r m a j < b := fun j hj => by
        rcases Nat.lt_succ_iff_lt_or_eq.1 hj with h | h
        · exact hlt j h
        · rw [h]; exact hx
      have hall' := Lib.hid hall
      clear hall hlt hlen hx0
      gi_wp2
      refine hR.mono ?_
      rintro e W3 (⟨rfl, hJ3, hk3⟩ | ⟨rfl, hJx3⟩)
      · have e1 := (hKp _ _ hk3 ⟨C, 1, none⟩ (.inl rfl)).trans hm'
        have e2 := (hKp _ _ hk3 ⟨E, 0, none⟩ (.inr (.inr rfl))).trans he'
        gi_wp2
        go_roundw
        case rel => exact ⟨k + 1, _, by rw [hs.out], hall'.out, hq, hJ3, e1, e2⟩
        case measure => simp [intOf]; omega
      · gi_wp2
        refine bodyPost_ret (results_none rfl _ _ _) rfl ?_
        exact ⟨⟨_, rfl⟩, .inr ⟨_, ⟨k, hq.out, hall'.out⟩, hJx3⟩⟩
    · have hl' := Lib.hid hlt
      clear hlt
      gi_wp2
      go_end0
      exact ⟨⟨_, rfl⟩, .inl ⟨_, ⟨k, hv.out, by omega, hl'.out⟩, hJs⟩⟩
theorem num2_stops (n : Nat) (hn : 1 ≤ n) (C A E N : Nat) (r m a b : Int) (m1 : 1 ≤ m) (m2 : m ≤ 1000) (r1 : 0 ≤ r) (r2 : r < m) (a1 : 0 ≤ a) (a2 : a ≤ 1000000) (b2 : b ≤ 1000000) (hN : ∀ k, numK r m a k < b → k < N) (Kp : World → World → Prop)
    (hKp : ∀ W W', Kp W W' → ∀ p : Addr, (p.block = C ∨ p.block = A ∨ p.block = E) → W'.cell? p = W.cell? p) (w : World) (hC : C < w.heap.size) (hA : A < w.heap.size) (hE : E < w.heap.size)
    (hc0 : w.cell? ⟨C, 0, none⟩ = some (.int .i64 r)) (hc1 : w.cell? ⟨C, 1, none⟩ = some (.int .i64 m)) (ha : w.cell? ⟨A, 0, none⟩ = some (.int .i64 a)) (he : w.cell? ⟨E, 0, none⟩ = some (.int .i64 b)) :
    SeqStopsK Fence.wide n Try.prog 79 #[.pointer (some ⟨C, 0, none⟩), .pointer (some ⟨A, 0, none⟩), .pointer (some ⟨E, 0, none⟩)] (fun x : Rng a b => #[Value.int .i64 x.1]) Kp (fun ys => NumAll r m a b (vals ys)) (fun ys => NumPart r m a b (vals ys)) N w := fun l J Jx W hW hJ _ hY h0 =>
  num2_in n hn l C A E N r m a b m1 m2 r1 r2 a1 a2 b2 hN Kp hKp J Jx hY W hJ ((hW.cell (p := ⟨C, 0, none⟩) hC).trans hc0) ((hW.cell (p := ⟨C, 1, none⟩) hC).trans hc1) ((hW.cell (p := ⟨A, 0, none⟩) hA).trans ha) ((hW.cell (p := ⟨E, 0, none⟩) hE).trans he) h0
/-- the cells of three blocks are as they were -/
def Kp3 (C A E : Nat) (W W' : World) : Prop := ∀ p : Addr, (p.block = C ∨ p.block = A ∨ p.block = E) → W'.cell? p = W.cell? p
theorem Kp3.t {C A E : Nat} {X Y Z : World} (h : Kp3 C A E X Y) (k : Kp3 C A E Y Z) : Kp3 C A E X Z := fun p hp => (k p hp).trans (h p hp)
theorem Kp3.b {C A E : Nat} {w : World} (hC : C < w.heap.size) (hA : A < w.heap.size) (hE : E < w.heap.size) (W : World) (l : Nat) (o o' : Obj) (hl : w.heap.size ≤ l) (h : W.heap[l]? = some o) (h1 : o.isCells = false) (h2 : o.isWalk = false) : Kp3 C A E W (W.putObj l o') :=
  fun p hp => (belowK_b (Nat.le_refl _) W l o o' hl h h1 h2).cell (by rcases hp with e | e | e <;> rw [e] <;> assumption)
theorem Kp3.of {C A E : Nat} {W W' : World} (h : ∀ j, (j = C ∨ j = A ∨ j = E) → W'.heap[j]? = W.heap[j]?) : Kp3 C A E W W' :=
  fun p hp => World.cell?_of_block (w := W) (h p.block hp)
theorem heap_grown {W w1 : World} {g j : Nat} (h : W.grownBy w1 (some g)) (hj : j < W.heap.size) (hne : j ≠ g) : w1.heap[j]? = W.heap[j]? := h.block j hj (fun e => hne (by cases e; rfl))
theorem cell_new2 (w : World) (A B : Obj) (v : Value) (t : TypeId) : (((w.alloc A).alloc B).alloc (.cells #[v] t)).cell? ⟨w.heap.size + 1 + 1, 0, none⟩ = some v := by
  have h := cell_new ((w.alloc A).alloc B) #[v] t 0
  rw [World.size_alloc, World.size_alloc] at h; exact h
theorem cell_new3 (w : World) (A B C : Obj) (v : Value) (t : TypeId) : ((((w.alloc A).alloc B).alloc C).alloc (.cells #[v] t)).cell? ⟨w.heap.size + 1 + 1 + 1, 0, none⟩ = some v := by
  have h := cell_new (((w.alloc A).alloc B).alloc C) #[v] t 0
  rw [World.size_alloc, World.size_alloc, World.size_alloc] at h; exact h
end Go.Proofs.Ytgdpebnnmklbjaa
