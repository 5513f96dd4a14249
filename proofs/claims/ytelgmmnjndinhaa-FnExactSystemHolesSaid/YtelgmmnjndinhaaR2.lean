/- Contract of ClassMeet in the program: it searches by an iterator, and comes to what the model comes to. -/
import Derived.Test.YtelgmmnjndinhaaR2a
import Derived.Outline
namespace Go.Proofs.Ytelgmmnjndinhaa
open Go.RowKit Go.Shelf
attribute [local go_sem] Oper.semAt_some
def LcmPost (a b : Int) (w : World) (e : Ending) (w' : World) : Prop := ∃ n, e = .returned (.int .i64 (lcmI a b)) ∧ w' = w.drewN n
theorem c_commonMultiple (a b : Int) (ha : 1 ≤ a) (ha2 : a ≤ 1000) (hb : 1 ≤ b) (hb2 : b ≤ 1000) (w : World) : Calls Try.prog 71 #[.int .i64 a, .int .i64 b] w (LcmPost a b w) := by
  obtain ⟨l1, l2, l3, l4⟩ := lcmI_bd ha ha2 hb hb2
  obtain ⟨g1, g2⟩ := gcdI_bd ha (show 0 ≤ b by omega)
  go_enter Try.func71, Try.ntmps71
  go_wp2_with fail
  refine (c_commonDivisor a b (by omega) ha2 (by omega) hb2 w).mono ?_
  rintro e w1 ⟨n, rfl, rfl⟩
  go_wp2
  go_ret
  exact ⟨n, rfl, rfl⟩
theorem c_numbers (r m a b : Int) (w : World) : Calls Try.prog 84 #[.agg #[.int .i64 r, .int .i64 m], .int .i64 a, .int .i64 b] w fun e w' =>
    e = .returned (.func (.func 93) #[] #[.pointer (some ⟨w.heap.size, 0, none⟩), .pointer (some ⟨w.heap.size + 1, 0, none⟩), .pointer (some ⟨w.heap.size + 1 + 1, 0, none⟩)]) ∧
    ((w.alloc (Obj.cells #[Value.int IntKind.i64 r, Value.int IntKind.i64 m] 45)).alloc (.cells #[.int .i64 a] 3)).alloc (.cells #[.int .i64 b] 3) = w' := by
  go_enter Try.func84, Try.ntmps84
  go_wp2
  go_ret
  exact ⟨rfl, rfl⟩
theorem num_stops (n : Nat) (hn : 1 ≤ n) (C A E : Nat) (r m a b : Int) (m1 : 1 ≤ m) (m2 : m ≤ 1000) (r1 : 0 ≤ r) (r2 : r < m) (a1 : 0 ≤ a) (a2 : a ≤ 1000000) (b2 : b ≤ 1000000) (Kp : World → World → Prop)
    (hKp : ∀ W W', Kp W W' → ∀ p : Addr, (p.block = C ∨ p.block = A ∨ p.block = E) → W'.cell? p = W.cell? p) (w : World) (hC : C < w.heap.size) (hA : A < w.heap.size) (hE : E < w.heap.size)
    (hc0 : w.cell? ⟨C, 0, none⟩ = some (.int .i64 r)) (hc1 : w.cell? ⟨C, 1, none⟩ = some (.int .i64 m)) (ha : w.cell? ⟨A, 0, none⟩ = some (.int .i64 a)) (he : w.cell? ⟨E, 0, none⟩ = some (.int .i64 b)) :
    SeqStopsK Fence.wide n Try.prog 93 #[.pointer (some ⟨C, 0, none⟩), .pointer (some ⟨A, 0, none⟩), .pointer (some ⟨E, 0, none⟩)] (fun x : Int => #[Value.int .i64 x]) Kp (NumAll r m a b) (NumPart r m a b) 1000001 w := fun l J Jx W hW hJ _ hY h0 =>
  num1_in n hn l C A E r m a b m1 m2 r1 r2 a1 a2 b2 Kp hKp J Jx hY W hJ ((hW.cell (p := ⟨C, 0, none⟩) hC).trans hc0) ((hW.cell (p := ⟨C, 1, none⟩) hC).trans hc1) ((hW.cell (p := ⟨A, 0, none⟩) hA).trans ha) ((hW.cell (p := ⟨E, 0, none⟩) hE).trans he) h0
theorem keep_drew {w : World} {a : Addr} {v : Value} (h : w.cell? a = some v) : w.drew.cell? a = some v := h
theorem keep_alloc {w : World} {a : Addr} {v : Value} {o : Obj} (h : w.cell? a = some v) : (w.alloc o).cell? a = some v := cell_kept h (World.grownBy_alloc w o none) (fun r e => by cases e)
theorem set_hit {w : World} {a : Addr} {u v : Value} (h : w.cell? a = some u) : (w.setCell a v).cell? a = some v := World.cell?_setCell_same' _ _ _ (by rw [h]; rfl)
theorem set_miss {w : World} {a b : Addr} {u v : Value} (hn : b ≠ a) (h : w.cell? a = some v) : (w.setCell b u).cell? a = some v := (cell_other hn).trans h
theorem c_hasK (r m x : Int) (hm : 1 ≤ m) (hm2 : m ≤ 1000) (w : World) : Calls Try.prog 85 #[.agg #[.int .i64 r, .int .i64 m], .int .i64 x] w fun e w' => e = .returned (.bool (x % m == r)) ∧ Below w.heap.size w w' ∧ KeepsOthers w w' :=
  (c_has r m x hm hm2 w).mono fun _ _ ⟨h1, h2⟩ => ⟨h1, h2 ▸ (ba (ba (Below.refl _ _) _) _).drew, h2 ▸ ((KeepsOthers.alloc _ _).trans (KeepsOthers.alloc _ _)).trans (KeepsOthers.drew _)⟩
theorem lcm_pos {a b : Int} (ha : 1 ≤ a) (hb : 1 ≤ b) : 1 ≤ lcmI a b := by
  obtain ⟨g1, g2⟩ := gcdI_bd ha (show 0 ≤ b by omega)
  have h1 : 1 ≤ a / gcdI a b := by
    rw [Int.le_ediv_iff_mul_le (by omega)]; omega
  have := Int.mul_le_mul h1 hb (by omega) (by omega)
  unfold lcmI; omega
set_option maxRecDepth 100000 in
set_option maxHeartbeats 4000000 in
theorem c_implMeet2 (r m s n : Int) (hc : inB r m = true) (hd : inB s n = true) (w : World) : Calls Try.prog 66 #[.agg #[.int .i64 r, .int .i64 m], .agg #[.int .i64 s, .int .i64 n]] w fun e w' => e = .returned (.tuple #[.agg #[.int .i64 (selI (metB m s n r) (metX m s n r)), .int .i64 (selI (metB m s n r) (lcmI m n))], .bool (metB m s n r)]) ∧ Below w.heap.size w w' := by
  obtain ⟨m1, m2, r1, r2⟩ := inB_iff.1 hc
  obtain ⟨n1, n2, s1, s2⟩ := inB_iff.1 hd
  by_cases hl : lcmI m n ≤ 1000
  · obtain ⟨l1, l2, l3, l4⟩ := lcmI_bd m1 m2 n1 n2
    obtain ⟨g1, g2⟩ := gcdI_bd m1 (show 0 ≤ n by omega)
    have hL1 : 1 ≤ lcmI m n := lcm_pos m1 n1
    have hmod : modB (lcmI m n) = true := modB_t ⟨hL1, hl⟩
    clear l1 l2 l3 l4 g1 g2
    refine (callsIn_wide (n := 5)).1 ?_
    refine callsIn_of_wp_marks Try.func66 rfl trivial ?_ rfl
    simp only [Try.ntmps66, List.size_toArray, List.length_cons, List.length_nil, Nat.reduceAdd, Nat.reduceSub, Array.replicate_succ, Array.replicate_zero, List.push_toArray, List.append_toArray, List.nil_append, List.cons_append]
    gi_wp2_with (refine ⟨trivial, ?_⟩; first | (gi_at_call 70; refine (callsIn_wide.2 (c_valid _ _ _)).mono ?_; rintro e w1 ⟨rfl, rfl⟩) | (gi_at_call 71; refine (callsIn_wide.2 (c_commonMultiple m n m1 m2 n1 n2 _)).mono ?_; rintro e w1 ⟨nq, rfl, rfl⟩) | (gi_at_call 72; refine (callsIn_wide.2 (c_inModuli _ _)).mono ?_; rintro e w1 ⟨rfl, rfl⟩) | (gi_at_call 84; refine (callsIn_wide.2 (c_numbers _ _ _ _ _)).mono ?_; rintro e w1 ⟨rfl, rfl⟩))
    obtain ⟨W0, hW0⟩ : ∃ W0, ((((((((((w.alloc (Obj.cells #[Value.int IntKind.i64 r, Value.int IntKind.i64 m] 45)).alloc (Obj.cells #[Value.int IntKind.i64 s, Value.int IntKind.i64 n] 45)).alloc (Obj.cells #[Value.int IntKind.i64 0, Value.int IntKind.i64 0] 45)).alloc (.cells #[.bool false] 4)).alloc (Obj.cells #[Value.int IntKind.i64 r, Value.int IntKind.i64 m] 45)).alloc (Obj.cells #[Value.int IntKind.i64 s, Value.int IntKind.i64 n] 45)).drewN nq).alloc (.cells #[.int .i64 (lcmI m n)] 3)).alloc (Obj.cells #[Value.int IntKind.i64 r, Value.int IntKind.i64 m] 45)).alloc (.cells #[.int .i64 0] 3)).alloc (.cells #[.int .i64 (lcmI m n)] 3) = W0 := ⟨_, rfl⟩
    have hsz : W0.heap.size = w.heap.size + 10 := by rw [← hW0]; simp
    have h1 : Below ((w.alloc (Obj.cells #[Value.int IntKind.i64 r, Value.int IntKind.i64 m] 45)).alloc (Obj.cells #[Value.int IntKind.i64 s, Value.int IntKind.i64 n] 45)).heap.size ((w.alloc (Obj.cells #[Value.int IntKind.i64 r, Value.int IntKind.i64 m] 45)).alloc (Obj.cells #[Value.int IntKind.i64 s, Value.int IntKind.i64 n] 45)) W0 := by
      rw [← hW0]
      repeat (first | exact Below.refl _ _ | assumption | refine Below.drew ?_ | refine bel_drewN ?_ _ | refine ba ?_ _ | refine bt2 ?_ (by assumption) | refine Below.setCell ?_ (by simp <;> omega) _)
    have q2 : W0.cell? ⟨w.heap.size + 1, 0, none⟩ = some (.int .i64 s) := by simpa using kc h1 0
    have q3 : W0.cell? ⟨w.heap.size + 1, 1, none⟩ = some (.int .i64 n) := by simpa using kc h1 1
    clear h1
    have h2 : Below (((w.alloc (Obj.cells #[Value.int IntKind.i64 r, Value.int IntKind.i64 m] 45)).alloc (Obj.cells #[Value.int IntKind.i64 s, Value.int IntKind.i64 n] 45)).alloc (Obj.cells #[Value.int IntKind.i64 0, Value.int IntKind.i64 0] 45)).heap.size (((w.alloc (Obj.cells #[Value.int IntKind.i64 r, Value.int IntKind.i64 m] 45)).alloc (Obj.cells #[Value.int IntKind.i64 s, Value.int IntKind.i64 n] 45)).alloc (Obj.cells #[Value.int IntKind.i64 0, Value.int IntKind.i64 0] 45)) W0 := by
      rw [← hW0]
      repeat (first | exact Below.refl _ _ | assumption | refine Below.drew ?_ | refine bel_drewN ?_ _ | refine ba ?_ _ | refine bt2 ?_ (by assumption) | refine Below.setCell ?_ (by simp <;> omega) _)
    have q4 : W0.cell? ⟨w.heap.size + 1 + 1, 0, none⟩ = some (.int .i64 0) := by simpa using kc h2 0
    have f4 : W0.frozen? ⟨w.heap.size + 1 + 1, 0, none⟩ = false := by simpa using kf h2 0
    have q5 : W0.cell? ⟨w.heap.size + 1 + 1, 1, none⟩ = some (.int .i64 0) := by simpa using kc h2 1
    have f5 : W0.frozen? ⟨w.heap.size + 1 + 1, 1, none⟩ = false := by simpa using kf h2 1
    clear h2
    have h3 : Below ((((w.alloc (Obj.cells #[Value.int IntKind.i64 r, Value.int IntKind.i64 m] 45)).alloc (Obj.cells #[Value.int IntKind.i64 s, Value.int IntKind.i64 n] 45)).alloc (Obj.cells #[Value.int IntKind.i64 0, Value.int IntKind.i64 0] 45)).alloc (.cells #[.bool false] 4)).heap.size ((((w.alloc (Obj.cells #[Value.int IntKind.i64 r, Value.int IntKind.i64 m] 45)).alloc (Obj.cells #[Value.int IntKind.i64 s, Value.int IntKind.i64 n] 45)).alloc (Obj.cells #[Value.int IntKind.i64 0, Value.int IntKind.i64 0] 45)).alloc (.cells #[.bool false] 4)) W0 := by
      rw [← hW0]
      repeat (first | exact Below.refl _ _ | assumption | refine Below.drew ?_ | refine bel_drewN ?_ _ | refine ba ?_ _ | refine bt2 ?_ (by assumption) | refine Below.setCell ?_ (by simp <;> omega) _)
    have q6 : W0.cell? ⟨w.heap.size + 1 + 1 + 1, 0, none⟩ = some (.bool false) := by simpa using kc h3 0
    have f6 : W0.frozen? ⟨w.heap.size + 1 + 1 + 1, 0, none⟩ = false := by simpa using kf h3 0
    clear h3
    have h6 : Below ((((((((w.alloc (Obj.cells #[Value.int IntKind.i64 r, Value.int IntKind.i64 m] 45)).alloc (Obj.cells #[Value.int IntKind.i64 s, Value.int IntKind.i64 n] 45)).alloc (Obj.cells #[Value.int IntKind.i64 0, Value.int IntKind.i64 0] 45)).alloc (.cells #[.bool false] 4)).alloc (Obj.cells #[Value.int IntKind.i64 r, Value.int IntKind.i64 m] 45)).alloc (Obj.cells #[Value.int IntKind.i64 s, Value.int IntKind.i64 n] 45)).drewN nq).alloc (.cells #[.int .i64 (lcmI m n)] 3)).heap.size ((((((((w.alloc (Obj.cells #[Value.int IntKind.i64 r, Value.int IntKind.i64 m] 45)).alloc (Obj.cells #[Value.int IntKind.i64 s, Value.int IntKind.i64 n] 45)).alloc (Obj.cells #[Value.int IntKind.i64 0, Value.int IntKind.i64 0] 45)).alloc (.cells #[.bool false] 4)).alloc (Obj.cells #[Value.int IntKind.i64 r, Value.int IntKind.i64 m] 45)).alloc (Obj.cells #[Value.int IntKind.i64 s, Value.int IntKind.i64 n] 45)).drewN nq).alloc (.cells #[.int .i64 (lcmI m n)] 3)) W0 := by
      rw [← hW0]
      repeat (first | exact Below.refl _ _ | assumption | refine Below.drew ?_ | refine bel_drewN ?_ _ | refine ba ?_ _ | refine bt2 ?_ (by assumption) | refine Below.setCell ?_ (by simp <;> omega) _)
    have q7 : W0.cell? ⟨w.heap.size + 1 + 1 + 1 + 1 + 1 + 1, 0, none⟩ = some (.int .i64 (lcmI m n)) := by simpa using kc h6 0
    clear h6
    have h7 : Below (((((((((w.alloc (Obj.cells #[Value.int IntKind.i64 r, Value.int IntKind.i64 m] 45)).alloc (Obj.cells #[Value.int IntKind.i64 s, Value.int IntKind.i64 n] 45)).alloc (Obj.cells #[Value.int IntKind.i64 0, Value.int IntKind.i64 0] 45)).alloc (.cells #[.bool false] 4)).alloc (Obj.cells #[Value.int IntKind.i64 r, Value.int IntKind.i64 m] 45)).alloc (Obj.cells #[Value.int IntKind.i64 s, Value.int IntKind.i64 n] 45)).drewN nq).alloc (.cells #[.int .i64 (lcmI m n)] 3)).alloc (Obj.cells #[Value.int IntKind.i64 r, Value.int IntKind.i64 m] 45)).heap.size (((((((((w.alloc (Obj.cells #[Value.int IntKind.i64 r, Value.int IntKind.i64 m] 45)).alloc (Obj.cells #[Value.int IntKind.i64 s, Value.int IntKind.i64 n] 45)).alloc (Obj.cells #[Value.int IntKind.i64 0, Value.int IntKind.i64 0] 45)).alloc (.cells #[.bool false] 4)).alloc (Obj.cells #[Value.int IntKind.i64 r, Value.int IntKind.i64 m] 45)).alloc (Obj.cells #[Value.int IntKind.i64 s, Value.int IntKind.i64 n] 45)).drewN nq).alloc (.cells #[.int .i64 (lcmI m n)] 3)).alloc (Obj.cells #[Value.int IntKind.i64 r, Value.int IntKind.i64 m] 45)) W0 := by
      rw [← hW0]
      repeat (first | exact Below.refl _ _ | assumption | refine Below.drew ?_ | refine bel_drewN ?_ _ | refine ba ?_ _ | refine bt2 ?_ (by assumption) | refine Below.setCell ?_ (by simp <;> omega) _)
    have q8 : W0.cell? ⟨w.heap.size + 1 + 1 + 1 + 1 + 1 + 1 + 1, 0, none⟩ = some (.int .i64 r) := by simpa using kc h7 0
    have q9 : W0.cell? ⟨w.heap.size + 1 + 1 + 1 + 1 + 1 + 1 + 1, 1, none⟩ = some (.int .i64 m) := by simpa using kc h7 1
    clear h7
    have h8 : Below ((((((((((w.alloc (Obj.cells #[Value.int IntKind.i64 r, Value.int IntKind.i64 m] 45)).alloc (Obj.cells #[Value.int IntKind.i64 s, Value.int IntKind.i64 n] 45)).alloc (Obj.cells #[Value.int IntKind.i64 0, Value.int IntKind.i64 0] 45)).alloc (.cells #[.bool false] 4)).alloc (Obj.cells #[Value.int IntKind.i64 r, Value.int IntKind.i64 m] 45)).alloc (Obj.cells #[Value.int IntKind.i64 s, Value.int IntKind.i64 n] 45)).drewN nq).alloc (.cells #[.int .i64 (lcmI m n)] 3)).alloc (Obj.cells #[Value.int IntKind.i64 r, Value.int IntKind.i64 m] 45)).alloc (.cells #[.int .i64 0] 3)).heap.size ((((((((((w.alloc (Obj.cells #[Value.int IntKind.i64 r, Value.int IntKind.i64 m] 45)).alloc (Obj.cells #[Value.int IntKind.i64 s, Value.int IntKind.i64 n] 45)).alloc (Obj.cells #[Value.int IntKind.i64 0, Value.int IntKind.i64 0] 45)).alloc (.cells #[.bool false] 4)).alloc (Obj.cells #[Value.int IntKind.i64 r, Value.int IntKind.i64 m] 45)).alloc (Obj.cells #[Value.int IntKind.i64 s, Value.int IntKind.i64 n] 45)).drewN nq).alloc (.cells #[.int .i64 (lcmI m n)] 3)).alloc (Obj.cells #[Value.int IntKind.i64 r, Value.int IntKind.i64 m] 45)).alloc (.cells #[.int .i64 0] 3)) W0 := by
      rw [← hW0]
      repeat (first | exact Below.refl _ _ | assumption | refine Below.drew ?_ | refine bel_drewN ?_ _ | refine ba ?_ _ | refine bt2 ?_ (by assumption) | refine Below.setCell ?_ (by simp <;> omega) _)
    have qa : W0.cell? ⟨w.heap.size + 1 + 1 + 1 + 1 + 1 + 1 + 1 + 1, 0, none⟩ = some (.int .i64 0) := by simpa using kc h8 0
    clear h8
    have h9 : Below (((((((((((w.alloc (Obj.cells #[Value.int IntKind.i64 r, Value.int IntKind.i64 m] 45)).alloc (Obj.cells #[Value.int IntKind.i64 s, Value.int IntKind.i64 n] 45)).alloc (Obj.cells #[Value.int IntKind.i64 0, Value.int IntKind.i64 0] 45)).alloc (.cells #[.bool false] 4)).alloc (Obj.cells #[Value.int IntKind.i64 r, Value.int IntKind.i64 m] 45)).alloc (Obj.cells #[Value.int IntKind.i64 s, Value.int IntKind.i64 n] 45)).drewN nq).alloc (.cells #[.int .i64 (lcmI m n)] 3)).alloc (Obj.cells #[Value.int IntKind.i64 r, Value.int IntKind.i64 m] 45)).alloc (.cells #[.int .i64 0] 3)).alloc (.cells #[.int .i64 (lcmI m n)] 3)).heap.size (((((((((((w.alloc (Obj.cells #[Value.int IntKind.i64 r, Value.int IntKind.i64 m] 45)).alloc (Obj.cells #[Value.int IntKind.i64 s, Value.int IntKind.i64 n] 45)).alloc (Obj.cells #[Value.int IntKind.i64 0, Value.int IntKind.i64 0] 45)).alloc (.cells #[.bool false] 4)).alloc (Obj.cells #[Value.int IntKind.i64 r, Value.int IntKind.i64 m] 45)).alloc (Obj.cells #[Value.int IntKind.i64 s, Value.int IntKind.i64 n] 45)).drewN nq).alloc (.cells #[.int .i64 (lcmI m n)] 3)).alloc (Obj.cells #[Value.int IntKind.i64 r, Value.int IntKind.i64 m] 45)).alloc (.cells #[.int .i64 0] 3)).alloc (.cells #[.int .i64 (lcmI m n)] 3)) W0 := by
      rw [← hW0]
      repeat (first | exact Below.refl _ _ | assumption | refine Below.drew ?_ | refine bel_drewN ?_ _ | refine ba ?_ _ | refine bt2 ?_ (by assumption) | refine Below.setCell ?_ (by simp <;> omega) _)
    have qb : W0.cell? ⟨w.heap.size + 1 + 1 + 1 + 1 + 1 + 1 + 1 + 1 + 1, 0, none⟩ = some (.int .i64 (lcmI m n)) := by simpa using kc h9 0
    clear h9
    have hB0 : Below w.heap.size w W0 := by
      rw [← hW0]
      repeat (first | exact Below.refl _ _ | assumption | refine Below.drew ?_ | refine bel_drewN ?_ _ | refine ba ?_ _ | refine bt2 ?_ (by assumption) | refine Below.setCell ?_ (by simp <;> omega) _)
    rw [hW0]
    clear hW0
    generalize hM : lcmI m n = M at *
    have HM := Lib.hid hM
    clear hM
    have HSZ := Lib.hid hsz
    refine wpIn_rangeFunc_ownF rfl (by omega) (gf := 93) (lb := #[.pointer (some ⟨w.heap.size + 1 + 1 + 1 + 1 + 1 + 1 + 1, 0, none⟩), .pointer (some ⟨w.heap.size + 1 + 1 + 1 + 1 + 1 + 1 + 1 + 1, 0, none⟩), .pointer (some ⟨w.heap.size + 1 + 1 + 1 + 1 + 1 + 1 + 1 + 1 + 1, 0, none⟩)]) rfl trivial (enters_of Try.func93 (by kernel_rfl) rfl)
      (num_stops _ (by omega) (w.heap.size + 1 + 1 + 1 + 1 + 1 + 1 + 1) (w.heap.size + 1 + 1 + 1 + 1 + 1 + 1 + 1 + 1) (w.heap.size + 1 + 1 + 1 + 1 + 1 + 1 + 1 + 1 + 1) r m 0 M m1 m2 r1 r2 (by omega) (by omega) (by omega) (Below W0.heap.size) (fun W W' h p hp => h.cell (by rw [hsz]; omega)) W0 (by rw [hsz]; omega) (by rw [hsz]; omega) (by rw [hsz]; omega) q8 q9 qa qb) belowK_t (belowK_b (Nat.le_refl _)) (Below.refl _ _) (fun _ => rfl)
      (fun pre W => (∀ y ∈ pre, ¬ y % n = s) ∧ Below W0.heap.size W0 W)
      (fun c pre W => (c = .ret ∧ ∃ p x, pre = p ++ [x] ∧ x % n = s ∧ (∀ y ∈ p, ¬ y % n = s) ∧ W.cell? ⟨w.heap.size + 1 + 1, 0, none⟩ = some (.int .i64 x) ∧ W.cell? ⟨w.heap.size + 1 + 1, 1, none⟩ = some (.int .i64 M) ∧ W.cell? ⟨w.heap.size + 1 + 1 + 1, 0, none⟩ = some (.bool true)) ∧ Below w.heap.size w W)
      (OwnFrom.and (ownFrom_pure _ _) (ownFrom_below (Nat.le_refl _) (Nat.le_refl _)))
      (fun c => OwnFrom.and (Own.from (fun s A B row hs hg hr => by
        obtain ⟨h1, p, x, h2, h3, h4, h5, h6, h7⟩ := hs
        exact ⟨h1, p, x, h2, h3, h4, cell_kept h5 hg hr, cell_kept h6 hg hr, cell_kept h7 hg hr⟩) _) (ownFrom_below (Nat.le_refl _) (by rw [hsz]; omega)))
      ⟨by simp, Below.refl _ _⟩
      (fun x => { tmps := #[.agg #[.int .i64 r, .int .i64 m], .agg #[.int .i64 s, .int .i64 n], .pointer (some ⟨w.heap.size, 0, none⟩), .pointer (some ⟨w.heap.size + 1, 0, none⟩), .pointer (some ⟨w.heap.size + 1 + 1, 0, none⟩), .pointer (some ⟨w.heap.size + 1 + 1 + 1, 0, none⟩), .pointer (some ⟨w.heap.size + 1 + 1 + 1 + 1 + 1 + 1, 0, none⟩), .int .i64 x, .agg #[.int .i64 r, .int .i64 m], .bool true, .bool false, .bool false, .agg #[.int .i64 s, .int .i64 n], .bool true, .bool false, .bool false, undef, .pointer (some ⟨w.heap.size, 1, none⟩), .int .i64 m, .pointer (some ⟨w.heap.size + 1, 1, none⟩), .int .i64 n, .int .i64 M, .int .i64 M, .bool true, .bool false, undef, .agg #[.int .i64 r, .int .i64 m], .int .i64 M, .func (.func 93) #[] #[.pointer (some ⟨w.heap.size + 1 + 1 + 1 + 1 + 1 + 1 + 1, 0, none⟩), .pointer (some ⟨w.heap.size + 1 + 1 + 1 + 1 + 1 + 1 + 1 + 1, 0, none⟩), .pointer (some ⟨w.heap.size + 1 + 1 + 1 + 1 + 1 + 1 + 1 + 1 + 1, 0, none⟩)], .int .i64 x, undef, undef, undef, undef, undef, undef, undef], defers := [] }) ?assign ?body ?done ?stop
    case assign =>
      intro l x W K hK
      gi_wp2
      exact hK
    case body =>
      rintro l pre x W ⟨hp, hB⟩ _
      have e2 := (hB.cell (p := ⟨w.heap.size + 1, 0, none⟩) (by rw [HSZ.out]; dsimp only; omega)).trans q2
      have e3 := (hB.cell (p := ⟨w.heap.size + 1, 1, none⟩) (by rw [HSZ.out]; dsimp only; omega)).trans q3
      have e4 := (hB.cell (p := ⟨w.heap.size + 1 + 1, 0, none⟩) (by rw [HSZ.out]; dsimp only; omega)).trans q4
      have e5 := (hB.cell (p := ⟨w.heap.size + 1 + 1, 1, none⟩) (by rw [HSZ.out]; dsimp only; omega)).trans q5
      have e6 := (hB.cell (p := ⟨w.heap.size + 1 + 1 + 1, 0, none⟩) (by rw [HSZ.out]; dsimp only; omega)).trans q6
      have e7 := (hB.cell (p := ⟨w.heap.size + 1 + 1 + 1 + 1 + 1 + 1, 0, none⟩) (by rw [HSZ.out]; dsimp only; omega)).trans q7
      have g4 := (hB.frozen (p := ⟨w.heap.size + 1 + 1, 0, none⟩) (by rw [HSZ.out]; dsimp only; omega)).trans f4
      have g5 := (hB.frozen (p := ⟨w.heap.size + 1 + 1, 1, none⟩) (by rw [HSZ.out]; dsimp only; omega)).trans f5
      have g6 := (hB.frozen (p := ⟨w.heap.size + 1 + 1 + 1, 0, none⟩) (by rw [HSZ.out]; dsimp only; omega)).trans f6
      have hs9 : w.heap.size + 10 ≤ W.heap.size := by have := hB.size; rw [HSZ.out] at this; exact this
      have z1 : w.heap.size + 1 < W.heap.size := by omega
      have z2 : w.heap.size + 1 + 1 < W.heap.size := by omega
      have z3 : w.heap.size + 1 + 1 + 1 < W.heap.size := by omega
      have z6 : w.heap.size + 1 + 1 + 1 + 1 + 1 + 1 < W.heap.size := by omega
      have hbW := hB0.trans (hB.mono (by rw [HSZ.out]; omega))
      have HP := Lib.hid hp
      clear hp q2 q3 q4 q5 q6 q7 q8 q9 qa qb f4 f5 f6 hsz
      cases he : (x % n == s)
      · gi_wp2_with (refine ⟨trivial, ?_⟩; gi_at_call 85; refine (CallsIn.inRound l (callsIn_wide.2 (c_hasK s n x n1 n2 _))).mono ?_; rintro e w5 ⟨rfl, hb5, hk5⟩; have y4 := (hb5.cell (p := ⟨w.heap.size + 1 + 1, 0, none⟩) z2).trans e4; have y5 := (hb5.cell (p := ⟨w.heap.size + 1 + 1, 1, none⟩) z2).trans e5; have y6 := (hb5.cell (p := ⟨w.heap.size + 1 + 1 + 1, 0, none⟩) z3).trans e6; have y7 := (hb5.cell (p := ⟨w.heap.size + 1 + 1 + 1 + 1 + 1 + 1, 0, none⟩) z6).trans e7; have x4 := (hb5.frozen (p := ⟨w.heap.size + 1 + 1, 0, none⟩) z2).trans g4; have x5 := (hb5.frozen (p := ⟨w.heap.size + 1 + 1, 1, none⟩) z2).trans g5; have x6 := (hb5.frozen (p := ⟨w.heap.size + 1 + 1 + 1, 0, none⟩) z3).trans g6)
        refine ⟨hk5, hb5.mono hB.size, ?_, bt2 hB hb5⟩
        · intro y hy
          rcases List.mem_append.1 hy with h | h
          · exact HP.out y h
          · have : y = x := by simpa using h
            subst this
            simpa using he
      · gi_wp2_with (refine ⟨trivial, ?_⟩; gi_at_call 85; refine (CallsIn.inRound l (callsIn_wide.2 (c_hasK s n x n1 n2 _))).mono ?_; rintro e w5 ⟨rfl, hb5, hk5⟩; have y4 := (hb5.cell (p := ⟨w.heap.size + 1 + 1, 0, none⟩) z2).trans e4; have y5 := (hb5.cell (p := ⟨w.heap.size + 1 + 1, 1, none⟩) z2).trans e5; have y6 := (hb5.cell (p := ⟨w.heap.size + 1 + 1 + 1, 0, none⟩) z3).trans e6; have y7 := (hb5.cell (p := ⟨w.heap.size + 1 + 1 + 1 + 1 + 1 + 1, 0, none⟩) z6).trans e7; have x4 := (hb5.frozen (p := ⟨w.heap.size + 1 + 1, 0, none⟩) z2).trans g4; have x5 := (hb5.frozen (p := ⟨w.heap.size + 1 + 1, 1, none⟩) z2).trans g5; have x6 := (hb5.frozen (p := ⟨w.heap.size + 1 + 1 + 1, 0, none⟩) z3).trans g6)
        have hbx := bt2 hbW hb5
        refine ⟨((hk5.trans (KeepsOthers.setCell _ _ _)).trans (KeepsOthers.setCell _ _ _)).trans (KeepsOthers.setCell _ _ _), ⟨rfl, pre, x, rfl, by simpa using he, HP.out, set_miss (by simp) (set_miss (by simp) (set_hit y4)), set_miss (by simp) (set_hit (set_miss (by simp) y5)), set_hit (set_miss (by simp) (set_miss (by simp) y6))⟩, ?_⟩
        repeat (first | exact Below.refl _ _ | assumption | refine Below.drew ?_ | refine bel_drewN ?_ _ | refine ba ?_ _ | refine bt2 ?_ (by assumption) | refine Below.setCell ?_ (by simp <;> omega) _)
    case done =>
      rintro D ys W hD hS ⟨hp, hB⟩ hK
      have hf := met_all m1 r1 r2 HM.out hl hS hp
      have HF := Lib.hid hf
      have e4 := (hB.cell (p := ⟨w.heap.size + 1 + 1, 0, none⟩) (by rw [HSZ.out]; dsimp only; omega)).trans q4
      have e5 := (hB.cell (p := ⟨w.heap.size + 1 + 1, 1, none⟩) (by rw [HSZ.out]; dsimp only; omega)).trans q5
      have e6 := (hB.cell (p := ⟨w.heap.size + 1 + 1 + 1, 0, none⟩) (by rw [HSZ.out]; dsimp only; omega)).trans q6
      have g4 := (hB.frozen (p := ⟨w.heap.size + 1 + 1, 0, none⟩) (by rw [HSZ.out]; dsimp only; omega)).trans f4
      have g5 := (hB.frozen (p := ⟨w.heap.size + 1 + 1, 1, none⟩) (by rw [HSZ.out]; dsimp only; omega)).trans f5
      have g6 := (hB.frozen (p := ⟨w.heap.size + 1 + 1 + 1, 0, none⟩) (by rw [HSZ.out]; dsimp only; omega)).trans f6
      have hbW := hB0.trans (hB.mono (by rw [HSZ.out]; omega))
      have hDw : w.heap.size ≤ D := by rw [HSZ.out] at hD; omega
      clear hf hp q2 q3 q4 q5 q6 q7 q8 q9 qa qb f4 f5 f6 hsz
      gi_wp2
      have hK' := (((KeepsOthers.setCell W ⟨w.heap.size + 1 + 1, 0, none⟩ (.int .i64 0)).trans (KeepsOthers.setCell _ ⟨w.heap.size + 1 + 1, 1, none⟩ (.int .i64 0))).trans (KeepsOthers.setCell _ ⟨w.heap.size + 1 + 1 + 1, 0, none⟩ (.bool false))).same D _ hK rfl
      refine ⟨by simp, .inl ⟨_, _, rfl, run_takeDeferred hK', ?_⟩⟩
      have d0 : (((W.setCell ⟨w.heap.size + 1 + 1, 0, none⟩ (.int .i64 0)).setCell ⟨w.heap.size + 1 + 1, 1, none⟩ (.int .i64 0)).setCell ⟨w.heap.size + 1 + 1 + 1, 0, none⟩ (.bool false)).cell? ⟨w.heap.size + 1 + 1, 0, none⟩ = some (.int .i64 0) := by
        exact set_miss (by simp) (set_miss (by simp) (set_hit e4))
      have d1 : (((W.setCell ⟨w.heap.size + 1 + 1, 0, none⟩ (.int .i64 0)).setCell ⟨w.heap.size + 1 + 1, 1, none⟩ (.int .i64 0)).setCell ⟨w.heap.size + 1 + 1 + 1, 0, none⟩ (.bool false)).cell? ⟨w.heap.size + 1 + 1, 1, none⟩ = some (.int .i64 0) := by
        exact set_miss (by simp) (set_hit (set_miss (by simp) e5))
      have d2 : (((W.setCell ⟨w.heap.size + 1 + 1, 0, none⟩ (.int .i64 0)).setCell ⟨w.heap.size + 1 + 1, 1, none⟩ (.int .i64 0)).setCell ⟨w.heap.size + 1 + 1 + 1, 0, none⟩ (.bool false)).cell? ⟨w.heap.size + 1 + 1 + 1, 0, none⟩ = some (.bool false) := by
        exact set_hit (set_miss (by simp) (set_miss (by simp) e6))
      have u0 := cell_kept d0 (grownBy_putObj' _ D (.deferred none)) (fun r e => by cases e; exact ⟨_, hK', rfl⟩)
      have u1 := cell_kept d1 (grownBy_putObj' _ D (.deferred none)) (fun r e => by cases e; exact ⟨_, hK', rfl⟩)
      have u2 := cell_kept d2 (grownBy_putObj' _ D (.deferred none)) (fun r e => by cases e; exact ⟨_, hK', rfl⟩)
      refine ⟨.tuple #[.agg #[.int .i64 0, .int .i64 0], .bool false], ?_, by rw [HF.out]; rfl, (((hbW.setCell (by simp <;> omega) _).setCell (by simp <;> omega) _).setCell (by simp <;> omega) _).trans (belowK_b (w := w) (Nat.le_refl _) _ D _ _ hDw hK' rfl rfl)⟩
      simp [results, Try.f66, go_sem, u0, u1, u2]
    case stop =>
      rintro D c pre W hD hpre ⟨⟨rfl, p, x, hpp, hx, hp, c0, c1, c2⟩, hB⟩ hK
      obtain ⟨hb1, hb2⟩ := met_part m1 r1 r2 HM.out hl hpre hpp hx hp
      have HB1 := Lib.hid hb1
      have HB2 := Lib.hid hb2
      have hDw : w.heap.size ≤ D := by rw [HSZ.out] at hD; omega
      clear hb1 hb2 hpp hx hp q2 q3 q4 q5 q6 q7 q8 q9 qa qb f4 f5 f6 hsz
      gi_wp2
      refine ⟨by simp, .inl ⟨_, _, rfl, run_takeDeferred hK, ?_⟩⟩
      have u0 := cell_kept c0 (grownBy_putObj' _ D (.deferred none)) (fun r e => by cases e; exact ⟨_, hK, rfl⟩)
      have u1 := cell_kept c1 (grownBy_putObj' _ D (.deferred none)) (fun r e => by cases e; exact ⟨_, hK, rfl⟩)
      have u2 := cell_kept c2 (grownBy_putObj' _ D (.deferred none)) (fun r e => by cases e; exact ⟨_, hK, rfl⟩)
      refine ⟨.tuple #[.agg #[.int .i64 x, .int .i64 M], .bool true], ?_, by rw [HB1.out, HB2.out, HM.out]; rfl, hB.trans (belowK_b (w := w) (Nat.le_refl _) W D _ _ hDw hK rfl rfl)⟩
      simp [results, Try.f66, go_sem, u0, u1, u2]
  · have hmod : modB (lcmI m n) = false := modB_f (by omega)
    have hf : metB m s n r = false := by simp [metB, hl]
    simp only [hf, selI_f]
    clear hf
    go_enter Try.func66, Try.ntmps66
    go_wp2_with (first | (go_at_call 70; refine (c_valid _ _ _).mono ?_; rintro e w1 ⟨rfl, rfl⟩) | (go_at_call 71; refine (c_commonMultiple m n m1 m2 n1 n2 _).mono ?_; rintro e w1 ⟨nq, rfl, rfl⟩) | (go_at_call 72; refine (c_inModuli _ _).mono ?_; rintro e w1 ⟨rfl, rfl⟩))
    refine bodyPost_ret (v := .tuple #[.agg #[.int .i64 0, .int .i64 0], .bool false]) (by simp [results, Try.results66, go_sem]) rfl ⟨rfl, ?_⟩
    repeat (first | exact Below.refl _ _ | assumption | refine Below.drew ?_ | refine bel_drewN ?_ _ | refine ba ?_ _ | refine bt2 ?_ (by assumption) | refine Below.setCell ?_ (by simp <;> omega) _)
end Go.Proofs.Ytelgmmnjndinhaa
