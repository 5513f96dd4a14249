/- Contracts of the drawn classes and numbers: which classes can be drawn, and that a draw changes the reader alone. -/
import Derived.Test.YtenghhoofpjcaaaD1
import Derived.Deep.Upon
namespace Go.Proofs.Ytenghhoofpjcaaa
open Go.RowKit
/-- all that was there is as it was, but block B -/
structure Oth (B : Nat) (w w' : World) : Prop where
  os : w'.os = w.os
  tape : w'.tape = w.tape
  output : w'.output = w.output
  size : w.heap.size ≤ w'.heap.size
  block : ∀ k, k < w.heap.size → k ≠ B → w'.heap[k]? = w.heap[k]?
theorem Oth.refl (B : Nat) (w : World) : Oth B w w := ⟨rfl, rfl, rfl, Nat.le_refl _, fun _ _ _ => rfl⟩
theorem Oth.trans {B : Nat} {a b c : World} (h : Oth B a b) (k : Oth B b c) : Oth B a c :=
  ⟨k.os.trans h.os, k.tape.trans h.tape, k.output.trans h.output, Nat.le_trans h.size k.size, fun i hi hn => (k.block i (Nat.lt_of_lt_of_le hi h.size) hn).trans (h.block i hi hn)⟩
theorem Oth.of_below {B : Nat} {w w' : World} (h : Below w.heap.size w w') : Oth B w w' := ⟨h.os, h.tape, h.output, h.size, fun k hk _ => h.block k hk⟩
theorem Oth.alloc {B : Nat} {a w : World} (h : Oth B a w) (o : Obj) : Oth B a (w.alloc o) := h.trans (Oth.of_below (ba (Below.refl _ _) o))
theorem Oth.drewN {B : Nat} {a w : World} (h : Oth B a w) (n : Nat) : Oth B a (w.drewN n) := h.trans ⟨rfl, rfl, rfl, Nat.le_refl _, fun _ _ _ => rfl⟩
theorem Oth.drew {B : Nat} {a w : World} (h : Oth B a w) : Oth B a w.drew := h.trans ⟨rfl, rfl, rfl, Nat.le_refl _, fun _ _ _ => rfl⟩
theorem Oth.setB {B : Nat} {a w : World} (h : Oth B a w) (i : Nat) (v : Value) : Oth B a (w.setCell ⟨B, i, none⟩ v) :=
  h.trans ⟨rfl, rfl, rfl, by simp [World.setCell], fun k _ hn => Below.heap_setCell _ _ _ _ hn⟩
/-- a store into a block that is newer than the first world -/
theorem Oth.setNew {B : Nat} {a w : World} (h : Oth B a w) {p : Addr} (hp : a.heap.size ≤ p.block) (v : Value) : Oth B a (w.setCell p v) :=
  ⟨h.os, h.tape, h.output, by simp [World.setCell]; exact h.size, fun k hk hn => (Below.heap_setCell _ _ _ _ (by omega)).trans (h.block k hk hn)⟩
theorem Oth.cell {B : Nat} {w w' : World} (h : Oth B w w') {p : Addr} (hp : p.block < w.heap.size) (hn : p.block ≠ B) : w'.cell? p = w.cell? p := World.cell?_of_block (w := w) (h.block p.block hp hn)
theorem Oth.frozen {B : Nat} {w w' : World} (h : Oth B w w') {p : Addr} (hp : p.block < w.heap.size) (hn : p.block ≠ B) : w'.frozen? p = w.frozen? p := World.frozen?_of_block (w := w) (h.block p.block hp hn)
theorem Oth.below {B b0 : Nat} {w w' : World} (h : Oth B w w') (hb : b0 ≤ B) (hs : b0 ≤ w.heap.size) : Below b0 w w' := ⟨h.os, h.tape, h.output, h.size, fun k hk => h.block k (by omega) (by omega)⟩
theorem Rd.lt {b0 : Nat} {w : World} {B : Nat} {s : Option Addr} {len p : Nat} (h : Rd b0 w B s len p) : B < w.heap.size := World.block_lt_of_cell? w _ h.c1
theorem Bytes.keep {w w' : World} {s : Option Addr} {len b0 : Nat} (h : Bytes w s len b0) (k : ∀ b i, b < b0 → w'.cell? ⟨b, i, none⟩ = w.cell? ⟨b, i, none⟩) : Bytes w' s len b0 := by
  rcases h with h | ⟨b, off, e, hb, z, hz⟩
  · exact .inl h
  · exact .inr ⟨b, off, e, hb, z, fun i hi => ⟨(k b _ hb).trans (hz i hi).1, (hz i hi).2⟩⟩
/-- a reader is as it was where its own block is, and what is old -/
theorem Rd.keep {b0 : Nat} {w w' : World} {B : Nat} {s : Option Addr} {len p : Nat} (h : Rd b0 w B s len p) (hk : ∀ k, k ≤ B → w'.heap[k]? = w.heap[k]?) : Rd b0 w' B s len p := by
  have e : ∀ (b i : Nat), b ≤ B → w'.cell? ⟨b, i, none⟩ = w.cell? ⟨b, i, none⟩ := fun b i hb => World.cell?_of_block (w := w) (hk b hb)
  have f : w'.frozen? ⟨B, 1, none⟩ = w.frozen? ⟨B, 1, none⟩ := World.frozen?_of_block (w := w) (hk B (Nat.le_refl _))
  obtain ⟨cap, c0⟩ := h.c0
  exact ⟨⟨cap, (e _ _ (Nat.le_refl _)).trans c0⟩, (e _ _ (Nat.le_refl _)).trans h.c1, f.trans h.fz, h.bt.keep fun b i hb => e b i (by have := h.le; omega), h.le, h.hl, h.hp⟩
theorem Rd.below {b0 : Nat} {w w' : World} {B : Nat} {s : Option Addr} {len p : Nat} (h : Rd b0 w B s len p) (hb : Below w.heap.size w w') : Rd b0 w' B s len p :=
  h.keep fun k hk => hb.block k (by have := h.lt; omega)
theorem Rd.alloc {b0 : Nat} {w : World} {B : Nat} {s : Option Addr} {len p : Nat} (h : Rd b0 w B s len p) (o : Obj) : Rd b0 (w.alloc o) B s len p := h.below (ba (Below.refl _ _) o)
theorem Rd.pick {b0 : Nat} {w : World} {B : Nat} {s : Option Addr} {len p : Nat} (h : Rd b0 w B s len p) (hp : p < 1000000) (nq : Nat) :
    Rd b0 ((w.setCell ⟨B, 1, none⟩ (.int .i64 ((p : Int) + 1))).drewN nq) B s len (p + 1) := by
  obtain ⟨cap, c0⟩ := h.c0
  have e : ∀ a : Addr, ((w.setCell ⟨B, 1, none⟩ (.int .i64 ((p : Int) + 1))).drewN nq).cell? a = (w.setCell ⟨B, 1, none⟩ (.int .i64 ((p : Int) + 1))).cell? a := fun _ => rfl
  have f : ∀ a : Addr, ((w.setCell ⟨B, 1, none⟩ (.int .i64 ((p : Int) + 1))).drewN nq).frozen? a = (w.setCell ⟨B, 1, none⟩ (.int .i64 ((p : Int) + 1))).frozen? a := fun _ => rfl
  refine ⟨⟨cap, ?_⟩, ?_, ?_, h.bt.keep fun b i hb => ?_, h.le, h.hl, by omega⟩
  · rw [e, cell_other (by simp)]; exact c0
  · rw [e, World.cell?_setCell_same' _ _ _ (by rw [h.c1]; rfl)]; simp
  · rw [f]; simpa using h.fz
  · have := h.le
    rw [e, cell_other (by simp <;> omega)]
def PickR (n : Int) (b0 B : Nat) (s : Option Addr) (len p : Nat) (w : World) (e : Ending) (w' : World) : Prop :=
  ∃ v : Int, 0 ≤ v ∧ v < n ∧ e = .returned (.int .i64 v) ∧ Rd b0 w' B s len (p + 1) ∧ Oth B w w'
theorem c_pickR (n : Int) (hn : 1 ≤ n) (hn2 : n ≤ 1000000) {b0 : Nat} {w : World} {B : Nat} {s : Option Addr} {len p : Nat} (h : Rd b0 w B s len p) (hp : p < 1000000) :
    Calls Try.prog 54 #[.pointer (some ⟨B, 0, none⟩), .int .i64 n] w (PickR n b0 B s len p w) :=
  (c_pick n hn hn2 b0 w B s len p h).mono fun _ _ ⟨v, nq, h1, h2, h3, h4⟩ => ⟨v, h1, h2, h3, h4 ▸ h.pick hp nq, h4 ▸ ((Oth.refl B w).setB _ _).drewN _⟩
/-- a block that lies ahead of a draw, and is not the reader's, reads on -/
theorem oc {B : Nat} {w w' : World} {cs : Array Value} {t : TypeId} (h : Oth B (w.alloc (.cells cs t)) w') (hB : B < w.heap.size) (i : Nat) : w'.cell? ⟨w.heap.size, i, none⟩ = cs[i]? := by
  rw [h.cell (p := ⟨w.heap.size, i, none⟩) (by simp) (by simp; omega)]
  simp
theorem of {B : Nat} {w w' : World} {cs : Array Value} {t : TypeId} (h : Oth B (w.alloc (.cells cs t)) w') (hB : B < w.heap.size) (i : Nat) : w'.frozen? ⟨w.heap.size, i, none⟩ = false := by
  rw [h.frozen (p := ⟨w.heap.size, i, none⟩) (by simp) (by simp; omega)]
  simp
theorem oz {B : Nat} {w w' : World} {o : Obj} (h : Oth B (w.alloc o) w') : w.heap.size < w'.heap.size := by
  have := h.size; simp at this; omega
theorem Rd.drew {b0 : Nat} {w : World} {B : Nat} {s : Option Addr} {len p : Nat} (h : Rd b0 w B s len p) : Rd b0 w.drew B s len p := h.keep fun _ _ => rfl
theorem Rd.drewN {b0 : Nat} {w : World} {B : Nat} {s : Option Addr} {len p : Nat} (h : Rd b0 w B s len p) (n : Nat) : Rd b0 (w.drewN n) B s len p := h.keep fun _ _ => rfl
theorem Rd.setNew {b0 : Nat} {w : World} {B : Nat} {s : Option Addr} {len p : Nat} (h : Rd b0 w B s len p) {a : Addr} (ha : B < a.block) (v : Value) : Rd b0 (w.setCell a v) B s len p :=
  h.keep fun k hk => Below.heap_setCell _ _ _ _ (by omega)
/-- which classes are drawn: a class, or what is none with the modulus as its rest -/
def Drawn (b0 B : Nat) (s : Option Addr) (len p : Nat) (w : World) (e : Ending) (w' : World) : Prop :=
  ∃ (r m : Int) (p' : Nat), 1 ≤ m ∧ m ≤ 24 ∧ 0 ≤ r ∧ r ≤ m ∧ e = .returned (.agg #[.int .i64 r, .int .i64 m]) ∧ Rd b0 w' B s len p' ∧ p' ≤ p + 5 ∧ Oth B w w'
theorem c_l91Class {b0 : Nat} {w : World} {B : Nat} {s : Option Addr} {len p : Nat} (h : Rd b0 w B s len p) (hp : p + 5 < 1000000) :
    Calls Try.prog 61 #[.pointer (some ⟨B, 0, none⟩)] w (Drawn b0 B s len p w) := by
  have hB := h.lt
  go_enter Try.func61, Try.ntmps61
  go_wp2_with fail
  refine (c_pickR 24 (by omega) (by omega) (h.alloc _) (by omega)).mono ?_
  rintro e w2 ⟨v, v1, v2, rfl, hR2, hO2⟩
  go_wp2_with fail
  refine (c_pickR 3 (by omega) (by omega) hR2 (by omega)).mono ?_
  rintro e w3 ⟨u, u1, u2, rfl, hR3, hO3⟩
  have hO3' := hO2.trans hO3
  clear hO2 hO3 hR2
  by_cases hu : 0 < u
  · go_wp2_with fail
    refine (c_pickR 6 (by omega) (by omega) (hR3.alloc _) (by omega)).mono ?_
    rintro e w4 ⟨x, x1, x2, rfl, hR, hO4⟩
    have hB3 := hR3.lt
    obtain ⟨M, M1, M2, hc⟩ : ∃ M : Int, 1 ≤ M ∧ M ≤ 12 ∧ w4.cell? ⟨w3.heap.size, x.toNat, none⟩ = some (.int .i64 M) := by
      have hx : x = 0 ∨ x = 1 ∨ x = 2 ∨ x = 3 ∨ x = 4 ∨ x = 5 := by omega
      rcases hx with rfl | rfl | rfl | rfl | rfl | rfl
      · exact ⟨2, by omega, by omega, oc hO4 hB3 0⟩
      · exact ⟨3, by omega, by omega, oc hO4 hB3 1⟩
      · exact ⟨4, by omega, by omega, oc hO4 hB3 2⟩
      · exact ⟨6, by omega, by omega, oc hO4 hB3 3⟩
      · exact ⟨8, by omega, by omega, oc hO4 hB3 4⟩
      · exact ⟨12, by omega, by omega, oc hO4 hB3 5⟩
    have hO := (hO3'.alloc _).trans hO4
    clear hO3' hO4 hR3
    go_wp2_with fail
    refine (c_pickR 40 (by omega) (by omega) hR (by omega)).mono ?_
    rintro e w5 ⟨y, y1, y2, rfl, hR5, hO5⟩
    have hO5' := hO.trans hO5
    clear hO hO5 hR
    cases hy : (y == 0)
    · go_wp2_with fail
      refine (c_pickR M (by omega) (by omega) hR5 (by omega)).mono ?_
      rintro e w6 ⟨r, r1, r2, rfl, hR6, hO6⟩
      have hO6' := hO5'.trans hO6
      have k0 : w6.cell? ⟨w.heap.size, 0, none⟩ = some _ := oc hO6' hB 0
      have k1 : w6.cell? ⟨w.heap.size, 1, none⟩ = some _ := oc hO6' hB 1
      have f0 := of hO6' hB 0
      have f1 := of hO6' hB 1
      go_wp2
      refine bodyPost_ret (v := .agg #[.int .i64 r, .int .i64 (M)]) (by simp [results, Try.results61, go_sem, k0, k1]) rfl ⟨r, M, _, by omega, by omega, by omega, by omega, rfl, (hR6.setNew (by simp <;> omega) _).setNew (by simp <;> omega) _, by omega, (((Oth.refl B w).alloc _).trans hO6').setNew (by simp) _ |>.setNew (by simp) _⟩
    · have k0 : w5.cell? ⟨w.heap.size, 0, none⟩ = some _ := oc hO5' hB 0
      have k1 : w5.cell? ⟨w.heap.size, 1, none⟩ = some _ := oc hO5' hB 1
      have f0 := of hO5' hB 0
      have f1 := of hO5' hB 1
      go_wp2
      refine bodyPost_ret (v := .agg #[.int .i64 (M), .int .i64 (M)]) (by simp [results, Try.results61, go_sem, k0, k1]) rfl ⟨M, M, _, by omega, by omega, by omega, by omega, rfl, (hR5.setNew (by simp <;> omega) _).setNew (by simp <;> omega) _, by omega, (((Oth.refl B w).alloc _).trans hO5').setNew (by simp) _ |>.setNew (by simp) _⟩
  · have hO := hO3'
    have hR := hR3
    clear hO3' hR3
    go_wp2_with fail
    refine (c_pickR 40 (by omega) (by omega) hR (by omega)).mono ?_
    rintro e w5 ⟨y, y1, y2, rfl, hR5, hO5⟩
    have hO5' := hO.trans hO5
    clear hO hO5 hR
    cases hy : (y == 0)
    · go_wp2_with fail
      refine (c_pickR (1 + v) (by omega) (by omega) hR5 (by omega)).mono ?_
      rintro e w6 ⟨r, r1, r2, rfl, hR6, hO6⟩
      have hO6' := hO5'.trans hO6
      have k0 : w6.cell? ⟨w.heap.size, 0, none⟩ = some _ := oc hO6' hB 0
      have k1 : w6.cell? ⟨w.heap.size, 1, none⟩ = some _ := oc hO6' hB 1
      have f0 := of hO6' hB 0
      have f1 := of hO6' hB 1
      go_wp2
      refine bodyPost_ret (v := .agg #[.int .i64 r, .int .i64 (1 + v)]) (by simp [results, Try.results61, go_sem, k0, k1]) rfl ⟨r, 1 + v, _, by omega, by omega, by omega, by omega, rfl, (hR6.setNew (by simp <;> omega) _).setNew (by simp <;> omega) _, by omega, (((Oth.refl B w).alloc _).trans hO6').setNew (by simp) _ |>.setNew (by simp) _⟩
    · have k0 : w5.cell? ⟨w.heap.size, 0, none⟩ = some _ := oc hO5' hB 0
      have k1 : w5.cell? ⟨w.heap.size, 1, none⟩ = some _ := oc hO5' hB 1
      have f0 := of hO5' hB 0
      have f1 := of hO5' hB 1
      go_wp2
      refine bodyPost_ret (v := .agg #[.int .i64 (1 + v), .int .i64 (1 + v)]) (by simp [results, Try.results61, go_sem, k0, k1]) rfl ⟨1 + v, 1 + v, _, by omega, by omega, by omega, by omega, rfl, (hR5.setNew (by simp <;> omega) _).setNew (by simp <;> omega) _, by omega, (((Oth.refl B w).alloc _).trans hO5').setNew (by simp) _ |>.setNew (by simp) _⟩
end Go.Proofs.Ytenghhoofpjcaaa
