/- Contracts of the reader of codes, of which the drawn inputs are made. -/
import Derived.Test.YtgdpebnnmklbjaaC1
import Derived.Laws.BitsLemmas
import Derived.RegionTactic
import Derived.BigRegion
import Derived.Deep.Upon
import Derived.Deep.RegionWith
namespace Go.Proofs.Ytgdpebnnmklbjaa
open Go.RowKit
theorem xor_nn (a b : Int) (h1 : 0 ≤ a) (h2 : a < 2 ^ 62) (h3 : 0 ≤ b) (h4 : b < 2 ^ 62) : 0 ≤ bits .xor .i64 a b := by
  obtain ⟨x, rfl⟩ := Int.eq_ofNat_of_zero_le h1
  obtain ⟨y, rfl⟩ := Int.eq_ofNat_of_zero_le h3
  have hx : x < 2 ^ 62 := by omega
  have hy : y < 2 ^ 62 := by omega
  have hx' : x % 2 ^ 64 = x := Nat.mod_eq_of_lt (by omega)
  have hy' : y % 2 ^ 64 = y := Nat.mod_eq_of_lt (by omega)
  have hz : x ^^^ y < 2 ^ 62 := Nat.xor_lt_two_pow hx hy
  simp only [bits, BitVec.ofInt_natCast, BitVec.toNat_xor, BitVec.toNat_ofNat]
  simp only [IntKind.bits, hx', hy']
  rw [IntWalk.i64_in _ (by omega)]
  omega
/-- the bytes of a code: read where the length says, and old -/
def Bytes (w : World) (s : Option Addr) (len : Nat) (b0 : Nat) : Prop :=
  len = 0 ∨ ∃ b off, s = some ⟨b, off, none⟩ ∧ b < b0 ∧ ∃ z : Nat → Int, ∀ i, i < len → w.cell? ⟨b, off + i, none⟩ = some (.int .u8 (z i)) ∧ 0 ≤ z i ∧ z i ≤ 255
/-- a reader at block B: its code, its place -/
structure Rd (b0 : Nat) (w : World) (B : Nat) (s : Option Addr) (len : Nat) (p : Nat) : Prop where
  c0 : ∃ cap, w.cell? ⟨B, 0, none⟩ = some (.slice s len cap)
  c1 : w.cell? ⟨B, 1, none⟩ = some (.int .i64 (p : Int))
  fz : w.frozen? ⟨B, 1, none⟩ = false
  bt : Bytes w s len b0
  le : b0 ≤ B
  hl : len ≤ 2000
  hp : p ≤ 1000000
def PickPost (n : Int) (B p : Nat) (w : World) (e : Ending) (w' : World) : Prop :=
  ∃ (v : Int) (nq : Nat), 0 ≤ v ∧ v < n ∧ e = .returned (.int .i64 v) ∧ (w.setCell ⟨B, 1, none⟩ (.int .i64 ((p : Int) + 1))).drewN nq = w'
theorem c_pick0 (n : Int) (hn : 1 ≤ n) (hn2 : n ≤ 1000000) (b0 : Nat) (w : World) (B : Nat) (s : Option Addr) (p : Nat) (h : Rd b0 w B s 0 p) :
    Calls Try.prog 71 #[.pointer (some ⟨B, 0, none⟩), .int .i64 n] w (PickPost n B p w) := by
  obtain ⟨⟨cap, c0⟩, c1, fz, bt, le, hl, hp⟩ := h
  have c0' : (w.setCell ⟨B, 1, none⟩ (.int .i64 ((p : Int) + 1))).cell? ⟨B, 0, none⟩ = some (.slice s 0 cap) := by
    rw [cell_other (by simp)]; exact c0
  go_enter Try.func71, Try.ntmps71
  go_wp2
  go_ret
  exact ⟨0, 0, by omega, by omega, rfl, rfl⟩
theorem c_pick1 (n : Int) (hn : 1 ≤ n) (hn2 : n ≤ 1000000) (b0 : Nat) (w : World) (B : Nat) (s : Option Addr) (len p : Nat) (h : Rd b0 w B s len p) (hlt : p < len) :
    Calls Try.prog 71 #[.pointer (some ⟨B, 0, none⟩), .int .i64 n] w (PickPost n B p w) := by
  obtain ⟨⟨cap, c0⟩, c1, fz, bt, le, hl, hp⟩ := h
  have c0' : (w.setCell ⟨B, 1, none⟩ (.int .i64 ((p : Int) + 1))).cell? ⟨B, 0, none⟩ = some (.slice s len cap) := by
    rw [cell_other (by simp)]; exact c0
  rcases bt with h0 | ⟨b, off, rfl, hb, z, hz⟩
  · omega
  obtain ⟨z1, z2, z3⟩ := hz p hlt
  have hbB : b ≠ B := by omega
  have z1' : (w.setCell ⟨B, 1, none⟩ (.int .i64 ((p : Int) + 1))).cell? ⟨b, off + p, none⟩ = some (.int .u8 (z p)) := by
    rw [cell_other (by simp)]; exact z1
  have hm := emod_bd (z p) n hn
  have hne : ((len : Int) == 0) = false := by simp; omega
  go_enter Try.func71, Try.ntmps71
  go_wp2
  go_ret
  exact ⟨z p % n, 0, hm.1, hm.2, rfl, rfl⟩
theorem c_pick2 (n : Int) (hn : 1 ≤ n) (hn2 : n ≤ 1000000) (b0 : Nat) (w : World) (B : Nat) (s : Option Addr) (len p : Nat) (h : Rd b0 w B s len p) (hl0 : 0 < len) (hge : len ≤ p) :
    Calls Try.prog 71 #[.pointer (some ⟨B, 0, none⟩), .int .i64 n] w (PickPost n B p w) := by
  obtain ⟨⟨cap, c0⟩, c1, fz, bt, le, hl, hp⟩ := h
  have c0' : (w.setCell ⟨B, 1, none⟩ (.int .i64 ((p : Int) + 1))).cell? ⟨B, 0, none⟩ = some (.slice s len cap) := by
    rw [cell_other (by simp)]; exact c0
  rcases bt with h0 | ⟨b, off, rfl, hb, z, hz⟩
  · omega
  obtain ⟨z1, z2, z3⟩ := hz (p % len) (Nat.mod_lt _ hl0)
  obtain ⟨y1, y2, y3⟩ := hz ((p * 7 + 3) % len) (Nat.mod_lt _ hl0)
  have hbB : b ≠ B := by omega
  have z1' : (w.setCell ⟨B, 1, none⟩ (.int .i64 ((p : Int) + 1))).cell? ⟨b, off + p % len, none⟩ = some (.int .u8 (z (p % len))) := by
    rw [cell_other (by simp)]; exact z1
  have y1' : (w.setCell ⟨B, 1, none⟩ (.int .i64 ((p : Int) + 1))).cell? ⟨b, off + (p * 7 + 3) % len, none⟩ = some (.int .u8 (z ((p * 7 + 3) % len))) := by
    rw [cell_other (by simp)]; exact y1
  have hne : ((len : Int) == 0) = false := by simp; omega
  clear hz hb z1 y1
  generalize hZ : z (p % len) = Z at *
  generalize hY : z ((p * 7 + 3) % len) = Y at *
  clear hZ hY
  have hl0' : (0 : Int) < (len : Int) := by omega
  have hi1 : 0 ≤ (p : Int) % (len : Int) ∧ (p : Int) % (len : Int) < (len : Int) := emod_bd _ _ (by omega)
  have hi2 : 0 ≤ ((p : Int) * 7 + 3) % (len : Int) ∧ ((p : Int) * 7 + 3) % (len : Int) < (len : Int) := emod_bd _ _ (by omega)
  have hq : 0 ≤ (p : Int) / (len : Int) ∧ (p : Int) / (len : Int) ≤ (p : Int) := quo_bd (by omega) (by omega)
  have hX : 0 ≤ Z * 131 + Y * 1117 + (p : Int) * 29 + (p : Int) / (len : Int) * 53 ∧ Z * 131 + Y * 1117 + (p : Int) * 29 + (p : Int) / (len : Int) * 53 < 2 ^ 40 := by omega
  have hx := xor_nn (Z * 131 + Y * 1117 + (p : Int) * 29 + (p : Int) / (len : Int) * 53) ((Z * 131 + Y * 1117 + (p : Int) * 29 + (p : Int) / (len : Int) * 53) / 64) (by omega) (by omega) (by omega) (by omega)
  have hm := emod_bd (bits .xor .i64 (Z * 131 + Y * 1117 + (p : Int) * 29 + (p : Int) / (len : Int) * 53) ((Z * 131 + Y * 1117 + (p : Int) * 29 + (p : Int) / (len : Int) * 53) / 64)) n hn
  go_enter Try.func71, Try.ntmps71
  go_wp2
  go_quiet (fail)
  go_wp2
  go_ret
  exact ⟨_, nq, hm.1, hm.2, rfl, rfl⟩
/-- the next number of a code -/
theorem c_pick (n : Int) (hn : 1 ≤ n) (hn2 : n ≤ 1000000) (b0 : Nat) (w : World) (B : Nat) (s : Option Addr) (len p : Nat) (h : Rd b0 w B s len p) :
    Calls Try.prog 71 #[.pointer (some ⟨B, 0, none⟩), .int .i64 n] w (PickPost n B p w) := by
  rcases Nat.eq_zero_or_pos len with rfl | h0
  · exact c_pick0 n hn hn2 b0 w B s p h
  · rcases Nat.lt_or_ge p len with h1 | h1
    · exact c_pick1 n hn hn2 b0 w B s len p h h1
    · exact c_pick2 n hn hn2 b0 w B s len p h h0 h1
end Go.Proofs.Ytgdpebnnmklbjaa
namespace Go.Proofs.Ytgdpebnnmklbjaa
open Go.RowKit
/-- all that was there is as it was, but block B -/
structure Oth (B : Nat) (w w' : World) : Prop where
  os : w'.os = w.os
  tape : w'.tape = w.tape
  output : w'.output = w.output
  size : w.heap.size ≤ w'.heap.size
  block : ∀ k, k < w.heap.size → k ≠ B → w'.heap[k]? = w.heap[k]?
theorem Oth.refl (B : Nat) (w : World) : Oth B w w := ⟨rfl, rfl, rfl, Nat.le_refl _, fun _ _ _ => rfl⟩
theorem Oth.trans {B : Nat} {a b c : World} (h : Oth B a b) (k : Oth B b c) : Oth B a c :=
  ⟨k.os.trans h.os, k.tape.trans h.tape, k.output.trans h.output, Nat.le_trans h.size k.size, fun i hi hn => (k.block i (Nat.lt_of_lt_of_le hi h.size) hn).trans (h.block i hi hn)⟩
theorem Oth.of_below {B : Nat} {w w' : World} (h : Below w.heap.size w w') : Oth B w w' := ⟨h.os, h.tape, h.output, h.size, fun k hk _ => h.block k hk⟩
theorem Oth.alloc {B : Nat} {a w : World} (h : Oth B a w) (o : Obj) : Oth B a (w.alloc o) := h.trans (Oth.of_below (ba (Below.refl _ _) o))
theorem Oth.drewN {B : Nat} {a w : World} (h : Oth B a w) (n : Nat) : Oth B a (w.drewN n) := h.trans ⟨rfl, rfl, rfl, Nat.le_refl _, fun _ _ _ => rfl⟩
theorem Oth.drew {B : Nat} {a w : World} (h : Oth B a w) : Oth B a w.drew := h.trans ⟨rfl, rfl, rfl, Nat.le_refl _, fun _ _ _ => rfl⟩
theorem Oth.setB {B : Nat} {a w : World} (h : Oth B a w) (i : Nat) (v : Value) : Oth B a (w.setCell ⟨B, i, none⟩ v) :=
  h.trans ⟨rfl, rfl, rfl, by simp [World.setCell], fun k _ hn => Below.heap_setCell _ _ _ _ hn⟩
/-- a store into a block that is newer than the first world -/
theorem Oth.setNew {B : Nat} {a w : World} (h : Oth B a w) {p : Addr} (hp : a.heap.size ≤ p.block) (v : Value) : Oth B a (w.setCell p v) :=
  ⟨h.os, h.tape, h.output, by simp [World.setCell]; exact h.size, fun k hk hn => (Below.heap_setCell _ _ _ _ (by omega)).trans (h.block k hk hn)⟩
theorem Oth.cell {B : Nat} {w w' : World} (h : Oth B w w') {p : Addr} (hp : p.block < w.heap.size) (hn : p.block ≠ B) : w'.cell? p = w.cell? p := World.cell?_of_block (w := w) (h.block p.block hp hn)
theorem Oth.frozen {B : Nat} {w w' : World} (h : Oth B w w') {p : Addr} (hp : p.block < w.heap.size) (hn : p.block ≠ B) : w'.frozen? p = w.frozen? p := World.frozen?_of_block (w := w) (h.block p.block hp hn)
theorem Oth.below {B b0 : Nat} {w w' : World} (h : Oth B w w') (hb : b0 ≤ B) (hs : b0 ≤ w.heap.size) : Below b0 w w' := ⟨h.os, h.tape, h.output, h.size, fun k hk => h.block k (by omega) (by omega)⟩
theorem Rd.lt {b0 : Nat} {w : World} {B : Nat} {s : Option Addr} {len p : Nat} (h : Rd b0 w B s len p) : B < w.heap.size := World.block_lt_of_cell? w _ h.c1
theorem Bytes.keep {w w' : World} {s : Option Addr} {len b0 : Nat} (h : Bytes w s len b0) (k : ∀ b i, b < b0 → w'.cell? ⟨b, i, none⟩ = w.cell? ⟨b, i, none⟩) : Bytes w' s len b0 := by
  rcases h with h | ⟨b, off, e, hb, z, hz⟩
  · exact .inl h
  · exact .inr ⟨b, off, e, hb, z, fun i hi => ⟨(k b _ hb).trans (hz i hi).1, (hz i hi).2⟩⟩
/-- a reader is as it was where its own block is, and what is old -/
theorem Rd.keep {b0 : Nat} {w w' : World} {B : Nat} {s : Option Addr} {len p : Nat} (h : Rd b0 w B s len p) (hk : ∀ k, k ≤ B → w'.heap[k]? = w.heap[k]?) : Rd b0 w' B s len p := by
  have e : ∀ (b i : Nat), b ≤ B → w'.cell? ⟨b, i, none⟩ = w.cell? ⟨b, i, none⟩ := fun b i hb => World.cell?_of_block (w := w) (hk b hb)
  have f : w'.frozen? ⟨B, 1, none⟩ = w.frozen? ⟨B, 1, none⟩ := World.frozen?_of_block (w := w) (hk B (Nat.le_refl _))
  obtain ⟨cap, c0⟩ := h.c0
  exact ⟨⟨cap, (e _ _ (Nat.le_refl _)).trans c0⟩, (e _ _ (Nat.le_refl _)).trans h.c1, f.trans h.fz, h.bt.keep fun b i hb => e b i (by have := h.le; omega), h.le, h.hl, h.hp⟩
theorem Rd.below {b0 : Nat} {w w' : World} {B : Nat} {s : Option Addr} {len p : Nat} (h : Rd b0 w B s len p) (hb : Below w.heap.size w w') : Rd b0 w' B s len p :=
  h.keep fun k hk => hb.block k (by have := h.lt; omega)
theorem Rd.alloc {b0 : Nat} {w : World} {B : Nat} {s : Option Addr} {len p : Nat} (h : Rd b0 w B s len p) (o : Obj) : Rd b0 (w.alloc o) B s len p := h.below (ba (Below.refl _ _) o)
theorem Rd.pick {b0 : Nat} {w : World} {B : Nat} {s : Option Addr} {len p : Nat} (h : Rd b0 w B s len p) (hp : p < 1000000) (nq : Nat) :
    Rd b0 ((w.setCell ⟨B, 1, none⟩ (.int .i64 ((p : Int) + 1))).drewN nq) B s len (p + 1) := by
  obtain ⟨cap, c0⟩ := h.c0
  have e : ∀ a : Addr, ((w.setCell ⟨B, 1, none⟩ (.int .i64 ((p : Int) + 1))).drewN nq).cell? a = (w.setCell ⟨B, 1, none⟩ (.int .i64 ((p : Int) + 1))).cell? a := fun _ => rfl
  have f : ∀ a : Addr, ((w.setCell ⟨B, 1, none⟩ (.int .i64 ((p : Int) + 1))).drewN nq).frozen? a = (w.setCell ⟨B, 1, none⟩ (.int .i64 ((p : Int) + 1))).frozen? a := fun _ => rfl
  refine ⟨⟨cap, ?_⟩, ?_, ?_, h.bt.keep fun b i hb => ?_, h.le, h.hl, by omega⟩
  · rw [e, cell_other (by simp)]; exact c0
  · rw [e, World.cell?_setCell_same' _ _ _ (by rw [h.c1]; rfl)]; simp
  · rw [f]; simpa using h.fz
  · have := h.le
    rw [e, cell_other (by simp <;> omega)]
def PickR (n : Int) (b0 B : Nat) (s : Option Addr) (len p : Nat) (w : World) (e : Ending) (w' : World) : Prop :=
  ∃ v : Int, 0 ≤ v ∧ v < n ∧ e = .returned (.int .i64 v) ∧ Rd b0 w' B s len (p + 1) ∧ Oth B w w'
theorem c_pickR (n : Int) (hn : 1 ≤ n) (hn2 : n ≤ 1000000) {b0 : Nat} {w : World} {B : Nat} {s : Option Addr} {len p : Nat} (h : Rd b0 w B s len p) (hp : p < 1000000) :
    Calls Try.prog 71 #[.pointer (some ⟨B, 0, none⟩), .int .i64 n] w (PickR n b0 B s len p w) :=
  (c_pick n hn hn2 b0 w B s len p h).mono fun _ _ ⟨v, nq, h1, h2, h3, h4⟩ => ⟨v, h1, h2, h3, h4 ▸ h.pick hp nq, h4 ▸ ((Oth.refl B w).setB _ _).drewN _⟩
/-- a block that lies ahead of a draw, and is not the reader's, reads on -/
theorem oc {B : Nat} {w w' : World} {cs : Array Value} {t : TypeId} (h : Oth B (w.alloc (.cells cs t)) w') (hB : B < w.heap.size) (i : Nat) : w'.cell? ⟨w.heap.size, i, none⟩ = cs[i]? := by
  rw [h.cell (p := ⟨w.heap.size, i, none⟩) (by simp) (by simp; omega)]
  simp
theorem of {B : Nat} {w w' : World} {cs : Array Value} {t : TypeId} (h : Oth B (w.alloc (.cells cs t)) w') (hB : B < w.heap.size) (i : Nat) : w'.frozen? ⟨w.heap.size, i, none⟩ = false := by
  rw [h.frozen (p := ⟨w.heap.size, i, none⟩) (by simp) (by simp; omega)]
  simp
theorem oz {B : Nat} {w w' : World} {o : Obj} (h : Oth B (w.alloc o) w') : w.heap.size < w'.heap.size := by
  have := h.size; simp at this; omega
theorem Rd.drew {b0 : Nat} {w : World} {B : Nat} {s : Option Addr} {len p : Nat} (h : Rd b0 w B s len p) : Rd b0 w.drew B s len p := h.keep fun _ _ => rfl
theorem Rd.drewN {b0 : Nat} {w : World} {B : Nat} {s : Option Addr} {len p : Nat} (h : Rd b0 w B s len p) (n : Nat) : Rd b0 (w.drewN n) B s len p := h.keep fun _ _ => rfl
theorem Rd.setNew {b0 : Nat} {w : World} {B : Nat} {s : Option Addr} {len p : Nat} (h : Rd b0 w B s len p) {a : Addr} (ha : B < a.block) (v : Value) : Rd b0 (w.setCell a v) B s len p :=
  h.keep fun k hk => Below.heap_setCell _ _ _ _ (by omega)
/-- which classes are drawn: a class, or what is none with the modulus as its rest -/
def Drawn (b0 B : Nat) (s : Option Addr) (len p : Nat) (w : World) (e : Ending) (w' : World) : Prop :=
  ∃ (r m : Int) (p' : Nat), 1 ≤ m ∧ m ≤ 24 ∧ 0 ≤ r ∧ r ≤ m ∧ e = .returned (.agg #[.int .i64 r, .int .i64 m]) ∧ Rd b0 w' B s len p' ∧ p' ≤ p + 5 ∧ Oth B w w'
end Go.Proofs.Ytgdpebnnmklbjaa
namespace Go.Proofs.Ytgdpebnnmklbjaa
open Go.RowKit
/-- a slice of integers that came in: nil, or a row of cells -/
def IsRow (k : IntKind) (w : World) (a : Option Addr) (len cap : Nat) (zs : List Int) : Prop :=
  (a = none ∧ len = 0 ∧ cap = 0 ∧ zs = []) ∨
  ∃ x, a = some x ∧ len ≤ cap ∧ cap ≤ maxLen ∧ zs.length = cap ∧ (∀ i, i < zs.length → w.cell? (x.add i) = some (.int k (zs.getD i 0))) ∧ ∀ n ∈ zs, (Lit.int k n).wf = true
/-- a code that came in -/
structure Code0 (w : World) (s : Option Addr) (len cap : Nat) : Prop where
  bt : Bytes w s len w.heap.size
  lc : len ≤ cap
  cm : cap ≤ maxLen
  nn : len = 0 ∨ ∃ b off, s = some ⟨b, off, none⟩
theorem wf_u8 {n : Int} (h : (Lit.int .u8 n).wf = true) : 0 ≤ n ∧ n ≤ 255 := by
  simp [Lit.wf, IntKind.min, IntKind.max, IntKind.bits, IntKind.signed] at h; omega
theorem code0_of {w : World} {s : Option Addr} {len cap : Nat} {zs : List Int} (h : IsRow .u8 w s len cap zs) : Code0 w s len cap := by
  rcases h with ⟨rfl, rfl, rfl, rfl⟩ | ⟨x, rfl, hl, hm, hz, hcell, hwz⟩
  · exact ⟨.inl rfl, Nat.le_refl _, Nat.zero_le _, .inl rfl⟩
  · rcases Nat.eq_zero_or_pos len with h0 | h0
    · exact ⟨.inl h0, hl, hm, .inl h0⟩
    · obtain ⟨b, off, spot⟩ := x
      have hc := hcell 0 (by omega)
      have hspot : spot = none := by simpa [Addr.add] using World.cell?_spot hc
      subst hspot
      have hb : b < w.heap.size := by have := World.block_lt_of_cell? w _ hc; simpa [Addr.add] using this
      refine ⟨.inr ⟨b, off, rfl, hb, fun i => zs.getD i 0, fun i hi => ?_⟩, hl, hm, .inr ⟨b, off, rfl⟩⟩
      have hi' : i < zs.length := by omega
      have ea : (⟨b, off, none⟩ : Addr).add i = ⟨b, off + i, none⟩ := by unfold Addr.add; split <;> simp_all
      refine ⟨by rw [← ea]; exact hcell i hi', ?_⟩
      have : zs.getD i 0 ∈ zs := by rw [List.getD_eq_getElem?_getD, List.getElem?_eq_getElem hi']; exact List.getElem_mem hi'
      exact wf_u8 (hwz _ this)
theorem Bytes.shorter {w : World} {s : Option Addr} {len len' b0 : Nat} (h : Bytes w s len b0) (hl : len' ≤ len) : Bytes w s len' b0 := by
  rcases h with h | ⟨b, off, e, hb, z, hz⟩
  · exact .inl (by omega)
  · exact .inr ⟨b, off, e, hb, z, fun i hi => hz i (by omega)⟩
theorem Code0.below {w w' : World} {s : Option Addr} {len cap : Nat} (h : Code0 w s len cap) (hb : Below w.heap.size w w') : Code0 w' s len cap := by
  refine ⟨?_, h.lc, h.cm, h.nn⟩
  rcases h.bt with h | ⟨b, off, e, hlt, z, hz⟩
  · exact .inl h
  · exact .inr ⟨b, off, e, by have := hb.size; omega, z, fun i hi => ⟨(hb.cell (p := ⟨b, off + i, none⟩) hlt).trans (hz i hi).1, (hz i hi).2⟩⟩
theorem new_rd {w : World} {s : Option Addr} {len cap b0 : Nat} (h : Bytes w s len b0) (hb : b0 ≤ w.heap.size) (hl : len ≤ 2000) (T : TypeId) : Rd b0 (w.alloc (.cells #[.slice s len cap, .int .i64 0] T)) w.heap.size s len 0 := by
  refine ⟨⟨cap, by simp⟩, by simp, by simp, h.keep fun b i hlt => ?_, hb, hl, by omega⟩
  exact (ba (Below.refl w.heap.size w) (.cells #[.slice s len cap, .int .i64 0] T)).cell (p := ⟨b, i, none⟩) (by simp; omega)
/-- a reader is opened -/
def Opened (w : World) (e : Ending) (w' : World) : Prop :=
  ∃ (B : Nat) (s' : Option Addr) (len' : Nat), w.heap.size = B ∧ e = .returned (.pointer (some ⟨B, 0, none⟩)) ∧ Rd w.heap.size w' B s' len' 0 ∧ Below w.heap.size w w'
theorem c_l6Open (s : Option Addr) (len cap : Nat) (w : World) (h : Code0 w s len cap) : Calls Try.prog 65 #[.slice s len cap] w (Opened w) := by
  have hc := h.lc
  have hm := h.cm
  unfold maxLen at hm
  by_cases hl : len ≤ 2000
  · go_enter Try.func65, Try.ntmps65
    go_wp2
    go_ret
    exact ⟨w.heap.size, s, len, rfl, rfl, new_rd h.bt (Nat.le_refl _) hl _, by repeat (first | exact Below.refl _ _ | assumption | refine Below.drew ?_ | refine bel_drewN ?_ _ | refine ba ?_ _ | refine bt2 ?_ (by assumption) | refine Below.setCell ?_ (by simp <;> omega) _)⟩
  · rcases h.nn with h0 | ⟨b, off, rfl⟩
    · omega
    go_enter Try.func65, Try.ntmps65
    go_wp2
    go_ret
    exact ⟨w.heap.size, some ⟨b, off, none⟩, 2000, rfl, rfl, new_rd (h.bt.shorter (by omega)) (Nat.le_refl _) (by omega) _, by repeat (first | exact Below.refl _ _ | assumption | refine Below.drew ?_ | refine bel_drewN ?_ _ | refine ba ?_ _ | refine bt2 ?_ (by assumption) | refine Below.setCell ?_ (by simp <;> omega) _)⟩
/-- a drawn number -/
def DrawnI (lo hi : Int) (k : Nat) (b0 B : Nat) (s : Option Addr) (len p : Nat) (w : World) (e : Ending) (w' : World) : Prop :=
  ∃ (x : Int) (p' : Nat), lo ≤ x ∧ x ≤ hi ∧ e = .returned (.int .i64 x) ∧ Rd b0 w' B s len p' ∧ p' ≤ p + k ∧ Oth B w w'
theorem c_l91Number {b0 : Nat} {w : World} {B : Nat} {s : Option Addr} {len p : Nat} (h : Rd b0 w B s len p) (hp : p + 2 < 1000000) :
    Calls Try.prog 67 #[.pointer (some ⟨B, 0, none⟩)] w (DrawnI (-100) 2000099 2 b0 B s len p w) := by
  go_enter Try.func67, Try.ntmps67
  go_wp2_with fail
  refine (c_pickR 200 (by omega) (by omega) h (by omega)).mono ?_
  rintro e w2 ⟨v, v1, v2, rfl, hR2, hO2⟩
  go_wp2_with fail
  refine (c_pickR 40 (by omega) (by omega) hR2 (by omega)).mono ?_
  rintro e w3 ⟨u, u1, u2, rfl, hR3, hO3⟩
  go_wp2
  go_ret
  exact ⟨_, _, by omega, by omega, rfl, hR3, by omega, hO2.trans hO3⟩
/-- a drawn class, and no reader stays -/
def DrawnC (w : World) (e : Ending) (w' : World) : Prop :=
  ∃ r m : Int, 1 ≤ m ∧ m ≤ 24 ∧ 0 ≤ r ∧ r ≤ m ∧ e = .returned (.agg #[.int .i64 r, .int .i64 m]) ∧ Below w.heap.size w w'
theorem oth_below {b0 B : Nat} {w w' : World} {s : Option Addr} {len p : Nat} (h : Oth B w w') (hR : Rd b0 w B s len p) : Below b0 w w' := h.below hR.le (by have := hR.lt; have := hR.le; omega)
end Go.Proofs.Ytgdpebnnmklbjaa
namespace Go.Proofs.Ytgdpebnnmklbjaa
open Go.RowKit
def DrawnCI (lo hi : Int) (w : World) (e : Ending) (w' : World) : Prop :=
  ∃ r m x : Int, 1 ≤ m ∧ m ≤ 24 ∧ 0 ≤ r ∧ r ≤ m ∧ lo ≤ x ∧ x ≤ hi ∧ e = .returned (.tuple #[.agg #[.int .i64 r, .int .i64 m], .int .i64 x]) ∧ Below w.heap.size w w'
theorem c_l91NumberW {b0 : Nat} {w : World} {B : Nat} {s : Option Addr} {len p : Nat} (h : Rd b0 w B s len p) (hp : p + 2 < 1000000) (o : Obj) (W : World) (hW : W = w.alloc o ∨ W = (w.alloc o).drew) :
    Calls Try.prog 67 #[.pointer (some ⟨B, 0, none⟩)] W (DrawnI (-100) 2000099 2 b0 B s len p (w.alloc o)) := by
  rcases hW with rfl | rfl
  · exact c_l91Number (h.alloc o) hp
  · exact (c_l91Number (h.alloc o).drew hp).mono fun _ _ ⟨x, p', h1, h2, h3, h4, h5, h6⟩ => ⟨x, p', h1, h2, h3, h4, h5, ((Oth.refl _ _).drew).trans h6⟩
/-! what the laws draw -/
def DrawnII (w : World) (e : Ending) (w' : World) : Prop :=
  ∃ x m : Int, -100 ≤ x ∧ x ≤ 2000099 ∧ 0 ≤ m ∧ m ≤ 30 ∧ e = .returned (.tuple #[.int .i64 x, .int .i64 m]) ∧ Below w.heap.size w w'
end Go.Proofs.Ytgdpebnnmklbjaa
namespace Go.Proofs.Ytgdpebnnmklbjaa
open Go.RowKit
theorem c_pickRW (n : Int) (hn : 1 ≤ n) (hn2 : n ≤ 1000000) {b0 : Nat} {w : World} {B : Nat} {s : Option Addr} {len p : Nat} (h : Rd b0 w B s len p) (hp : p < 1000000) (W : World) (hW : W = w ∨ W = w.drew) :
    Calls Try.prog 71 #[.pointer (some ⟨B, 0, none⟩), .int .i64 n] W (PickR n b0 B s len p w) := by
  rcases hW with rfl | rfl
  · exact c_pickR n hn hn2 h hp
  · exact (c_pickR n hn hn2 h.drew hp).mono fun _ _ ⟨x, h1, h2, h3, h4, h6⟩ => ⟨x, h1, h2, h3, h4, ((Oth.refl _ _).drew).trans h6⟩
/-- the old blocks may be fewer -/
theorem Rd.keep_le {b0 b1 : Nat} {w : World} {B : Nat} {s : Option Addr} {len p : Nat} (h : Rd b0 w B s len p) (hl : b1 ≤ b0) : b1 ≤ B := Nat.le_trans hl h.le
theorem Rd.setp {b0 : Nat} {w : World} {B : Nat} {s : Option Addr} {len p : Nat} (h : Rd b0 w B s len p) (q : Nat) (hq : q ≤ 1000000) :
    Rd b0 (w.setCell ⟨B, 1, none⟩ (.int .i64 (q : Int))) B s len q := by
  obtain ⟨cap, c0⟩ := h.c0
  refine ⟨⟨cap, ?_⟩, ?_, ?_, h.bt.keep fun b i hb => ?_, h.le, h.hl, hq⟩
  · rw [cell_other (by simp)]; exact c0
  · rw [World.cell?_setCell_same' _ _ _ (by rw [h.c1]; rfl)]
  · simpa using h.fz
  · have := h.le
    rw [cell_other (by simp <;> omega)]
def DrawnCII (w : World) (e : Ending) (w' : World) : Prop :=
  ∃ r m a b : Int, 1 ≤ m ∧ m ≤ 24 ∧ 0 ≤ r ∧ r ≤ m ∧ -100 ≤ a ∧ a ≤ 2000099 ∧ a - 5 ≤ b ∧ b ≤ a + 54 ∧ e = .returned (.tuple #[.agg #[.int .i64 r, .int .i64 m], .int .i64 a, .int .i64 b]) ∧ Below w.heap.size w w'
end Go.Proofs.Ytgdpebnnmklbjaa
