/- Contracts of the reader of codes, of which the drawn inputs are made. -/
import Derived.Test.YtenghhoofpjcaaaC1
import Derived.Laws.BitsLemmas
import Derived.RegionTactic
import Derived.BigRegion
namespace Go.Proofs.Ytenghhoofpjcaaa
open Go.RowKit
theorem xor_nn (a b : Int) (h1 : 0 ≤ a) (h2 : a < 2 ^ 62) (h3 : 0 ≤ b) (h4 : b < 2 ^ 62) : 0 ≤ bits .xor .i64 a b := by
  obtain ⟨x, rfl⟩ := Int.eq_ofNat_of_zero_le h1
  obtain ⟨y, rfl⟩ := Int.eq_ofNat_of_zero_le h3
  have hx : x < 2 ^ 62 := by omega
  have hy : y < 2 ^ 62 := by omega
  have hx' : x % 2 ^ 64 = x := Nat.mod_eq_of_lt (by omega)
  have hy' : y % 2 ^ 64 = y := Nat.mod_eq_of_lt (by omega)
  have hz : x ^^^ y < 2 ^ 62 := Nat.xor_lt_two_pow hx hy
  simp only [bits, BitVec.ofInt_natCast, BitVec.toNat_xor, BitVec.toNat_ofNat]
  simp only [IntKind.bits, hx', hy']
  rw [IntWalk.i64_in _ (by omega)]
  omega
/-- the bytes of a code: read where the length says, and old -/
def Bytes (w : World) (s : Option Addr) (len : Nat) (b0 : Nat) : Prop :=
  len = 0 ∨ ∃ b off, s = some ⟨b, off, none⟩ ∧ b < b0 ∧ ∃ z : Nat → Int, ∀ i, i < len → w.cell? ⟨b, off + i, none⟩ = some (.int .u8 (z i)) ∧ 0 ≤ z i ∧ z i ≤ 255
/-- a reader at block B: its code, its place -/
structure Rd (b0 : Nat) (w : World) (B : Nat) (s : Option Addr) (len : Nat) (p : Nat) : Prop where
  c0 : ∃ cap, w.cell? ⟨B, 0, none⟩ = some (.slice s len cap)
  c1 : w.cell? ⟨B, 1, none⟩ = some (.int .i64 (p : Int))
  fz : w.frozen? ⟨B, 1, none⟩ = false
  bt : Bytes w s len b0
  le : b0 ≤ B
  hl : len ≤ 2000
  hp : p ≤ 1000000
def PickPost (n : Int) (B p : Nat) (w : World) (e : Ending) (w' : World) : Prop :=
  ∃ (v : Int) (nq : Nat), 0 ≤ v ∧ v < n ∧ e = .returned (.int .i64 v) ∧ (w.setCell ⟨B, 1, none⟩ (.int .i64 ((p : Int) + 1))).drewN nq = w'
theorem c_pick0 (n : Int) (hn : 1 ≤ n) (hn2 : n ≤ 1000000) (b0 : Nat) (w : World) (B : Nat) (s : Option Addr) (p : Nat) (h : Rd b0 w B s 0 p) :
    Calls Try.prog 54 #[.pointer (some ⟨B, 0, none⟩), .int .i64 n] w (PickPost n B p w) := by
  obtain ⟨⟨cap, c0⟩, c1, fz, bt, le, hl, hp⟩ := h
  have c0' : (w.setCell ⟨B, 1, none⟩ (.int .i64 ((p : Int) + 1))).cell? ⟨B, 0, none⟩ = some (.slice s 0 cap) := by
    rw [cell_other (by simp)]; exact c0
  go_enter Try.func54, Try.ntmps54
  go_wp2
  go_ret
  exact ⟨0, 0, by omega, by omega, rfl, rfl⟩
theorem c_pick1 (n : Int) (hn : 1 ≤ n) (hn2 : n ≤ 1000000) (b0 : Nat) (w : World) (B : Nat) (s : Option Addr) (len p : Nat) (h : Rd b0 w B s len p) (hlt : p < len) :
    Calls Try.prog 54 #[.pointer (some ⟨B, 0, none⟩), .int .i64 n] w (PickPost n B p w) := by
  obtain ⟨⟨cap, c0⟩, c1, fz, bt, le, hl, hp⟩ := h
  have c0' : (w.setCell ⟨B, 1, none⟩ (.int .i64 ((p : Int) + 1))).cell? ⟨B, 0, none⟩ = some (.slice s len cap) := by
    rw [cell_other (by simp)]; exact c0
  rcases bt with h0 | ⟨b, off, rfl, hb, z, hz⟩
  · omega
  obtain ⟨z1, z2, z3⟩ := hz p hlt
  have hbB : b ≠ B := by omega
  have z1' : (w.setCell ⟨B, 1, none⟩ (.int .i64 ((p : Int) + 1))).cell? ⟨b, off + p, none⟩ = some (.int .u8 (z p)) := by
    rw [cell_other (by simp)]; exact z1
  have hm := emod_bd (z p) n hn
  have hne : ((len : Int) == 0) = false := by simp; omega
  go_enter Try.func54, Try.ntmps54
  go_wp2
  go_ret
  exact ⟨z p % n, 0, hm.1, hm.2, rfl, rfl⟩
theorem c_pick2 (n : Int) (hn : 1 ≤ n) (hn2 : n ≤ 1000000) (b0 : Nat) (w : World) (B : Nat) (s : Option Addr) (len p : Nat) (h : Rd b0 w B s len p) (hl0 : 0 < len) (hge : len ≤ p) :
    Calls Try.prog 54 #[.pointer (some ⟨B, 0, none⟩), .int .i64 n] w (PickPost n B p w) := by
  obtain ⟨⟨cap, c0⟩, c1, fz, bt, le, hl, hp⟩ := h
  have c0' : (w.setCell ⟨B, 1, none⟩ (.int .i64 ((p : Int) + 1))).cell? ⟨B, 0, none⟩ = some (.slice s len cap) := by
    rw [cell_other (by simp)]; exact c0
  rcases bt with h0 | ⟨b, off, rfl, hb, z, hz⟩
  · omega
  obtain ⟨z1, z2, z3⟩ := hz (p % len) (Nat.mod_lt _ hl0)
  obtain ⟨y1, y2, y3⟩ := hz ((p * 7 + 3) % len) (Nat.mod_lt _ hl0)
  have hbB : b ≠ B := by omega
  have z1' : (w.setCell ⟨B, 1, none⟩ (.int .i64 ((p : Int) + 1))).cell? ⟨b, off + p % len, none⟩ = some (.int .u8 (z (p % len))) := by
    rw [cell_other (by simp)]; exact z1
  have y1' : (w.setCell ⟨B, 1, none⟩ (.int .i64 ((p : Int) + 1))).cell? ⟨b, off + (p * 7 + 3) % len, none⟩ = some (.int .u8 (z ((p * 7 + 3) % len))) := by
    rw [cell_other (by simp)]; exact y1
  have hne : ((len : Int) == 0) = false := by simp; omega
  clear hz hb z1 y1
  generalize hZ : z (p % len) = Z at *
  generalize hY : z ((p * 7 + 3) % len) = Y at *
  clear hZ hY
  have hl0' : (0 : Int) < (len : Int) := by omega
  have hi1 : 0 ≤ (p : Int) % (len : Int) ∧ (p : Int) % (len : Int) < (len : Int) := emod_bd _ _ (by omega)
  have hi2 : 0 ≤ ((p : Int) * 7 + 3) % (len : Int) ∧ ((p : Int) * 7 + 3) % (len : Int) < (len : Int) := emod_bd _ _ (by omega)
  have hq : 0 ≤ (p : Int) / (len : Int) ∧ (p : Int) / (len : Int) ≤ (p : Int) := quo_bd (by omega) (by omega)
  have hX : 0 ≤ Z * 131 + Y * 1117 + (p : Int) * 29 + (p : Int) / (len : Int) * 53 ∧ Z * 131 + Y * 1117 + (p : Int) * 29 + (p : Int) / (len : Int) * 53 < 2 ^ 40 := by omega
  have hx := xor_nn (Z * 131 + Y * 1117 + (p : Int) * 29 + (p : Int) / (len : Int) * 53) ((Z * 131 + Y * 1117 + (p : Int) * 29 + (p : Int) / (len : Int) * 53) / 64) (by omega) (by omega) (by omega) (by omega)
  have hm := emod_bd (bits .xor .i64 (Z * 131 + Y * 1117 + (p : Int) * 29 + (p : Int) / (len : Int) * 53) ((Z * 131 + Y * 1117 + (p : Int) * 29 + (p : Int) / (len : Int) * 53) / 64)) n hn
  go_enter Try.func54, Try.ntmps54
  go_wp2
  go_quiet (fail)
  go_wp2
  go_ret
  exact ⟨_, nq, hm.1, hm.2, rfl, rfl⟩
/-- the next number of a code -/
theorem c_pick (n : Int) (hn : 1 ≤ n) (hn2 : n ≤ 1000000) (b0 : Nat) (w : World) (B : Nat) (s : Option Addr) (len p : Nat) (h : Rd b0 w B s len p) :
    Calls Try.prog 54 #[.pointer (some ⟨B, 0, none⟩), .int .i64 n] w (PickPost n B p w) := by
  rcases Nat.eq_zero_or_pos len with rfl | h0
  · exact c_pick0 n hn hn2 b0 w B s p h
  · rcases Nat.lt_or_ge p len with h1 | h1
    · exact c_pick1 n hn hn2 b0 w B s len p h h1
    · exact c_pick2 n hn hn2 b0 w B s len p h h0 h1
end Go.Proofs.Ytenghhoofpjcaaa
