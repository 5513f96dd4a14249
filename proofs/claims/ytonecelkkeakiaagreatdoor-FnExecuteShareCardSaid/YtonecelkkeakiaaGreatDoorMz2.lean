/- Contracts of the opened code, of drawn numbers, and of what the laws of chapter 1 draw: the ranges of all that is drawn; nothing old is changed. -/
import Derived.Test.YtonecelkkeakiaaGreatDoorD2
import Derived.Deep.RegionWith
import Derived.Test.YtonecelkkeakiaaGreatDoorC1
import Derived.LoopTactic
import Derived.Test.YtonecelkkeakiaaGreatDoorMathS
import Derived.OwnWalk
import Derived.Laws.OwnMore
namespace Go.Proofs.YtonecelkkeakiaaGreatDoor
open Go.RowKit
/-- a slice of integers that came in: nil, or a row of cells -/
def IsRow (k : IntKind) (w : World) (a : Option Addr) (len cap : Nat) (zs : List Int) : Prop :=
  (a = none ∧ len = 0 ∧ cap = 0 ∧ zs = []) ∨
  ∃ x, a = some x ∧ len ≤ cap ∧ cap ≤ maxLen ∧ zs.length = cap ∧ (∀ i, i < zs.length → w.cell? (x.add i) = some (.int k (zs.getD i 0))) ∧ ∀ n ∈ zs, (Lit.int k n).wf = true
/-- a code that came in -/
structure Code0 (w : World) (s : Option Addr) (len cap : Nat) : Prop where
  bt : Bytes w s len w.heap.size
  lc : len ≤ cap
  cm : cap ≤ maxLen
  nn : len = 0 ∨ ∃ b off, s = some ⟨b, off, none⟩
theorem wf_u8 {n : Int} (h : (Lit.int .u8 n).wf = true) : 0 ≤ n ∧ n ≤ 255 := by
  simp [Lit.wf, IntKind.min, IntKind.max, IntKind.bits, IntKind.signed] at h; omega
theorem code0_of {w : World} {s : Option Addr} {len cap : Nat} {zs : List Int} (h : IsRow .u8 w s len cap zs) : Code0 w s len cap := by
  rcases h with ⟨rfl, rfl, rfl, rfl⟩ | ⟨x, rfl, hl, hm, hz, hcell, hwz⟩
  · exact ⟨.inl rfl, Nat.le_refl _, Nat.zero_le _, .inl rfl⟩
  · rcases Nat.eq_zero_or_pos len with h0 | h0
    · exact ⟨.inl h0, hl, hm, .inl h0⟩
    · obtain ⟨b, off, spot⟩ := x
      have hc := hcell 0 (by omega)
      have hspot : spot = none := by simpa [Addr.add] using World.cell?_spot hc
      subst hspot
      have hb : b < w.heap.size := by have := World.block_lt_of_cell? w _ hc; simpa [Addr.add] using this
      refine ⟨.inr ⟨b, off, rfl, hb, fun i => zs.getD i 0, fun i hi => ?_⟩, hl, hm, .inr ⟨b, off, rfl⟩⟩
      have hi' : i < zs.length := by omega
      have ea : (⟨b, off, none⟩ : Addr).add i = ⟨b, off + i, none⟩ := by unfold Addr.add; split <;> simp_all
      refine ⟨by rw [← ea]; exact hcell i hi', ?_⟩
      have : zs.getD i 0 ∈ zs := by rw [List.getD_eq_getElem?_getD, List.getElem?_eq_getElem hi']; exact List.getElem_mem hi'
      exact wf_u8 (hwz _ this)
theorem Bytes.shorter {w : World} {s : Option Addr} {len len' b0 : Nat} (h : Bytes w s len b0) (hl : len' ≤ len) : Bytes w s len' b0 := by
  rcases h with h | ⟨b, off, e, hb, z, hz⟩
  · exact .inl (by omega)
  · exact .inr ⟨b, off, e, hb, z, fun i hi => hz i (by omega)⟩
theorem Code0.below {w w' : World} {s : Option Addr} {len cap : Nat} (h : Code0 w s len cap) (hb : Below w.heap.size w w') : Code0 w' s len cap := by
  refine ⟨?_, h.lc, h.cm, h.nn⟩
  rcases h.bt with h | ⟨b, off, e, hlt, z, hz⟩
  · exact .inl h
  · exact .inr ⟨b, off, e, by have := hb.size; omega, z, fun i hi => ⟨(hb.cell (p := ⟨b, off + i, none⟩) hlt).trans (hz i hi).1, (hz i hi).2⟩⟩
theorem new_rd {w : World} {s : Option Addr} {len cap b0 : Nat} (h : Bytes w s len b0) (hb : b0 ≤ w.heap.size) (hl : len ≤ 2000) (T : TypeId) : Rd b0 (w.alloc (.cells #[.slice s len cap, .int .i64 0] T)) w.heap.size s len 0 := by
  refine ⟨⟨cap, by simp⟩, by simp, by simp, h.keep fun b i hlt => ?_, hb, hl, by omega⟩
  exact (ba (Below.refl w.heap.size w) (.cells #[.slice s len cap, .int .i64 0] T)).cell (p := ⟨b, i, none⟩) (by simp; omega)
/-- a reader is opened -/
def Opened (w : World) (e : Ending) (w' : World) : Prop :=
  ∃ (B : Nat) (s' : Option Addr) (len' : Nat), w.heap.size = B ∧ e = .returned (.pointer (some ⟨B, 0, none⟩)) ∧ Rd w.heap.size w' B s' len' 0 ∧ Below w.heap.size w w'
theorem c_l6Open (s : Option Addr) (len cap : Nat) (w : World) (h : Code0 w s len cap) : Calls Tryz.prog 21 #[.slice s len cap] w (Opened w) := by
  have hc := h.lc
  have hm := h.cm
  unfold maxLen at hm
  by_cases hl : len ≤ 2000
  · go_enter Tryz.func21, Tryz.ntmps21
    go_wp2
    go_ret
    exact ⟨w.heap.size, s, len, rfl, rfl, new_rd h.bt (Nat.le_refl _) hl _, by repeat (first | exact Below.refl _ _ | assumption | refine Below.drew ?_ | refine bel_drewN ?_ _ | refine ba ?_ _ | refine bt2 ?_ (by assumption) | refine Below.setCell ?_ (by simp <;> omega) _)⟩
  · rcases h.nn with h0 | ⟨b, off, rfl⟩
    · omega
    go_enter Tryz.func21, Tryz.ntmps21
    go_wp2
    go_ret
    exact ⟨w.heap.size, some ⟨b, off, none⟩, 2000, rfl, rfl, new_rd (h.bt.shorter (by omega)) (Nat.le_refl _) (by omega) _, by repeat (first | exact Below.refl _ _ | assumption | refine Below.drew ?_ | refine bel_drewN ?_ _ | refine ba ?_ _ | refine bt2 ?_ (by assumption) | refine Below.setCell ?_ (by simp <;> omega) _)⟩
/-- a drawn number -/
def DrawnI (lo hi : Int) (k : Nat) (b0 B : Nat) (s : Option Addr) (len p : Nat) (w : World) (e : Ending) (w' : World) : Prop :=
  ∃ (x : Int) (p' : Nat), lo ≤ x ∧ x ≤ hi ∧ e = .returned (.int .i64 x) ∧ Rd b0 w' B s len p' ∧ p' ≤ p + k ∧ Oth B w w'
/-- a drawn class, and no reader stays -/
def DrawnC (w : World) (e : Ending) (w' : World) : Prop :=
  ∃ r m : Int, 1 ≤ m ∧ m ≤ 24 ∧ 0 ≤ r ∧ r ≤ m ∧ e = .returned (.agg #[.int .i64 r, .int .i64 m]) ∧ Below w.heap.size w w'
theorem oth_below {b0 B : Nat} {w w' : World} {s : Option Addr} {len p : Nat} (h : Oth B w w') (hR : Rd b0 w B s len p) : Below b0 w w' := h.below hR.le (by have := hR.lt; have := hR.le; omega)
end Go.Proofs.YtonecelkkeakiaaGreatDoor
namespace Go.Proofs.YtonecelkkeakiaaGreatDoor
open Go.RowKit
def DrawnCI (lo hi : Int) (w : World) (e : Ending) (w' : World) : Prop :=
  ∃ r m x : Int, 1 ≤ m ∧ m ≤ 24 ∧ 0 ≤ r ∧ r ≤ m ∧ lo ≤ x ∧ x ≤ hi ∧ e = .returned (.tuple #[.agg #[.int .i64 r, .int .i64 m], .int .i64 x]) ∧ Below w.heap.size w w'
/-! what the laws draw -/
def DrawnII (w : World) (e : Ending) (w' : World) : Prop :=
  ∃ x m : Int, -100 ≤ x ∧ x ≤ 2000099 ∧ 0 ≤ m ∧ m ≤ 30 ∧ e = .returned (.tuple #[.int .i64 x, .int .i64 m]) ∧ Below w.heap.size w w'
end Go.Proofs.YtonecelkkeakiaaGreatDoor
namespace Go.Proofs.YtonecelkkeakiaaGreatDoor
open Go.RowKit
/-! ClassOf -/
end Go.Proofs.YtonecelkkeakiaaGreatDoor
namespace Go.Proofs.YtonecelkkeakiaaGreatDoor
open Go.RowKit
def gcdI (a b : Int) : Int := ((a.toNat.gcd b.toNat : Nat) : Int)
theorem gcdI_zero {a : Int} (h : 0 ≤ a) : gcdI a 0 = a := by simp [gcdI]; omega
theorem gcdI_step {a b : Int} (ha : 0 ≤ a) (hb : 0 < b) : gcdI b (a % b) = gcdI a b := by
  obtain ⟨x, rfl⟩ := Int.eq_ofNat_of_zero_le ha
  obtain ⟨y, rfl⟩ := Int.eq_ofNat_of_zero_le (show 0 ≤ b by omega)
  have e : ((x : Int) % (y : Int)).toNat = x % y := by rw [← Int.natCast_emod]; exact Int.toNat_natCast _
  unfold gcdI
  rw [e]
  simp only [Int.toNat_natCast]
  rw [Nat.gcd_comm x y, Nat.gcd_rec y x, Nat.gcd_comm]
theorem c_l1Gcd (a b : Int) (ha : 0 ≤ a) (ha2 : a ≤ 1000) (hb : 0 ≤ b) (hb2 : b ≤ 1000) (w : World) : Calls Tryz.prog 89 #[.int .i64 a, .int .i64 b] w fun e w' => e = .returned (.int .i64 (gcdI a b)) ∧ w = w' := by
  go_enter Tryz.func89, Tryz.ntmps89
  go_wp2
  go_loop [0, 1] (fun x y => ∃ p q : Int, 0 ≤ p ∧ p ≤ 1000 ∧ 0 ≤ q ∧ q ≤ 1000 ∧ Hid (gcdI p q = gcdI a b) ∧ x = .int .i64 p ∧ y = .int .i64 q) (fun _ y => (intOf y).toNat)
  case atStart => exact ⟨a, b, ha, ha2, hb, hb2, rfl, rfl, rfl⟩
  case round =>
    obtain ⟨p, q, p1, p2, q1, q2, hg, rfl, rfl⟩ := hrel
    by_cases hq : q = 0
    · have hq0 : (q != 0) = false := by simp [hq]
      have hgo : p = gcdI a b := by have := hg.out; rw [hq, gcdI_zero p1] at this; exact this
      have HG := Lib.hid hgo
      clear hgo hg hq
      go_wp2
      go_ret
      exact ⟨ri HG.out, rfl⟩
    · have hq0 : (q != 0) = true := by simpa using hq
      have hm := emod_bd p q (by omega)
      have hs : Hid (gcdI q (p % q) = gcdI a b) := by show _ = _; rw [gcdI_step p1 (by omega)]; exact hg.out
      clear hg
      go_wp2
      go_round
      case rel => exact ⟨q, p % q, by omega, by omega, hm.1, by omega, hs, rfl, rfl⟩
      case measure => simp [intOf]; omega
theorem c_commonDivisor (a b : Int) (ha : 0 ≤ a) (ha2 : a ≤ 1000) (hb : 0 ≤ b) (hb2 : b ≤ 1000) (w : World) : Calls Tryz.prog 41 #[.int .i64 a, .int .i64 b] w fun e w' => ∃ n, e = .returned (.int .i64 (gcdI a b)) ∧ w' = w.drewN n := by
  go_enter Tryz.func41, Tryz.ntmps41
  go_wp2
  go_loopw [0, 1] (fun x y wr => ∃ (p q : Int) (n : Nat), 0 ≤ p ∧ p ≤ 1000 ∧ 0 ≤ q ∧ q ≤ 1000 ∧ Hid (gcdI p q = gcdI a b) ∧ x = .int .i64 p ∧ y = .int .i64 q ∧ wr = w.drewN n) (fun _ y _ => (intOf y).toNat)
  case atStart => exact ⟨a, b, 0, ha, ha2, hb, hb2, rfl, rfl, rfl, rfl⟩
  case round =>
    obtain ⟨p, q, n, p1, p2, q1, q2, hg, rfl, rfl, rfl⟩ := hrel
    by_cases hq : q = 0
    · have hq0 : (q != 0) = false := by simp [hq]
      have hgo : p = gcdI a b := by have := hg.out; rw [hq, gcdI_zero p1] at this; exact this
      have HG := Lib.hid hgo
      clear hgo hg hq
      go_wp2
      go_ret
      exact ⟨n, ri HG.out, rfl⟩
    · have hq0 : (q != 0) = true := by simpa using hq
      have hm := emod_bd p q (by omega)
      have hs : Hid (gcdI q (p % q) = gcdI a b) := by show _ = _; rw [gcdI_step p1 (by omega)]; exact hg.out
      clear hg
      go_wp2
      go_quiet (fail)
      go_wp2
      go_roundw
      case rel => exact ⟨q, p % q, n + nq, by omega, by omega, hm.1, by omega, hs, rfl, rfl, by simp [World.drewN, Nat.add_assoc]⟩
      case measure => simp [intOf]; omega
end Go.Proofs.YtonecelkkeakiaaGreatDoor
namespace Go.Proofs.YtonecelkkeakiaaGreatDoor
open Go.RowKit
theorem infoC : (Tryz.prog.info? 41).map (fun i => (i.zero, i.size, i.bytes)) = some (some (.agg #[.int .i64 0, .int .i64 0]), 2, 16) := by kernel_rfl
def ToPost (w : World) (zs : List Cl) (e : Ending) (w' : World) : Prop := ∃ g, w.heap.size ≤ g ∧ e = .returned (.slice (some ⟨g, 0, none⟩) zs.length zs.length) ∧ OwnC w' w.heap.size 41 (.slice (some ⟨g, 0, none⟩) zs.length zs.length) zs ∧ Below w.heap.size w w'
end Go.Proofs.YtonecelkkeakiaaGreatDoor
namespace Go.Proofs.YtonecelkkeakiaaGreatDoor
open Go.RowKit
theorem c_wholeClass (w : World) : Calls Tryz.prog 25 #[] w fun e w' => e = .returned (.agg #[.int .i64 0, .int .i64 1]) ∧ Below w.heap.size w w' := by
  go_enter Tryz.func25, Tryz.ntmps25
  go_wp2_with (go_at_call 45; refine (c_classAt _ _ (by omega) (by omega) _).mono ?_; rintro e w1 ⟨rfl, rfl⟩)
  refine bodyPost_ret (v := .agg #[.int .i64 0, .int .i64 1]) (by simp [results, Tryz.results25, go_sem]) rfl ⟨rfl, ?_⟩
  repeat (first | exact Below.refl _ _ | assumption | refine Below.drew ?_ | refine bel_drewN ?_ _ | refine ba ?_ _ | refine bt2 ?_ (by assumption) | refine Below.setCell ?_ (by simp <;> omega) _)
end Go.Proofs.YtonecelkkeakiaaGreatDoor
