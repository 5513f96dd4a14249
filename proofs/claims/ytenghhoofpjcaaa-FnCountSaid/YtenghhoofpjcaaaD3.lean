/- Contracts of the opened code, of drawn numbers, and of what the laws of chapter 1 draw: the ranges of all that is drawn; nothing old is changed. -/
import Derived.Test.YtenghhoofpjcaaaD2
namespace Go.Proofs.Ytenghhoofpjcaaa
open Go.RowKit
/-- a slice of integers that came in: nil, or a row of cells -/
def IsRow (k : IntKind) (w : World) (a : Option Addr) (len cap : Nat) (zs : List Int) : Prop :=
  (a = none ∧ len = 0 ∧ cap = 0 ∧ zs = []) ∨
  ∃ x, a = some x ∧ len ≤ cap ∧ cap ≤ maxLen ∧ zs.length = cap ∧ (∀ i, i < zs.length → w.cell? (x.add i) = some (.int k (zs.getD i 0))) ∧ ∀ n ∈ zs, (Lit.int k n).wf = true
/-- a code that came in -/
structure Code0 (w : World) (s : Option Addr) (len cap : Nat) : Prop where
  bt : Bytes w s len w.heap.size
  lc : len ≤ cap
  cm : cap ≤ maxLen
  nn : len = 0 ∨ ∃ b off, s = some ⟨b, off, none⟩
theorem wf_u8 {n : Int} (h : (Lit.int .u8 n).wf = true) : 0 ≤ n ∧ n ≤ 255 := by
  simp [Lit.wf, IntKind.min, IntKind.max, IntKind.bits, IntKind.signed] at h; omega
theorem code0_of {w : World} {s : Option Addr} {len cap : Nat} {zs : List Int} (h : IsRow .u8 w s len cap zs) : Code0 w s len cap := by
  rcases h with ⟨rfl, rfl, rfl, rfl⟩ | ⟨x, rfl, hl, hm, hz, hcell, hwz⟩
  · exact ⟨.inl rfl, Nat.le_refl _, Nat.zero_le _, .inl rfl⟩
  · rcases Nat.eq_zero_or_pos len with h0 | h0
    · exact ⟨.inl h0, hl, hm, .inl h0⟩
    · obtain ⟨b, off, spot⟩ := x
      have hc := hcell 0 (by omega)
      have hspot : spot = none := by simpa [Addr.add] using World.cell?_spot hc
      subst hspot
      have hb : b < w.heap.size := by have := World.block_lt_of_cell? w _ hc; simpa [Addr.add] using this
      refine ⟨.inr ⟨b, off, rfl, hb, fun i => zs.getD i 0, fun i hi => ?_⟩, hl, hm, .inr ⟨b, off, rfl⟩⟩
      have hi' : i < zs.length := by omega
      have ea : (⟨b, off, none⟩ : Addr).add i = ⟨b, off + i, none⟩ := by unfold Addr.add; split <;> simp_all
      refine ⟨by rw [← ea]; exact hcell i hi', ?_⟩
      have : zs.getD i 0 ∈ zs := by rw [List.getD_eq_getElem?_getD, List.getElem?_eq_getElem hi']; exact List.getElem_mem hi'
      exact wf_u8 (hwz _ this)
theorem Bytes.shorter {w : World} {s : Option Addr} {len len' b0 : Nat} (h : Bytes w s len b0) (hl : len' ≤ len) : Bytes w s len' b0 := by
  rcases h with h | ⟨b, off, e, hb, z, hz⟩
  · exact .inl (by omega)
  · exact .inr ⟨b, off, e, hb, z, fun i hi => hz i (by omega)⟩
theorem Code0.below {w w' : World} {s : Option Addr} {len cap : Nat} (h : Code0 w s len cap) (hb : Below w.heap.size w w') : Code0 w' s len cap := by
  refine ⟨?_, h.lc, h.cm, h.nn⟩
  rcases h.bt with h | ⟨b, off, e, hlt, z, hz⟩
  · exact .inl h
  · exact .inr ⟨b, off, e, by have := hb.size; omega, z, fun i hi => ⟨(hb.cell (p := ⟨b, off + i, none⟩) hlt).trans (hz i hi).1, (hz i hi).2⟩⟩
theorem new_rd {w : World} {s : Option Addr} {len cap b0 : Nat} (h : Bytes w s len b0) (hb : b0 ≤ w.heap.size) (hl : len ≤ 2000) (T : TypeId) : Rd b0 (w.alloc (.cells #[.slice s len cap, .int .i64 0] T)) w.heap.size s len 0 := by
  refine ⟨⟨cap, by simp⟩, by simp, by simp, h.keep fun b i hlt => ?_, hb, hl, by omega⟩
  exact (ba (Below.refl w.heap.size w) (.cells #[.slice s len cap, .int .i64 0] T)).cell (p := ⟨b, i, none⟩) (by simp; omega)
/-- a reader is opened -/
def Opened (w : World) (e : Ending) (w' : World) : Prop :=
  ∃ (B : Nat) (s' : Option Addr) (len' : Nat), w.heap.size = B ∧ e = .returned (.pointer (some ⟨B, 0, none⟩)) ∧ Rd w.heap.size w' B s' len' 0 ∧ Below w.heap.size w w'
theorem c_l6Open (s : Option Addr) (len cap : Nat) (w : World) (h : Code0 w s len cap) : Calls Try.prog 52 #[.slice s len cap] w (Opened w) := by
  have hc := h.lc
  have hm := h.cm
  unfold maxLen at hm
  by_cases hl : len ≤ 2000
  · go_enter Try.func52, Try.ntmps52
    go_wp2
    go_ret
    exact ⟨w.heap.size, s, len, rfl, rfl, new_rd h.bt (Nat.le_refl _) hl _, by repeat (first | exact Below.refl _ _ | assumption | refine Below.drew ?_ | refine bel_drewN ?_ _ | refine ba ?_ _ | refine bt2 ?_ (by assumption) | refine Below.setCell ?_ (by simp <;> omega) _)⟩
  · rcases h.nn with h0 | ⟨b, off, rfl⟩
    · omega
    go_enter Try.func52, Try.ntmps52
    go_wp2
    go_ret
    exact ⟨w.heap.size, some ⟨b, off, none⟩, 2000, rfl, rfl, new_rd (h.bt.shorter (by omega)) (Nat.le_refl _) (by omega) _, by repeat (first | exact Below.refl _ _ | assumption | refine Below.drew ?_ | refine bel_drewN ?_ _ | refine ba ?_ _ | refine bt2 ?_ (by assumption) | refine Below.setCell ?_ (by simp <;> omega) _)⟩
/-- a drawn number -/
def DrawnI (lo hi : Int) (k : Nat) (b0 B : Nat) (s : Option Addr) (len p : Nat) (w : World) (e : Ending) (w' : World) : Prop :=
  ∃ (x : Int) (p' : Nat), lo ≤ x ∧ x ≤ hi ∧ e = .returned (.int .i64 x) ∧ Rd b0 w' B s len p' ∧ p' ≤ p + k ∧ Oth B w w'
theorem c_l91Number {b0 : Nat} {w : World} {B : Nat} {s : Option Addr} {len p : Nat} (h : Rd b0 w B s len p) (hp : p + 2 < 1000000) :
    Calls Try.prog 53 #[.pointer (some ⟨B, 0, none⟩)] w (DrawnI (-100) 2000099 2 b0 B s len p w) := by
  go_enter Try.func53, Try.ntmps53
  go_wp2_with fail
  refine (c_pickR 200 (by omega) (by omega) h (by omega)).mono ?_
  rintro e w2 ⟨v, v1, v2, rfl, hR2, hO2⟩
  go_wp2_with fail
  refine (c_pickR 40 (by omega) (by omega) hR2 (by omega)).mono ?_
  rintro e w3 ⟨u, u1, u2, rfl, hR3, hO3⟩
  go_wp2
  go_ret
  exact ⟨_, _, by omega, by omega, rfl, hR3, by omega, hO2.trans hO3⟩
/-- a drawn class, and no reader stays -/
def DrawnC (w : World) (e : Ending) (w' : World) : Prop :=
  ∃ r m : Int, 1 ≤ m ∧ m ≤ 24 ∧ 0 ≤ r ∧ r ≤ m ∧ e = .returned (.agg #[.int .i64 r, .int .i64 m]) ∧ Below w.heap.size w w'
theorem oth_below {b0 B : Nat} {w w' : World} {s : Option Addr} {len p : Nat} (h : Oth B w w') (hR : Rd b0 w B s len p) : Below b0 w w' := h.below hR.le (by have := hR.lt; have := hR.le; omega)
theorem c_l91One (s : Option Addr) (len cap : Nat) (w : World) (h : Code0 w s len cap) : Calls Try.prog 44 #[.slice s len cap] w (DrawnC w) := by
  go_enter Try.func44, Try.ntmps44
  go_wp2_with fail
  refine (c_l6Open s len cap _ (h.below (ba (Below.refl _ _) _))).mono ?_
  rintro e w2 ⟨B, s', len', hB, rfl, hR2, hb2⟩
  have HB := Lib.hid hB
  clear hB
  go_wp2_with fail
  refine (c_l91Class hR2 (by omega)).mono ?_
  rintro e w3 ⟨r, m, p', m1, m2, r1, r2, rfl, hR3, hp3, hO3⟩
  have hb3 := hb2.trans (oth_below hO3 hR2)
  have k0 : w3.cell? ⟨w.heap.size, 0, none⟩ = some _ := kc hb3 0
  have k1 : w3.cell? ⟨w.heap.size, 1, none⟩ = some _ := kc hb3 1
  have f0 := kf hb3 0
  have f1 := kf hb3 1
  go_wp2
  refine bodyPost_ret (v := .agg #[.int .i64 r, .int .i64 m]) (by simp [results, Try.results44, go_sem, k0, k1]) rfl ⟨r, m, m1, m2, r1, r2, rfl, ?_⟩
  exact ((bt2 (ba (Below.refl _ _) _) hb3).setCell (by simp) _).setCell (by simp) _
end Go.Proofs.Ytenghhoofpjcaaa
