/- Contracts of what the laws of chapter 5 draw: a base, and rests. -/
import Derived.Test.YtnbejgbkabaleaaD5
import Derived.Test.YtnbejgbkabaleaaBe
import Derived.Test.YtnbejgbkabaleaaStepA
namespace Go.Proofs.Ytnbejgbkabaleaa
open Go.RowKit
theorem OwnI.oth {w w' : World} {B base : Nat} {e : TypeId} {v : Value} {zs : List Int} (h : OwnI w base e v zs) (k : Oth B w w') (hb : B < base) : OwnI w' base e v zs := by
  obtain ⟨h1, h2⟩ := h
  refine ⟨h1, ?_⟩
  rcases h2 with h2 | ⟨g, cap, cur, hv, hg, hh, r⟩
  · exact .inl h2
  · exact .inr ⟨g, cap, cur, hv, hg, by rw [k.block g (block_lt hh) (by omega)]; exact hh, r⟩
theorem mo_all {zs : List Int} (h : ∀ x ∈ zs, 1 ≤ x ∧ x ≤ 30) (i : Nat) : MB (mo zs i) := by
  unfold mo
  by_cases hi : i < zs.length
  · rw [List.getElem?_eq_getElem hi]
    exact h _ (List.getElem_mem hi)
  · rw [List.getElem?_eq_none (by omega)]
    exact ⟨by simp, by simp⟩
/-- a list of numbers is drawn: what it satisfies, and that the reader goes on -/
def DrL (k : Nat) (ok : List Int → Prop) (b0 B : Nat) (s : Option Addr) (len p : Nat) (w : World) (e : Ending) (w' : World) : Prop :=
  ∃ v zs p', e = .returned v ∧ OwnI w' w.heap.size 3 v zs ∧ ok zs ∧ Rd b0 w' B s len p' ∧ p' ≤ p + k ∧ Oth B w w'
def okL (zs : List Int) : Prop := 1 ≤ zs.length ∧ zs.length ≤ 4 ∧ ∀ i, MB (mo zs i)
theorem okL_of {zs : List Int} (h1 : 1 ≤ zs.length) (h2 : zs.length ≤ 4) (h : ∀ x ∈ zs, 1 ≤ x ∧ x ≤ 30) : okL zs := ⟨h1, h2, mo_all h⟩
theorem lit_own {w w2 : World} {zs : List Int} {n : Nat} {cs : Array Value} (h : w.heap.size ≤ w2.heap.size) (hn : zs.length = n) (hm : n ≤ 100) (hc : cs.toList = zs.map (Value.int .i64)) : OwnI (w2.alloc (.cells cs 3)) w.heap.size 3 (.slice (some ⟨w2.heap.size, 0, none⟩) n n) zs := by
  subst hn
  have := World.ownsRow_lit (e := 3) (base := w.heap.size) (size := 1) w2 cs zs.length h (by unfold maxLen; omega) (by rw [← Array.length_toList, hc]; simp)
  rw [hc] at this
  exact this
set_option maxRecDepth 20000 in
set_option maxHeartbeats 2000000 in
theorem c_l92Base {b0 : Nat} {w : World} {B : Nat} {s : Option Addr} {len p : Nat} (h : Rd b0 w B s len p) (hp : p + 4 < 1000000) :
    Calls Try.prog 44 #[.pointer (some ⟨B, 0, none⟩)] w (DrL 3 okL b0 B s len p w) := by
  have hB := h.lt
  go_enter Try.func44, Try.ntmps44
  go_wp2_with fail
  refine (c_pickR 8 (by omega) (by omega) h (by omega)).mono ?_
  rintro e w2 ⟨x, x1, x2, rfl, hR, hP⟩
  have hps := hP.size
  rcases (show x = 0 ∨ x = 1 ∨ x = 2 ∨ x = 3 ∨ x = 5 ∨ x = 6 ∨ x = 7 ∨ x = 4 by omega) with rfl | rfl | rfl | rfl | rfl | rfl | rfl | rfl
  case inl =>
    go_wp2_with fail
    go_ret
    exact ⟨_, [2, 3, 5], _, rfl, lit_own hps rfl (by omega) rfl, okL_of (by simp) (by simp) (by simp), hR.alloc _, by omega, hP.alloc _⟩
  case inr.inl =>
    go_wp2_with fail
    go_ret
    exact ⟨_, [7, 4], _, rfl, lit_own hps rfl (by omega) rfl, okL_of (by simp) (by simp) (by simp), hR.alloc _, by omega, hP.alloc _⟩
  case inr.inr.inl =>
    go_wp2_with fail
    go_ret
    exact ⟨_, [5], _, rfl, lit_own hps rfl (by omega) rfl, okL_of (by simp) (by simp) (by simp), hR.alloc _, by omega, hP.alloc _⟩
  case inr.inr.inr.inl =>
    go_wp2_with fail
    go_ret
    exact ⟨_, [9, 8, 5, 7], _, rfl, lit_own hps rfl (by omega) rfl, okL_of (by simp) (by simp) (by simp), hR.alloc _, by omega, hP.alloc _⟩
  case inr.inr.inr.inr.inl =>
    go_wp2_with fail
    go_ret
    exact ⟨_, [11, 3, 2], _, rfl, lit_own hps rfl (by omega) rfl, okL_of (by simp) (by simp) (by simp), hR.alloc _, by omega, hP.alloc _⟩
  case inr.inr.inr.inr.inr.inl =>
    go_wp2_with fail
    go_ret
    exact ⟨_, [3, 4], _, rfl, lit_own hps rfl (by omega) rfl, okL_of (by simp) (by simp) (by simp), hR.alloc _, by omega, hP.alloc _⟩
  case inr.inr.inr.inr.inr.inr.inl =>
    go_wp2_with fail
    go_ret
    exact ⟨_, [3, 4], _, rfl, lit_own hps rfl (by omega) rfl, okL_of (by simp) (by simp) (by simp), hR.alloc _, by omega, hP.alloc _⟩
  case inr.inr.inr.inr.inr.inr.inr =>
    go_wp2_with fail
    refine (c_pickR 30 (by omega) (by omega) hR (by omega)).mono ?_
    rintro e w3 ⟨y, y1, y2, rfl, hR3, hP3⟩
    go_wp2_with fail
    refine (c_pickR 30 (by omega) (by omega) hR3 (by omega)).mono ?_
    rintro e w4 ⟨z, z1, z2, rfl, hR4, hP4⟩
    have hP5 := hP.trans (hP3.trans hP4)
    go_wp2_with fail
    go_ret
    exact ⟨_, [1 + y, 1 + z], _, rfl, lit_own hP5.size rfl (by omega) rfl, okL_of (by simp) (by simp) (by simp; omega), hR4.alloc _, by omega, hP5.alloc _⟩
end Go.Proofs.Ytnbejgbkabaleaa
