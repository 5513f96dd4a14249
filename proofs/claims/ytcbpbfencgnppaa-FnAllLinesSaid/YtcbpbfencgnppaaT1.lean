/- Lists of lists of numbers: as they lie in memory, laid anew, counted, compared. -/
import Derived.Test.YtcbpbfencgnppaaH3
import Derived.OwnWalk
import Derived.Laws.OwnMore
import Derived.Deep.RegionHeld3
namespace Go.Proofs.Ytcbpbfencgnppaa
open Go.RowKit
/-- a list of lists of numbers that can be read -/
structure Ints2 (w : World) (s : Option Addr) (n : Nat) (zss : List (List Int)) : Prop where
  len : zss.length = n
  lies : n = 0 ∨ ∃ b off, s = some ⟨b, off, none⟩ ∧ b < w.heap.size ∧ ∀ i, i < n → ∃ (t : Option Addr) (c : Nat), w.cell? ⟨b, off + i, none⟩ = some (.slice t (zss[i]?.getD []).length c) ∧ Ints w t (zss[i]?.getD []).length (zss[i]?.getD [])
theorem Ints2.keep {w w' : World} {s : Option Addr} {n : Nat} {zss : List (List Int)} (h : Ints2 w s n zss) (k : Below w.heap.size w w') : Ints2 w' s n zss := by
  refine ⟨h.len, ?_⟩
  rcases h.lies with h0 | ⟨b, off, hs, hb, hc⟩
  · exact .inl h0
  · refine .inr ⟨b, off, hs, Nat.lt_of_lt_of_le hb k.size, fun i hi => ?_⟩
    obtain ⟨t, c, h1, h2⟩ := hc i hi
    exact ⟨t, c, by rw [k.cell (p := ⟨b, off + i, none⟩) hb]; exact h1, h2.keep k⟩
theorem infoS : (Try.prog.info? 33).map (fun i => (i.zero, i.size, i.bytes)) = some (some (.slice none 0 0), 1, 24) := by kernel_rfl
theorem infoT : (Try.prog.info? 3).map (fun i => (i.zero, i.size, i.bytes)) = some (some (.int .i64 0), 1, 8) := by kernel_rfl
/-! one list laid anew -/
theorem madeT (n : Nat) : (madeCells #[Value.int .i64 0] (n * 1)).toList = (List.replicate n (0 : Int)).map (Value.int .i64) := by
  rw [Nat.mul_one, List.map_replicate]
  apply List.ext_getElem?
  intro j
  by_cases hj : j < n
  · simp [madeCells, hj, Nat.mod_one]
  · simp [madeCells, hj]
/-- the first k of a list, 0 behind them -/
def preT (zs : List Int) (k : Nat) : List Int := zs.take k ++ List.replicate (zs.length - k) 0
theorem preT_length (zs : List Int) (k : Nat) (hk : k ≤ zs.length) : (preT zs k).length = zs.length := by
  unfold preT
  rw [List.length_append, List.length_take, List.length_replicate]
  omega
theorem preT_all (zs : List Int) : preT zs zs.length = zs := by simp [preT]
theorem preT_succ (zs : List Int) (k : Nat) (hk : k < zs.length) : (preT zs k).set k (zs[k]?.getD 0) = preT zs (k + 1) := by
  unfold preT
  rw [List.set_append_right _ _ (by rw [List.length_take]; omega), List.length_take, Nat.min_eq_left (by omega), Nat.sub_self, show zs.length - k = (zs.length - (k + 1)) + 1 by omega, List.replicate_succ, List.set_cons_zero,
    show zs[k]?.getD 0 = zs[k] by simp [hk], List.take_succ_eq_append_getElem hk, List.append_assoc]
  rfl
def ToT (w : World) (zs : List Int) (e : Ending) (w' : World) : Prop := ∃ g, w.heap.size ≤ g ∧ e = .returned (.slice (some ⟨g, 0, none⟩) zs.length zs.length) ∧ OwnI w' w.heap.size 3 (.slice (some ⟨g, 0, none⟩) zs.length zs.length) zs ∧ Below w.heap.size w w'
/-! how many -/
/-- how many numbers are in the first k lists -/
def totK (zss : List (List Int)) : Nat → Nat
  | 0 => 0
  | k + 1 => totK zss k + (zss[k]?.getD []).length
theorem totK_le {zss : List (List Int)} {i k : Nat} (h : i < k) : (zss[i]?.getD []).length ≤ totK zss k := by
  induction k with
  | zero => omega
  | succ k ih =>
    simp only [totK]
    by_cases e : i = k
    · subst e; omega
    · have := ih (by omega); omega
def szR (l : Int) (n : Nat) (zss : List (List Int)) : Int := if l < (n : Int) + totK zss n then -1 else l - n - totK zss n
theorem totK_mono {zss : List (List Int)} {i k : Nat} (h : i ≤ k) : totK zss i ≤ totK zss k := by
  induction k with
  | zero => have : i = 0 := by omega
            subst this; exact Nat.le_refl _
  | succ k ih =>
    by_cases e : i = k + 1
    · subst e; exact Nat.le_refl _
    · have := ih (by omega); simp only [totK]; omega
/-! laid anew -/
def ToSS (w : World) (n : Nat) (zss : List (List Int)) (e : Ending) (w' : World) : Prop := ∃ g, w.heap.size ≤ g ∧ e = .returned (.slice (some ⟨g, 0, none⟩) n n) ∧ Ints2 w' (some ⟨g, 0, none⟩) n zss ∧ Below w.heap.size w w'
theorem Ints.set {w : World} {g b : Nat} {n : Nat} {zs : List Int} (h : Ints w (some ⟨g, 0, none⟩) n zs) (hne : b ≠ g) (i : Nat) (v : Value) : Ints (w.setCell ⟨b, i, none⟩ v) (some ⟨g, 0, none⟩) n zs := by
  refine ⟨h.len, ?_⟩
  rcases h.lies with h0 | ⟨b', off, hs, hb, hc⟩
  · exact .inl h0
  · refine .inr ⟨b', off, hs, by simpa [World.setCell] using hb, fun j hj => ?_⟩
    simp only [Option.some.injEq, Addr.mk.injEq] at hs
    obtain ⟨rfl, _, _⟩ := hs
    rw [cell_other (by first | (simp; done) | (simp; omega))]
    exact hc j hj
theorem drew_below (w : World) : Below w.heap.size w w.drew := (Below.refl _ _).drew
end Go.Proofs.Ytcbpbfencgnppaa
