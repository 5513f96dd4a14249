/- The program's without: a copy of a list of classes without one. -/
import Derived.Test.YtelgmmnjndinhaaS22
import Derived.Test.YtelgmmnjndinhaaH1
import Derived.Test.YtelgmmnjndinhaaCopy
namespace Go.Proofs.Ytelgmmnjndinhaa
open Go.RowKit
/-- a list of classes in a block of its own, perhaps with room behind it -/
def WidC (w : World) (base : Nat) (v : Value) (zs : List Cl) : Prop := ∃ g cap cur, v = .slice (some ⟨g, 0, none⟩) zs.length cap ∧ base ≤ g ∧ zs.length ≤ cap ∧ w.heap[g]? = some (.cells cur 45 (0, 0)) ∧ cur.toList.take (zs.length * 2) = cells2 zs ∧ ∃ room, zs.length ≤ room ∧ room ≤ maxLen ∧ cur.size = room * 2
theorem WidC.keep {w w' : World} {base : Nat} {v : Value} {zs : List Cl} (h : WidC w base v zs) (k : Below w.heap.size w w') : WidC w' base v zs := by
  obtain ⟨g, cap, cur, hv, hg, hc, hh, r⟩ := h
  exact ⟨g, cap, cur, hv, hg, hc, by rw [k.block g (block_lt hh)]; exact hh, r⟩
theorem WidC.low {w : World} {base b2 : Nat} {v : Value} {zs : List Cl} (h : WidC w base v zs) (k : b2 ≤ base) : WidC w b2 v zs := by
  obtain ⟨g, cap, cur, hv, hg, hc, hh, r⟩ := h
  exact ⟨g, cap, cur, hv, Nat.le_trans k hg, hc, hh, r⟩
theorem OwnC.wid {w : World} {base g n cap : Nat} {zs : List Cl} (h : OwnC w base 45 (.slice (some ⟨g, 0, none⟩) n cap) zs) (hn : zs.length = n) : WidC w base (.slice (some ⟨g, 0, none⟩) n cap) zs := by
  subst hn
  have h' : w.ownsRow base 45 2 (.slice (some ⟨g, 0, none⟩) zs.length cap) zs.length (cells2 zs) := h
  rcases h'.2 with ⟨h1, _⟩ | ⟨g', cap', cur, h1, hb, hg, hn, hm, hz, ht⟩
  · simp at h1
  · simp only [Value.slice.injEq, Option.some.injEq, Addr.mk.injEq, and_true] at h1
    obtain ⟨rfl, _, rfl⟩ := h1
    exact ⟨g, cap, cur, rfl, hb, hn, hg, ht, cap, hn, hm, hz⟩
theorem WidC.own {w : World} {base : Nat} {v : Value} {zs : List Cl} (h : WidC w base v zs) : ∃ s cap room, v = .slice s zs.length cap ∧ OwnC w base 45 (.slice s zs.length room) zs := by
  obtain ⟨g, cap, cur, hv, hg, hc, hh, ht, room, r1, r2, r3⟩ := h
  exact ⟨_, cap, room, hv, by rw [cells2_length], .inr ⟨g, room, cur, rfl, hg, hh, r1, r2, r3, ht⟩⟩
theorem wid_cells {w : World} {g : Nat} {zs : List Cl} {cur : Array Value} (hh : w.heap[g]? = some (.cells cur 45 (0, 0))) (ht : cur.toList.take (zs.length * 2) = cells2 zs) (j : Nat) (u : Value) (hj : (cells2 zs)[j]? = some u) : w.cell? ⟨g, j, none⟩ = some u := by
  have hlt : j < zs.length * 2 := by rw [← cells2_length]; exact (List.getElem?_eq_some_iff.1 hj).1
  rw [← ht, List.getElem?_take_of_lt hlt, Array.getElem?_toList] at hj
  simp [World.cell?, hh, hj]
theorem WidC.cls {w : World} {base g n cap : Nat} {zs : List Cl} (h : WidC w base (.slice (some ⟨g, 0, none⟩) n cap) zs) : Cls w (some ⟨g, 0, none⟩) n zs ∧ base ≤ g ∧ n ≤ cap ∧ zs.length = n := by
  obtain ⟨g', cap', cur, hv, hg, hc, hh, ht, _⟩ := h
  simp only [Value.slice.injEq, Option.some.injEq, Addr.mk.injEq, and_true] at hv
  obtain ⟨rfl, rfl, rfl⟩ := hv
  refine ⟨⟨rfl, .inr ⟨g, 0, rfl, block_lt hh, fun i hi => ?_⟩⟩, hg, hc, rfl⟩
  rw [Nat.zero_add]
  exact ⟨wid_cells hh ht _ _ (cells2_0 zs i hi), wid_cells hh ht _ _ (cells2_1 zs i hi)⟩
theorem splice_erase (zs : List Cl) (i : Nat) (hi : i < zs.length) : (splice (cells2 zs) (i * 2) (cells2 (zs.drop (i + 1)))).take ((zs.length - 1) * 2) = cells2 (zs.eraseIdx i) := by
  unfold splice
  rw [List.eraseIdx_eq_take_drop_succ, cells2_append, ← List.append_assoc, cells2_take]
  refine List.take_left' ?_
  rw [List.length_append, cells2_length, cells2_length, List.length_take, List.length_drop]
  omega
end Go.Proofs.Ytelgmmnjndinhaa
