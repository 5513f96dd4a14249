/- The program's without. -/
import Derived.Test.YtgokhchkpjnnlaaS24
namespace Go.Proofs.Ytgokhchkpjnnlaa
open Go.RowKit
theorem eraseIdx_len {zs : List Cl} {i : Nat} (h : i < zs.length) : (zs.eraseIdx i).length = zs.length - 1 := List.length_eraseIdx_of_lt h
theorem row_cur {w : World} {base k g n cap : Nat} {e : TypeId} {xs : List Value} (h : w.ownsRow base e k (.slice (some ⟨g, 0, none⟩) n cap) n xs) : ∃ L : List Value, w.heap[g]? = some (.cells L.toArray e (0, 0)) ∧ L.length = cap * k := by
  rcases h.2 with ⟨h1, _⟩ | ⟨g', cap', cur, h1, _, hg, _, _, hs, _⟩
  · simp at h1
  · simp only [Value.slice.injEq, Option.some.injEq, Addr.mk.injEq, and_true] at h1
    obtain ⟨rfl, _, rfl⟩ := h1
    exact ⟨cur.toList, by simpa using hg, by simpa using hs⟩
theorem slc_part {P : Prop} [Decidable P] {g d : Nat} (h : P) : (if P then (some ⟨g, d, none⟩ : Option Addr) else some ⟨g, 0, none⟩) = some ⟨g, d, none⟩ := if_pos h
end Go.Proofs.Ytgokhchkpjnnlaa
