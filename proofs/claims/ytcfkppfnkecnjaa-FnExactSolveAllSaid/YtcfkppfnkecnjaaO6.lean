/- A list of lists of numbers that came in, opened. -/
import Derived.Test.YtcfkppfnkecnjaaChecked
import Derived.Test.YtcfkppfnkecnjaaT1
import Derived.WalkKit
import Derived.ProofKit
import Derived.OpenShut
import Derived.ChangeArms
import Derived.KernelRfl
import Derived.Below
import Derived.Lib.SmallJoins
import Derived.Deep.Matrix
namespace Go.Proofs.Ytcfkppfnkecnjaa
open Go.ChangeShapes Go.WideShapes Go.ChangeAt Go.RowKit Go.Joins
theorem add_at (b off j : Nat) : (⟨b, off, none⟩ : Addr).add j = ⟨b, off + j, none⟩ := by unfold Addr.add; split <;> simp_all
theorem row_of {W : World} {A : Option Addr} {L C : Nat} {Z : List Int} (h1 : L ≤ C) (h2 : Z.length = C) (h3 : A = none → C = 0) (h4 : ∀ a, A = some a → ∀ c, c < C → W.cell? (a.add c) = some (.int .i64 (Z.getD c 0))) : Ints W A L (Z.take L) := by
  refine ⟨by rw [List.length_take]; omega, ?_⟩
  rcases Nat.eq_zero_or_pos L with h0 | h0
  · exact .inl h0
  · right
    cases hA : A with
    | none => have := h3 hA; omega
    | some a =>
      obtain ⟨b, off, spot⟩ := a
      have hc := h4 _ hA 0 (by omega)
      have hspot : spot = none := by simpa [Addr.add] using World.cell?_spot hc
      subst hspot
      have hb : b < W.heap.size := by have := World.block_lt_of_cell? W _ hc; simpa [Addr.add] using this
      refine ⟨b, off, rfl, hb, fun i hi => ?_⟩
      have := h4 _ hA i (by omega)
      rw [add_at] at this
      rw [this, List.getElem?_take, if_pos hi, List.getD_eq_getElem?_getD]
theorem ints2_of {H : Type} {enc : TypeId × Value → H} {W : World} {s : Option Addr} {len cap : Nat} {d : DataW H} {p : List MemPlace} (h : DataW.Trod enc Try.prog W 0 (fun _ => true) true 28 (.slice s len cap) d p) :
    len ≤ 9223372036854775807 ∧ ∃ zss, (∀ i, i < len → (zss[i]?.getD []).length ≤ 9223372036854775807) ∧ Ints2 W s len zss := by
  obtain ⟨fuel, hf⟩ := h
  rcases Go.Deep.open_int_rows Try.underlying28 Try.underlying39 Try.underlying3 (by kernel_rfl) (by kernel_rfl) hf with ⟨hcs, _⟩ | ⟨a, l, c, A, L, C, Z, hcs, _, hl, hm, _, hr⟩
  · simp [Value.cells] at hcs
    obtain ⟨rfl, rfl, rfl⟩ := hcs
    exact ⟨by omega, [], fun i hi => by omega, rfl, .inl rfl⟩
  · simp [Value.cells] at hcs
    obtain ⟨rfl, rfl, rfl⟩ := hcs
    have hm' : cap ≤ 9223372036854775807 := by unfold maxLen at hm; omega
    have hget : ∀ i, i < len → (((List.range len).map fun r => (Z r).take (L r))[i]?.getD []) = (Z i).take (L i) := fun i hi => by simp [hi]
    refine ⟨by omega, (List.range len).map fun r => (Z r).take (L r), fun i hi => ?_, by simp, ?_⟩
    · obtain ⟨_, h1, h2, h3, _⟩ := hr i (by omega)
      rw [hget i hi, List.length_take]
      unfold maxLen at h2
      omega
    · rcases Nat.eq_zero_or_pos len with h0 | h0
      · exact .inl h0
      · right
        obtain ⟨b, off, spot⟩ := a
        have hc := (hr 0 (by omega)).1
        have hspot : spot = none := by simpa [Addr.add] using World.cell?_spot hc
        subst hspot
        have hb : b < W.heap.size := by have := World.block_lt_of_cell? W _ hc; simpa [Addr.add] using this
        refine ⟨b, off, rfl, hb, fun i hi => ?_⟩
        obtain ⟨h1, h2, h3, h4, _, h5, h6⟩ := hr i (by omega)
        rw [hget i hi]
        have hlen : ((Z i).take (L i)).length = L i := by rw [List.length_take]; omega
        rw [add_at] at h1
        rw [hlen]
        exact ⟨A i, C i, h1, row_of h2 h4 h5 (fun a ha => (h6 a ha).2)⟩
end Go.Proofs.Ytcfkppfnkecnjaa
