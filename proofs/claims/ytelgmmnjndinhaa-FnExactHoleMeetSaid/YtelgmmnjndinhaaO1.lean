/- A list of classes that came in, opened: its cells hold pairs of numbers. -/
import Derived.Test.YtelgmmnjndinhaaChecked
import Derived.Test.YtelgmmnjndinhaaMathS
import Derived.WalkKit
import Derived.ProofKit
import Derived.OpenShut
import Derived.ChangeArms
import Derived.Deep.SlicePairs
import Derived.KernelRfl
import Derived.Below
import Derived.Lib.SmallJoins
namespace Go.Proofs.Ytelgmmnjndinhaa
open Go.ChangeShapes Go.WideShapes Go.ChangeAt Go.RowKit Go.Joins
theorem cellsOfC : Try.prog.cellsOf 47 = 2 := by kernel_rfl
theorem cellsOfI : Try.prog.cellsOf 3 = 1 := by kernel_rfl
theorem cls_of {H : Type} {enc : TypeId × Value → H} {W : World} {s : Option Addr} {len cap : Nat} {d : DataW H} {p : List MemPlace} (h : DataW.Trod enc Try.prog W 0 (fun _ => true) true 22 (.slice s len cap) d p) :
    len ≤ 9223372036854775807 ∧ ∃ zs, Cls W s len zs := by
  obtain ⟨fuel, hf⟩ := h
  rcases Go.Deep.open_slice_pairs Try.underlying22 Try.underlying47 cellsOfC rfl rfl cellsOfI cellsOfI hf with ⟨hcs, _⟩ | ⟨a, l, c, m, n, V0, V1, D0, D1, P0, P1, hcs, _, hl, hm, hmm, _, hi⟩
  · simp [Value.cells] at hcs
    obtain ⟨rfl, rfl, rfl⟩ := hcs
    exact ⟨by omega, [], rfl, .inl rfl⟩
  · simp [Value.cells] at hcs
    obtain ⟨rfl, rfl, rfl⟩ := hcs
    simp only [if_true] at hmm
    have hm' : cap ≤ 9223372036854775807 := by unfold maxLen at hm; omega
    refine ⟨by omega, (List.range len).map fun i => (intOf (V0 i), intOf (V1 i)), by simp, ?_⟩
    rcases Nat.eq_zero_or_pos len with h0 | h0
    · exact .inl h0
    · right
      obtain ⟨b, off, spot⟩ := a
      have hc := (hi 0 (by omega)).1
      have hspot : spot = none := by simpa [Addr.add] using World.cell?_spot hc
      subst hspot
      have hb : b < W.heap.size := by have := World.block_lt_of_cell? W _ hc; simpa [Addr.add] using this
      refine ⟨b, off, rfl, hb, fun i hlt => ?_⟩
      obtain ⟨c0, c1, t0, t1⟩ := hi i (by omega)
      obtain ⟨r, e0, _, _⟩ := DataW.trod_int Try.underlying3 t0
      obtain ⟨q, e1, _, _⟩ := DataW.trod_int Try.underlying3 t1
      simp at e0 e1
      have ea : ∀ j, (⟨b, off, none⟩ : Addr).add j = ⟨b, off + j, none⟩ := by intro j; unfold Addr.add; split <;> simp_all
      rw [ea] at c0 c1
      rw [e0] at c0
      rw [e1] at c1
      refine ⟨by rw [c0]; simp [rAt, hlt, e0, intOf], ?_⟩
      rw [← Nat.add_assoc] at c1
      rw [c1]; simp [mAt, hlt, e1, intOf]
end Go.Proofs.Ytelgmmnjndinhaa
