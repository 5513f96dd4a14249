/- Chapter 7, the model: flags, moved, scaled, compared. -/
import Derived.Test.YtchplpaniafhlaaTa
import Derived.Test.YtchplpaniafhlaaRow
import Derived.OwnWalk
import Derived.Laws.OwnMore
namespace Go.Proofs.Ytchplpaniafhlaa
open Go.RowKit
theorem infoR : (Try.prog.info? 3).map (fun i => (i.zero, i.size, i.bytes)) = some (some (.int .i64 0), 1, 8) := by kernel_rfl
theorem infoB : (Try.prog.info? 4).map (fun i => (i.zero, i.size, i.bytes)) = some (some (.bool false), 1, 1) := by kernel_rfl
theorem one_newR (w : World) (x : Value) (t : TypeId) : ∀ j u, [x][j]? = some u → (w.alloc (.cells #[x] t)).cell? ((⟨w.heap.size, 0, none⟩ : Addr).add j) = some u := by
  intro j u hj
  match j, hj with
  | 0, hj => simp at hj; subst hj; simp [Addr.add]
def RetL (w : World) (zs : List Int) (e : Ending) (w' : World) : Prop := ∃ v, e = .returned v ∧ OwnI w' w.heap.size 3 v zs ∧ Below w.heap.size w w'
def RetLB (w : World) (zs : List Int) (ok : Bool) (e : Ending) (w' : World) : Prop := ∃ v, e = .returned (.tuple #[v, .bool ok]) ∧ OwnI w' w.heap.size 3 v zs ∧ Below w.heap.size w w'
theorem mks_at (n : Nat) (l : List Int) (k : Nat) (h : k < n) : (flg (mks n l))[k]?.getD (.bool false) = .bool (decide ((k : Int) ∈ l)) := by
  have := mks_get n l (k : Int) (by omega) (by omega)
  simpa using this
theorem mks_put (n : Nat) (l : List Int) (k : Nat) (h : k < n) : (flg (mks n l)).set k (.bool true) = flg (mks n (l ++ [(k : Int)])) := by
  have := mks_set n l (k : Int) (by omega) (by omega)
  simpa using this
theorem take_next (f : Int → Int) (z : List Int) (k : Nat) (h : k < z.length) : (z.map f).take (k + 1) = (z.map f).take k ++ [f (gZ z k)] := by
  rw [List.take_succ_eq_append_getElem (by simpa using h)]
  congr 2
  simp [gZ_get z k h]
theorem tsizes {n : Int} {z : List Int} {l : Nat} (h : Til n z) (hl : z.length = l) : 1 ≤ n ∧ n ≤ 24 ∧ 1 ≤ l ∧ l ≤ 24 := by
  have h1 := h.1
  have h2 := h.2.1
  have h3 := h.len
  exact ⟨h1, h2, by omega, by omega⟩
theorem tmd_cases (n t : Int) (z : List Int) : (tilB n z = false) ∨ (tilB n z = true ∧ l6B t (-1000) 1000 = false) ∨ (tilB n z = true ∧ l6B t (-1000) 1000 = true) := by
  cases tilB n z <;> cases l6B t (-1000) 1000 <;> simp
theorem eq_gZ {z y : List Int} (hl : z.length = y.length) (h : ∀ i, i < z.length → gZ z i = gZ y i) : z = y := by
  apply List.ext_getElem hl
  intro i h1 h2
  rw [← gZ_get z i h1, ← gZ_get y i h2]
  exact h i h1
end Go.Proofs.Ytchplpaniafhlaa
