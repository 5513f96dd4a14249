/- The program's inOrder: a copy of a list of classes, sorted: a system in another order. -/
import Derived.Test.YtnmlljhgilpocaaDoorMg8
import Derived.Test.YtnmlljhgilpocaaDoorMz2
import Derived.Test.YtnmlljhgilpocaaDoorS3
import Derived.Test.YtnmlljhgilpocaaDoorShelf
import Derived.Shelf.SlicesE.Clone
import Derived.Shelf.Small.Bits
import Derived.Test.YtnmlljhgilpocaaDoorCA
import Derived.Shelf.SlIterI.Nil
import Derived.Shelf.SortM.Plain
import Derived.Shelf.SortM.SortNone
import Derived.Maps.Own
import Derived.Maps.OwnSet
import Derived.Maps.Views
namespace Go.Proofs.YtnmlljhgilpocaaDoor
open Go.RowKit
open Go.Sort Go.Shelf
theorem modI_neg (c d : Cl) : modI c d < 0 ↔ c.2 < d.2 ∨ (c.2 = d.2 ∧ c.1 < d.1) := by
  unfold modI orI cmpI
  split <;> (repeat' split) <;> omega
theorem swo_modI : SWO (ltOf modI) where
  irrefl x := by
    simp only [ltOf, decide_eq_false_iff_not, modI_neg]; omega
  trans x y z h1 h2 := by
    simp only [ltOf, decide_eq_true_eq, modI_neg] at *; omega
  ntrans x y z h1 h2 := by
    simp only [ltOf, decide_eq_false_iff_not, modI_neg] at *; omega
theorem holdsK_of {w : World} {base g n cap : Nat} {zs : List Cl} (h : OwnC w base 41 (.slice (some ⟨g, 0, none⟩) n cap) zs) (hn : zs.length = n) : HoldsK encC 2 w g 0 zs.toArray := by
  intro t ht
  rw [size_flatK] at ht
  simp only [List.size_toArray] at ht
  rw [get_flatK _ _ _ _ (by simpa using ht)]
  have hlt : t / 2 < zs.length := by omega
  refine ⟨?_, h.free hn _⟩
  have hd : t = t / 2 * 2 ∨ t = t / 2 * 2 + 1 := by omega
  rw [Nat.zero_add]
  rcases hd with hd | hd
  · have hm : t % 2 = 0 := by omega
    have := h.cell0 hn (t / 2) (by omega)
    rw [← hd] at this
    rw [this, hm]
    simp [encC, rAt, hlt]
  · have hm : t % 2 = 1 := by omega
    have := h.cell1 hn (t / 2) (by omega)
    rw [← hd] at this
    rw [this, hm]
    simp [encC, mAt, hlt]
theorem cls_of_holds {w : World} {g n : Nat} {zs : List Cl} (h : HoldsK encC 2 w g 0 zs.toArray) (hg : g < w.heap.size) (hn : zs.length = n) : Cls w (some ⟨g, 0, none⟩) n zs := by
  refine ⟨hn, .inr ⟨g, 0, rfl, hg, fun i hi => ?_⟩⟩
  have hlt : i < zs.length := by omega
  have h0 := (HoldsK.cell h (i := i) (c := 0) (by simpa using hlt) (by decide)).1
  have h1 := (HoldsK.cell h (i := i) (c := 1) (by simpa using hlt) (by decide)).1
  refine ⟨?_, ?_⟩
  · rw [Nat.add_zero] at h0
    rw [h0]
    simp [encC, rAt, hlt]
  · rw [h1]
    simp [encC, mAt, hlt]
end Go.Proofs.YtnmlljhgilpocaaDoor
namespace Go.Proofs.YtnmlljhgilpocaaDoor
open Go.RowKit
open Go.Maps Go.Sort Go.Shelf
open Go.ChangeMaps Go.MapKept
theorem below_grown {w w' : World} (h : Below w.heap.size w w') (row : Option Nat) : w.grownBy w' row := ⟨h.os, h.tape, h.output, h.size, fun i hi _ => h.block i hi⟩
theorem ownsMap_clear {H : Type} {P : Program} {k t e : TypeId} {R : Value → Option (DataW H × List MemPlace)} {w : World} {b n : Nat} {D : DataW H} (h : w.ownsMap P k R b n D) (ht : P.underlying t = some (.map k e)) (ty : TypeId) :
    ∃ w', (Builtin.clear_ #[t] ty #[.map (some b)]).run P w = .ok (.tuple #[]) w' ∧ w'.ownsMap P k R b 0 (.map []) ∧ w.grownBy w' (some b) := by
  obtain ⟨es, clock, hb, F, hs, rfl⟩ := h
  refine ⟨setBlock w b (.map #[] clock), ?_, ⟨#[], clock, heap_setBlock_same hb _, ⟨by simp, stamped_empty _, by simp⟩, Nat.le_refl _, rfl⟩, ?_⟩
  · simp [Builtin.clear_, run_underlying ht, MapKept.run_getObj_map hb, MapKept.run_setObj_map _ hb, Result.andThen, setBlock]
  · exact ⟨rfl, rfl, rfl, by simp [setBlock], fun i _ hi => heap_setBlock_other hb _ (fun e => hi (by rw [e]))⟩
theorem wpList_clear_own {H : Type} {P : Program} (w : World) {ops : Array Oper} {rest : List Oper} {o : Oper} {a : Act} {Q : Exit → Act → World → Prop}
    (hg : o.guard = none) (m : Operand) (t : TypeId) (hop : o.op = Op.call { callee := Callee.builtin Builtin.clear, args := #[m], argTypes := #[t] })
    (k e : TypeId) (ht : P.underlying t = some (.map k e)) (R : Value → Option (DataW H × List MemPlace)) (b n : Nat) (D : DataW H)
    (hm : a.eval m = .map (some b)) (hown : w.ownsMap P k R b n D)
    (hK : ∀ w', w'.ownsMap P k R b 0 (.map []) → w.grownBy w' (some b) → wpList P ops Q rest (a.put o.dst (.tuple #[])) w') :
    wpList P ops Q (o :: rest) a w := by
  refine wpList_plain hg fun K' hK' => ?_
  obtain ⟨w', hrun, r1, r2⟩ := ownsMap_clear hown ht o.type
  unfold Oper.wp
  simp [execOp, hop, resolve, invoke, builtin, hm, hrun, Result.andThen]
  exact hK' _ _ (hK w' r1 r2)
/-- the map in which the holes below k are marked -/
def hD (zs : List Cl) (k : Nat) : DataW Unit := Maps.setOf (.lit (.bool true)) ((holK zs k).map (Lit.int .i64))
theorem holK_succ (zs : List Cl) (k : Nat) : holK zs (k + 1) = bif covB zs k then holK zs k else holK zs k ++ [(k : Int)] := by
  rw [covB_cnt]
  simp only [holK]
  cases cntN zs k == 0 <;> rfl
theorem holK_perm {zs ys : List Cl} (h : List.Perm zs ys) (k : Nat) : holK ys k = holK zs k := by
  induction k with
  | zero => rfl
  | succ k ih => rw [holK_succ, holK_succ, ih, covB_perm h]
theorem holK_mem (zs : List Cl) (k : Nat) (x : Int) : x ∈ holK zs k ↔ 0 ≤ x ∧ x < k ∧ covB zs x = false := by
  induction k with
  | zero =>
    simp only [holK, List.not_mem_nil, false_iff]
    omega
  | succ k ih =>
    rw [holK_succ]
    by_cases hk : x = (k : Int)
    · subst hk
      cases h : covB zs k
      · simp; omega
      · simp [ih, h]
    · cases h : covB zs k
      · simp only [cond_false, List.mem_append, ih, List.mem_singleton, hk, or_false]
        constructor
        · rintro ⟨a, b, c⟩; exact ⟨a, by omega, c⟩
        · rintro ⟨a, b, c⟩; exact ⟨a, by omega, c⟩
      · simp only [cond_true, ih]
        constructor
        · rintro ⟨a, b, c⟩; exact ⟨a, by omega, c⟩
        · rintro ⟨a, b, c⟩; exact ⟨a, by omega, c⟩
theorem holK_asc (zs : List Cl) (k : Nat) : (holK zs k).Pairwise (· < ·) := by
  induction k with
  | zero => exact List.Pairwise.nil
  | succ k ih =>
    rw [holK_succ]
    cases covB zs k
    · refine List.pairwise_append.2 ⟨ih, List.pairwise_singleton _ _, fun a ha b hb => ?_⟩
      simp only [List.mem_singleton] at hb
      subst hb
      exact ((holK_mem zs k a).1 ha).2.1
    · exact ih
theorem hD_step {zs : List Cl} {k : Nat} (h : covB zs k = false) : (hD zs k).put (.int .i64 k) (.lit (.bool true)) = hD zs (k + 1) := by
  unfold hD
  rw [holK_succ, h, cond_false, List.map_append, List.map_singleton, setOf_snoc]
theorem hD_stay {zs : List Cl} {k : Nat} (h : covB zs k = true) : hD zs (k + 1) = hD zs k := by
  unfold hD
  rw [holK_succ, h, cond_true]
theorem hD_has (zs : List Cl) (k : Nat) (x : Int) : Maps.has (hD zs k) (.int .i64 x) = true ↔ x ∈ holK zs k := by
  unfold hD
  rw [has_setOf _ _ _ (by intro y hy; obtain ⟨z, _, rfl⟩ := List.mem_map.1 hy; simp [WideAt.IsKeyLit])]
  simp [List.any_eq_true, Lit.sameKey]
theorem sorted_of_perm {zs : List Cl} {k : Nat} {ss : List Int} (h : ss.Perm (holK zs k)) : (ss.mergeSort fun x y => decide (x ≤ y)) = holK zs k := by
  rw [show (ss.mergeSort fun x y => decide (x ≤ y)) = ss.mergeSort leI from rfl, mergeSort_of_perm_i h]
  refine List.mergeSort_of_pairwise ((holK_asc zs k).imp fun {a b} hab => ?_)
  simp only [leI, decide_eq_true_eq]
  omega
def HolPost (zs : List Cl) (E b : Nat) (w : World) (e : Ending) (w' : World) : Prop := ∃ v nn D, e = .returned v ∧ OwnI w' w.heap.size 3 v (holK zs E) ∧ w'.ownsMap Tryd.prog 3 (plainElem (H := Unit) Tryd.prog 4) b nn D ∧ w.grownBy w' (some b)
end Go.Proofs.YtnmlljhgilpocaaDoor
