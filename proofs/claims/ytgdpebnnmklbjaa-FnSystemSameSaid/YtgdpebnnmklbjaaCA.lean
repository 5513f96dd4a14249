/- Cells of a list of classes that lies in memory. -/
import Derived.Test.YtgdpebnnmklbjaaMathS
namespace Go.Proofs.Ytgdpebnnmklbjaa
open Go.RowKit
theorem cls_cells {w : World} {b off n : Nat} {zs : List Cl} (hlen : zs.length = n) (hcells : ∀ i, i < n → w.cell? ⟨b, off + i * 2, none⟩ = some (.int .i64 (rAt zs i)) ∧ w.cell? ⟨b, off + i * 2 + 1, none⟩ = some (.int .i64 (mAt zs i))) : ∀ (j : Nat) (u : Value), (cells2 zs)[j]? = some u → w.cell? ⟨b, off + j, none⟩ = some u := by
  intro j u hj
  have hj2 : j < zs.length * 2 := by rw [← cells2_length]; exact (List.getElem?_eq_some_iff.1 hj).1
  have hd : j = j / 2 * 2 ∨ j = j / 2 * 2 + 1 := by omega
  have hlt : j / 2 < zs.length := by omega
  rcases hd with hd | hd
  · rw [hd] at hj ⊢
    rw [cells2_0 zs _ hlt] at hj
    rw [← hj]
    exact (hcells (j / 2) (by omega)).1
  · rw [hd] at hj ⊢
    rw [cells2_1 zs _ hlt] at hj
    rw [← hj, ← Nat.add_assoc]
    exact (hcells (j / 2) (by omega)).2
theorem cells2_oc (zs : List Cl) : ∀ u ∈ cells2 zs, u.oneCell' = true := by
  induction zs with
  | nil => intro u hu; simp [cells2] at hu
  | cons c t ih =>
    intro u hu
    simp only [cells2, List.mem_cons] at hu
    rcases hu with rfl | rfl | hu
    · rfl
    · rfl
    · exact ih u hu
theorem cls_at {w : World} {b off n : Nat} {zs : List Cl} (h : Cls w (some ⟨b, off, none⟩) n zs) (h0 : 0 < n) : ∀ (j : Nat) (u : Value), (cells2 zs)[j]? = some u → w.cell? ((⟨b, off, none⟩ : Addr).add j) = some u := by
  intro j u hj
  rw [Addr.add_lit]
  rcases h.lies with h1 | ⟨b', off', e, _, hcells⟩
  · omega
  · simp only [Option.some.injEq, Addr.mk.injEq, and_true] at e
    obtain ⟨rfl, rfl⟩ := e
    exact cls_cells h.len hcells j u hj
theorem cells2_drop (zs : List Cl) (i : Nat) : (cells2 zs).drop (i * 2) = cells2 (zs.drop i) := by
  induction zs generalizing i with
  | nil => simp [cells2]
  | cons c t ih =>
    cases i with
    | zero => rfl
    | succ i =>
      rw [show (i + 1) * 2 = i * 2 + 1 + 1 by omega]
      simpa [cells2] using ih i
theorem cells2_take (zs : List Cl) (i : Nat) : (cells2 zs).take (i * 2) = cells2 (zs.take i) := by
  induction zs generalizing i with
  | nil => simp [cells2]
  | cons c t ih =>
    cases i with
    | zero => rfl
    | succ i =>
      rw [show (i + 1) * 2 = i * 2 + 1 + 1 by omega]
      simpa [cells2] using ih i
theorem cells2_takeAt {zs : List Cl} {i j : Nat} {u : Value} (h : (cells2 (zs.take i))[j]? = some u) : (cells2 zs)[j]? = some u := by
  rw [← cells2_take] at h
  obtain ⟨hl, _⟩ := List.getElem?_eq_some_iff.1 h
  rw [List.length_take] at hl
  rwa [List.getElem?_take_of_lt (by omega)] at h
theorem cells2_dropAt {zs : List Cl} {i j : Nat} {u : Value} (h : (cells2 (zs.drop i))[j]? = some u) : (cells2 zs)[i * 2 + j]? = some u := by
  rwa [← cells2_drop, List.getElem?_drop] at h
theorem add_add (b a c j : Nat) : (⟨b, a + c, none⟩ : Addr).add j = (⟨b, a, none⟩ : Addr).add (c + j) := by
  rw [Addr.add_lit, Addr.add_lit, Nat.add_assoc]
theorem Cls.other {w w' : World} {n g off b : Nat} {zs : List Cl} (h : Cls w (some ⟨g, off, none⟩) n zs) (k : w.grownBy w' (some b)) (hne : b ≠ g) : Cls w' (some ⟨g, off, none⟩) n zs := by
  refine ⟨h.len, ?_⟩
  rcases h.lies with h0 | ⟨b', off', hs, hb, hc⟩
  · exact .inl h0
  · simp only [Option.some.injEq, Addr.mk.injEq, and_true] at hs
    obtain ⟨rfl, rfl⟩ := hs
    have hne' : some g ≠ some b := fun e => hne (by simpa using e.symm)
    exact .inr ⟨g, off, rfl, Nat.lt_of_lt_of_le hb k.size, fun i hi => ⟨k.cell (hc i hi).1 hne', k.cell (hc i hi).2 hne'⟩⟩
theorem cls_grown {w w' : World} {n : Nat} {s : Option Addr} {zs : List Cl} {row : Option Nat} (h : Cls w s n zs) (k : w.grownBy w' row) (hne : ∀ b off, s = some ⟨b, off, none⟩ → some b ≠ row) : Cls w' s n zs := by
  refine ⟨h.len, ?_⟩
  rcases h.lies with h0 | ⟨b', off', rfl, hb, hc⟩
  · exact .inl h0
  · have hne' := hne b' off' rfl
    exact .inr ⟨b', off', rfl, Nat.lt_of_lt_of_le hb k.size, fun i hi => ⟨k.cell (hc i hi).1 hne', k.cell (hc i hi).2 hne'⟩⟩
theorem grown_of {w w2 : World} {row : Option Nat} (h : Below w.heap.size w w2) : w.grownBy w2 row := ⟨h.os, h.tape, h.output, h.size, fun j hj _ => h.block j hj⟩
end Go.Proofs.Ytgdpebnnmklbjaa
