/- The model's l4Sorted. -/
import Derived.Test.YtnmlljhgilpocaaDoorS1
import Derived.Test.YtnmlljhgilpocaaDoorMgM
import Derived.Test.YtnmlljhgilpocaaDoorStepC
import Derived.Test.YtnmlljhgilpocaaDoorS3
import Derived.Deep.RegionHeld3
import Derived.BigQuiet
namespace Go.Proofs.YtnmlljhgilpocaaDoor
open Go.RowKit
theorem posI_step {c : Cl} {l : List Cl} {k : Nat} (h : ¬ leC (rAt l k, mAt l k) c) : posI c l (k + 1) = posI c l k := by simp only [posI]; rw [if_neg h]
theorem posI_stop {c : Cl} {l : List Cl} {k : Nat} (h : leC (rAt l k, mAt l k) c) : posI c l (k + 1) = k + 1 := by simp only [posI]; rw [if_pos h]
theorem Cls.front {w : World} {s : Option Addr} {n k : Nat} {zs : List Cl} (h : Cls w s n zs) (hk : k ≤ n) : Cls w s k (zs.take k) := by
  have hlen := h.len
  refine ⟨by rw [List.length_take]; omega, ?_⟩
  rcases h.lies with h0 | ⟨b1, o1, hh, hb1, hcells1⟩
  · left
    omega
  · right
    refine ⟨b1, o1, hh, hb1, fun j hj => ?_⟩
    have := hcells1 j (by omega)
    unfold rAt mAt at *
    have e : (zs.take k).getD j (0, 0) = zs.getD j (0, 0) := by
      simp [List.getD, hj]
    rw [e]
    exact this
theorem Cls.back {w : World} {b off n k : Nat} {zs : List Cl} (h : Cls w (some ⟨b, off, none⟩) n zs) (hk : k ≤ n) : Cls w (some ⟨b, off + k * 2, none⟩) (n - k) (zs.drop k) := by
  have hlen := h.len
  refine ⟨by rw [List.length_drop, hlen], ?_⟩
  rcases h.lies with h0 | ⟨b1, o1, hh, hb1, hcells1⟩
  · left
    omega
  · right
    cases hh
    refine ⟨b, off + k * 2, rfl, hb1, fun j hj => ?_⟩
    have := hcells1 (k + j) (by omega)
    unfold rAt mAt at *
    have e : (zs.drop k).getD j (0, 0) = zs.getD (k + j) (0, 0) := by simp [List.getD]
    rw [e, show off + k * 2 + j * 2 = off + (k + j) * 2 by omega]
    exact this
theorem cls_new (w : World) (r m : Int) : Cls (w.alloc (.cells #[.int .i64 r, .int .i64 m] 41)) (some ⟨w.heap.size, 0, none⟩) 1 [(r, m)] := by
  refine ⟨rfl, .inr ⟨w.heap.size, 0, rfl, by simp, fun j hj => ?_⟩⟩
  obtain rfl : j = 0 := by omega
  exact ⟨by simp [rAt], by simp [mAt]⟩
end Go.Proofs.YtnmlljhgilpocaaDoor
