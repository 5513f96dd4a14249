/- Contract of what the law on parts draws; two lists of classes compared. -/
import Derived.Test.YtnmlljhgilpocaaDoorMg1
import Derived.Test.YtnmlljhgilpocaaDoorMathS
import Derived.LoopTactic
import Derived.Test.YtnmlljhgilpocaaDoorMg8
namespace Go.Proofs.YtnmlljhgilpocaaDoor
open Go.RowKit
set_option maxHeartbeats 400000 in
theorem c_sameClasses (s t : Option Addr) (n c1 c2 : Nat) (zs : List Cl) (hn : n ≤ 1048576) (w : World) (hs : Cls w s n zs) (ht : Cls w t n zs) : Calls Tryd.prog 7 #[.slice s n c1, .slice t n c2] w fun e w' => e = .returned (.bool true) ∧ Below w.heap.size w w' := by
  go_enter Tryd.func7, Tryd.ntmps7
  go_wp2_with fail
  go_loopw [5] (fun i wr => ∃ k : Nat, k ≤ n ∧ i = .int .i64 k ∧ Below w.heap.size w wr) (fun i _ => n - (intOf i).toNat)
  case atStart => exact ⟨0, Nat.zero_le _, rfl, Below.refl _ _⟩
  case round =>
    obtain ⟨k, hk, rfl, hB⟩ := hrel
    by_cases hlt : k < n
    · rcases (hs.keep hB).lies with h0 | ⟨b1, o1, rfl, hb1, hcells1⟩
      · omega
      rcases (ht.keep hB).lies with h0 | ⟨b2, o2, rfl, hb2, hcells2⟩
      · omega
      obtain ⟨hx, hy⟩ := hcells1 k hlt
      obtain ⟨hx2, hy2⟩ := hcells2 k hlt
      clear hcells1 hcells2
      go_wp2_with fail
      go_quiet (fail)
      go_wp2_with fail
      go_roundw
      case rel => exact ⟨k + 1, by omega, by go_num, bel_drewN hB _⟩
      case measure => simp [intOf]; omega
    · go_wp2_with fail
      go_ret
      exact ⟨rfl, hB⟩
end Go.Proofs.YtnmlljhgilpocaaDoor
namespace Go.Proofs.YtnmlljhgilpocaaDoor
theorem covK_any (zs : List Cl) (x : Int) (k : Nat) (h : k ≤ zs.length) : covK zs x k = (zs.take k).any fun c => x % c.2 == c.1 := by
  induction k with
  | zero => simp [covK]
  | succ k ih =>
    have hk : k < zs.length := by omega
    rw [List.take_succ_eq_append_getElem hk, List.any_append, ← ih (by omega)]
    simp [covK, rAt, mAt, hk]
theorem covB_any (zs : List Cl) (x : Int) : covB zs x = zs.any fun c => x % c.2 == c.1 := by
  have h := covK_any zs x zs.length (Nat.le_refl _)
  rw [List.take_length] at h
  exact h
theorem covB_perm {zs ys : List Cl} (h : List.Perm zs ys) (x : Int) : covB zs x = covB ys x := by
  rw [covB_any, covB_any, Bool.eq_iff_iff]
  simp only [List.any_eq_true]
  exact ⟨fun ⟨c, hc, h1⟩ => ⟨c, h.mem_iff.1 hc, h1⟩, fun ⟨c, hc, h1⟩ => ⟨c, h.mem_iff.2 hc, h1⟩⟩
theorem allB_perm {zs ys : List Cl} (h : List.Perm zs ys) : allB zs = allB ys := by
  rw [Bool.eq_iff_iff]
  simp only [allB, List.all_eq_true]
  exact ⟨fun H c hc => H c (h.mem_iff.2 hc), fun H c hc => H c (h.mem_iff.1 hc)⟩
end Go.Proofs.YtnmlljhgilpocaaDoor
