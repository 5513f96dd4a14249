/- The walk of the promise law FnHoles. -/
import Derived.Test.YtfagjhccdbielaaMg4
import Derived.Test.YtfagjhccdbielaaMathD
import Derived.Test.YtfagjhccdbielaaC3
import Derived.RegionTactic
import Derived.BigQuiet
namespace Go.Proofs.Ytfagjhccdbielaa
open Go.RowKit
set_option maxRecDepth 20000 in
set_option maxHeartbeats 1000000 in
theorem c_sameInts (s t : Option Addr) (n c1 c2 : Nat) (zs : List Int) (hn : n ≤ 1048576) (w : World) (hs : Ints w s n zs) (ht : Ints w t n zs) : Calls Try.prog 17 #[.slice s n c1, .slice t n c2] w fun e w' => e = .returned (.bool true) ∧ Below w.heap.size w w' := by
  go_enter Try.func17, Try.ntmps17
  go_wp2_with fail
  go_loopw [5] (fun i wr => ∃ k : Nat, k ≤ n ∧ i = .int .i64 k ∧ Below w.heap.size w wr) (fun i _ => n - (intOf i).toNat)
  case atStart => exact ⟨0, Nat.zero_le _, rfl, Below.refl _ _⟩
  case round =>
    obtain ⟨k, hk, rfl, hB⟩ := hrel
    by_cases hlt : k < n
    · rcases (hs.keep hB).lies with h0 | ⟨b1, o1, rfl, hb1, hcells1⟩
      · omega
      rcases (ht.keep hB).lies with h0 | ⟨b2, o2, rfl, hb2, hcells2⟩
      · omega
      have hx := hcells1 k hlt
      have hx2 := hcells2 k hlt
      clear hcells1 hcells2
      go_wp2_with fail
      go_quiet (fail)
      go_wp2_with fail
      go_roundw
      case rel => exact ⟨k + 1, by omega, by go_num, bel_drewN hB _⟩
      case measure => simp [intOf]; omega
    · go_wp2_with fail
      go_ret
      exact ⟨rfl, hB⟩
theorem hol_mem {zs : List Cl} {k : Nat} : ∀ y ∈ holK zs k, ∃ j : Nat, j < k ∧ y = j ∧ cntN zs j = 0 := by
  induction k with
  | zero => intro y hy; cases hy
  | succ k ih =>
    intro y hy
    simp only [holK] at hy
    cases he : (cntN zs k == 0)
    · rw [he, cond_false] at hy
      obtain ⟨j, h1, h2⟩ := ih y hy
      exact ⟨j, by omega, h2⟩
    · rw [he, cond_true] at hy
      rcases List.mem_append.1 hy with hy | hy
      · obtain ⟨j, h1, h2⟩ := ih y hy
        exact ⟨j, by omega, h2⟩
      · exact ⟨k, by omega, by simpa using hy, by simpa using he⟩
theorem cnt_zero {zs : List Cl} {x : Int} (h : cntN zs x = 0) (k : Nat) (hk : k < zs.length) : ¬ x % mAt zs k = rAt zs k := by
  intro he
  have h1 : cntK zs x (k + 1) = cntK zs x k + 1 := by simp [cntK, he]
  have h2 := cntK_le zs x (show k + 1 ≤ zs.length by omega)
  have h3 := (cntK_bd zs x k).1
  have h4 : cntK zs x zs.length = 0 := h
  omega
theorem hole_has {zs : List Cl} {y : Int} (hy : y ∈ holL zs) (j : Nat) (hj : j < zs.length) : hasB (rAt zs j) (mAt zs j) y = false := by
  obtain ⟨i, _, rfl, h0⟩ := hol_mem y hy
  have := cnt_zero h0 j hj
  simp [hasB, this]
end Go.Proofs.Ytfagjhccdbielaa
