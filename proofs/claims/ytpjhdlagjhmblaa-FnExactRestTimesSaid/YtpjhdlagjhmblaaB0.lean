/- Chapter 5: what the exact laws do with lists of numbers: copies. -/
import Derived.Test.YtpjhdlagjhmblaaBc
import Derived.Test.YtpjhdlagjhmblaaH3
namespace Go.Proofs.Ytpjhdlagjhmblaa
open Go.RowKit
/-- the first k of a list, 0 behind them -/
def preI (zs : List Int) (k : Nat) : List Int := zs.take k ++ List.replicate (zs.length - k) 0
theorem preI_length (zs : List Int) (k : Nat) (hk : k ≤ zs.length) : (preI zs k).length = zs.length := by
  unfold preI
  rw [List.length_append, List.length_take, List.length_replicate]
  omega
theorem preI_all (zs : List Int) : preI zs zs.length = zs := by simp [preI]
theorem preI_succ (zs : List Int) (k : Nat) (hk : k < zs.length) : (preI zs k).set k (zs[k]?.getD 0) = preI zs (k + 1) := by
  unfold preI
  rw [List.set_append_right _ _ (by rw [List.length_take]; omega), List.length_take, Nat.min_eq_left (by omega), Nat.sub_self, show zs.length - k = (zs.length - (k + 1)) + 1 by omega, List.replicate_succ, List.set_cons_zero,
    show zs[k]?.getD 0 = zs[k] by simp [hk], List.take_succ_eq_append_getElem hk, List.append_assoc]
  rfl
def ToI (w : World) (zs : List Int) (e : Ending) (w' : World) : Prop := ∃ g, w.heap.size ≤ g ∧ e = .returned (.slice (some ⟨g, 0, none⟩) zs.length zs.length) ∧ OwnI w' w.heap.size 3 (.slice (some ⟨g, 0, none⟩) zs.length zs.length) zs ∧ Below w.heap.size w w'
set_option maxHeartbeats 400000 in
theorem c_toIntS (s : Option Addr) (n cap : Nat) (zs : List Int) (hn : n ≤ 1048576) (w : World) (hc : Ints w s n zs) : Calls Try.prog 14 #[.slice s n cap] w (ToI w zs) := by
  obtain ⟨i0, hi, hz0, hz1, hz2⟩ := info_parts infoJ
  go_enter Try.func14, Try.ntmps14
  have hl := hc.len
  subst hl
  go_wp2_with (at_make; refine wpList_make_full _ rfl _ _ 22 rfl w.heap.size 3 i0 (.int .i64 0) 1 Try.underlying22 hi hz0 hz1 .i64 .i64 _ _ zs.length rfl rfl rfl rfl (by rw [hz2]; omega) (by unfold maxLen; omega) (Nat.le_refl _) ?_; intro w1 hown hgrow)
  have h0 : OwnI w1 w.heap.size 3 (.slice (some ⟨w.heap.size, 0, none⟩) zs.length zs.length) (preI zs 0) := by
    show w1.ownsRow _ _ _ _ _ _
    rw [show preI zs 0 = List.replicate zs.length 0 from rfl, List.length_replicate, ← madeInts]
    exact hown
  have hb0 : Below w.heap.size w w1 := (Below.refl _ _).grown hgrow (Nat.le_refl _) (fun k h => by cases h)
  clear hown hgrow
  go_loopw [4] (fun i wr => ∃ k : Nat, k ≤ zs.length ∧ i = .int .i64 k ∧ OwnI wr w.heap.size 3 (.slice (some ⟨w.heap.size, 0, none⟩) zs.length zs.length) (preI zs k) ∧ Below w.heap.size w wr) (fun i _ => zs.length - (intOf i).toNat)
  case atStart => exact ⟨0, Nat.zero_le _, rfl, h0, hb0⟩
  case round =>
    obtain ⟨k, hk, rfl, hO, hB⟩ := hrel
    by_cases hlt : k < zs.length
    · have hcw := (hc.keep hB).lies
      rcases hcw with h0 | ⟨b, off, rfl, hb, hcells⟩
      · omega
      have hx := hcells k hlt
      clear hcells
      have hl := preI_length zs k hk
      have x0 := hO.cell hl k hlt
      have f0 := hO.free hl k
      have HL := Lib.hid hl
      clear hl
      have HP := Lib.hid (preI_succ zs k hlt)
      generalize zs[k]?.getD 0 = x at *
      go_wp2_with fail
      go_roundw
      case rel => exact ⟨k + 1, by omega, by go_num, by rw [← HP.out]; exact hO.store HL.out k _, hB.setCell (Nat.le_refl _) _⟩
      case measure => simp [intOf]; omega
    · have hk' : k = zs.length := by omega
      subst hk'
      rw [preI_all] at hO
      go_wp2_with fail
      go_ret
      exact ⟨w.heap.size, Nat.le_refl _, rfl, hO, hB⟩
end Go.Proofs.Ytpjhdlagjhmblaa
