/- Chapter 7: what the exact laws do with lists of numbers: copies. -/
import Derived.Test.YtchplpaniafhlaaTc
import Derived.Test.YtchplpaniafhlaaH3
namespace Go.Proofs.Ytchplpaniafhlaa
open Go.RowKit
theorem madeI7 (n : Nat) : (madeCells #[Value.int .i64 0] (n * 1)).toList = (List.replicate n (0 : Int)).map (Value.int .i64) := by
  rw [madeV, List.map_replicate]
theorem apartJ7 {w : World} {base B n m c d x : Nat} {s t : Option Addr} {e : TypeId} {zs : List Int} (h : s = none ∨ ∃ g, s = some ⟨g, 0, none⟩ ∧ base ≤ g ∧ g < B) (hO : OwnI w x e (.slice t m d) zs) (hB : B ≤ x) : (Value.slice t m d).ownBlock = none ∨ (Value.slice t m d).ownBlock ≠ (Value.slice s n c).ownBlock := by
  rcases apart24I (n := n) (c := c) h hO hB with h1 | h1
  · rcases hO.cases with ⟨hv, _⟩ | ⟨g, cap, hv, hg⟩
    · left; rw [hv]; rfl
    · right; rw [h1, hv]; simp [Value.ownBlock]
  · exact .inr (Ne.symm h1)
/-- the first k of a list, 0 behind them -/
def preI7 (zs : List Int) (k : Nat) : List Int := zs.take k ++ List.replicate (zs.length - k) 0
theorem preI7_length (zs : List Int) (k : Nat) (hk : k ≤ zs.length) : (preI7 zs k).length = zs.length := by
  unfold preI7
  rw [List.length_append, List.length_take, List.length_replicate]
  omega
theorem preI7_all (zs : List Int) : preI7 zs zs.length = zs := by simp [preI7]
theorem preI7_succ (zs : List Int) (k : Nat) (hk : k < zs.length) : (preI7 zs k).set k (zs[k]?.getD 0) = preI7 zs (k + 1) := by
  unfold preI7
  rw [List.set_append_right _ _ (by rw [List.length_take]; omega), List.length_take, Nat.min_eq_left (by omega), Nat.sub_self, show zs.length - k = (zs.length - (k + 1)) + 1 by omega, List.replicate_succ, List.set_cons_zero,
    show zs[k]?.getD 0 = zs[k] by simp [hk], List.take_succ_eq_append_getElem hk, List.append_assoc]
  rfl
def ToI7 (w : World) (zs : List Int) (e : Ending) (w' : World) : Prop := ∃ g, w.heap.size ≤ g ∧ e = .returned (.slice (some ⟨g, 0, none⟩) zs.length zs.length) ∧ OwnI w' w.heap.size 3 (.slice (some ⟨g, 0, none⟩) zs.length zs.length) zs ∧ Below w.heap.size w w'
set_option maxHeartbeats 400000 in
theorem c_toI7 (s : Option Addr) (n cap : Nat) (zs : List Int) (hn : n ≤ 1048576) (w : World) (hc : Ints w s n zs) : Calls Try.prog 6 #[.slice s n cap] w (ToI7 w zs) := by
  obtain ⟨i0, hi, hz0, hz1, hz2⟩ := info_parts infoR
  go_enter Try.func6, Try.ntmps6
  have hl := hc.len
  subst hl
  go_wp2_with (at_make; refine wpList_make_full _ rfl _ _ 22 rfl w.heap.size 3 i0 (.int .i64 0) 1 Try.underlying22 hi hz0 hz1 .i64 .i64 _ _ zs.length rfl rfl rfl rfl (by rw [hz2]; omega) (by unfold maxLen; omega) (Nat.le_refl _) ?_; intro w1 hown hgrow)
  have h0 : OwnI w1 w.heap.size 3 (.slice (some ⟨w.heap.size, 0, none⟩) zs.length zs.length) (preI7 zs 0) := by
    show w1.ownsRow _ _ _ _ _ _
    rw [show preI7 zs 0 = List.replicate zs.length 0 from rfl, List.length_replicate, ← madeI7]
    exact hown
  have hb0 : Below w.heap.size w w1 := (Below.refl _ _).grown hgrow (Nat.le_refl _) (fun k h => by cases h)
  clear hown hgrow
  go_loopw [4] (fun i wr => ∃ k : Nat, k ≤ zs.length ∧ i = .int .i64 k ∧ OwnI wr w.heap.size 3 (.slice (some ⟨w.heap.size, 0, none⟩) zs.length zs.length) (preI7 zs k) ∧ Below w.heap.size w wr) (fun i _ => zs.length - (intOf i).toNat)
  case atStart => exact ⟨0, Nat.zero_le _, rfl, h0, hb0⟩
  case round =>
    obtain ⟨k, hk, rfl, hO, hB⟩ := hrel
    by_cases hlt : k < zs.length
    · have hcw := (hc.keep hB).lies
      rcases hcw with h0 | ⟨b, off, rfl, hb, hcells⟩
      · omega
      have hx := hcells k hlt
      clear hcells
      have hl := preI7_length zs k hk
      have x0 := hO.cell hl k hlt
      have f0 := hO.free hl k
      have HL := Lib.hid hl
      clear hl
      have HP := Lib.hid (preI7_succ zs k hlt)
      generalize zs[k]?.getD 0 = x at *
      go_wp2_with fail
      go_roundw
      case rel => exact ⟨k + 1, by omega, by go_num, by rw [← HP.out]; exact hO.store HL.out k _, hB.setCell (Nat.le_refl _) _⟩
      case measure => simp [intOf]; omega
    · have hk' : k = zs.length := by omega
      subst hk'
      rw [preI7_all] at hO
      go_wp2_with fail
      go_ret
      exact ⟨w.heap.size, Nat.le_refl _, rfl, hO, hB⟩
end Go.Proofs.Ytchplpaniafhlaa
