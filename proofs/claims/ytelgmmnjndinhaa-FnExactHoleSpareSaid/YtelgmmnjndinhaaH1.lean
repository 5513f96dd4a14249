/- Contracts of the helpers of the exact laws on lists of classes: how many there are, the list laid anew, two lists compared. -/
import Derived.Test.YtelgmmnjndinhaaC1
import Derived.Test.YtelgmmnjndinhaaMathS
import Derived.LoopTactic
import Derived.OwnWalk
import Derived.Laws.OwnMore
namespace Go.Proofs.Ytelgmmnjndinhaa
open Go.RowKit
theorem c_szClassS (s : Option Addr) (n cap : Nat) (hn : n ≤ 9223372036854775807) (l : Int) (h1 : 0 ≤ l) (h2 : l ≤ 1048576) (w : World) : Calls Try.prog 14 #[.slice s n cap, .int .i64 l] w fun e w' => e = .returned (.int .i64 (if l < (n : Int) then -1 else l - n)) ∧ w = w' := by
  by_cases h : l < (n : Int)
  · rw [if_pos h]
    go_enter Try.func14, Try.ntmps14
    go_wp2
    go_ret
    exact ⟨rfl, rfl⟩
  · rw [if_neg h]
    go_enter Try.func14, Try.ntmps14
    go_wp2
    go_ret
    exact ⟨rfl, rfl⟩
theorem c_szBig (s : Option Addr) (n cap : Nat) (hn : n ≤ 9223372036854775807) (hb : 1048576 < n) (w : World) : Calls Try.prog 14 #[.slice s n cap, .int .i64 1048576] w fun e w' => e = .returned (.int .i64 (-1)) ∧ w = w' := by
  have h := c_szClassS s n cap hn 1048576 (by omega) (by omega) w
  rw [if_pos (by omega)] at h; exact h
theorem c_szOk (s : Option Addr) (n cap : Nat) (l : Int) (h1 : 0 ≤ l) (h2 : l ≤ 1048576) (hb : (n : Int) ≤ l) (w : World) : Calls Try.prog 14 #[.slice s n cap, .int .i64 l] w fun e w' => e = .returned (.int .i64 (l - n)) ∧ w = w' := by
  have h := c_szClassS s n cap (by omega) l h1 h2 w
  rw [if_neg (by omega)] at h; exact h
theorem infoC : (Try.prog.info? 45).map (fun i => (i.zero, i.size, i.bytes)) = some (some (.agg #[.int .i64 0, .int .i64 0]), 2, 16) := by kernel_rfl
def ToPost (w : World) (zs : List Cl) (e : Ending) (w' : World) : Prop := ∃ g, w.heap.size ≤ g ∧ e = .returned (.slice (some ⟨g, 0, none⟩) zs.length zs.length) ∧ OwnC w' w.heap.size 45 (.slice (some ⟨g, 0, none⟩) zs.length zs.length) zs ∧ Below w.heap.size w w'
set_option maxHeartbeats 400000 in
theorem c_toClassS (s : Option Addr) (n cap : Nat) (zs : List Cl) (hn : n ≤ 1048576) (w : World) (hc : Cls w s n zs) : Calls Try.prog 16 #[.slice s n cap] w (ToPost w zs) := by
  obtain ⟨i0, hi, hz0, hz1, hz2⟩ := info_parts infoC
  go_enter Try.func16, Try.ntmps16
  have hl := hc.len
  subst hl
  go_wp2_with (at_make; refine wpList_make_full _ rfl _ _ 27 rfl w.heap.size 45 i0 (.agg #[.int .i64 0, .int .i64 0]) 2 Try.underlying27 hi hz0 hz1 .i64 .i64 _ _ zs.length rfl rfl rfl rfl (by rw [hz2]; omega) (by unfold maxLen; omega) (Nat.le_refl _) ?_; intro w1 hown hgrow)
  have h0 : OwnC w1 w.heap.size 45 (.slice (some ⟨w.heap.size, 0, none⟩) zs.length zs.length) (preC zs 0) := by
    unfold OwnC
    rw [preC_zero, ← madeCells2, List.length_replicate]
    exact hown
  have hb0 : Below w.heap.size w w1 := (Below.refl _ _).grown hgrow (Nat.le_refl _) (fun k h => by cases h)
  clear hown hgrow
  go_loopw [4] (fun i wr => ∃ k : Nat, k ≤ zs.length ∧ i = .int .i64 k ∧ OwnC wr w.heap.size 45 (.slice (some ⟨w.heap.size, 0, none⟩) zs.length zs.length) (preC zs k) ∧ Below w.heap.size w wr) (fun i _ => zs.length - (intOf i).toNat)
  case atStart => exact ⟨0, Nat.zero_le _, rfl, h0, hb0⟩
  case round =>
    obtain ⟨k, hk, rfl, hO, hB⟩ := hrel
    by_cases hlt : k < zs.length
    · have hcw := (hc.keep hB).lies
      rcases hcw with h0 | ⟨b, off, rfl, hb, hcells⟩
      · omega
      obtain ⟨hx, hy⟩ := hcells k hlt
      have hc' := hc.keep hB
      clear hcells
      go_wp2_with fail
      refine (c_toClass _ _ _).mono ?_
      rintro e w5 ⟨rfl, hb5⟩
      have hO5 := hO.keep hb5
      have hl := preC_length zs k hk
      have x0 := hO5.cell0 hl k hlt
      have x1 := hO5.cell1 hl k hlt
      have f0 := hO5.free hl (k * 2)
      have f1 := hO5.free hl (k * 2 + 1)
      have HL := Lib.hid hl
      clear hl
      go_wp2_with fail
      go_roundw
      case rel => exact ⟨k + 1, by omega, by go_num, by rw [← preC_succ zs k hlt]; exact hO5.store HL.out k hlt _ _, ((hB.trans (hb5.mono hB.size)).setCell (Nat.le_refl _) _).setCell (Nat.le_refl _) _⟩
      case measure => simp [intOf]; omega
    · have hk' : k = zs.length := by omega
      subst hk'
      rw [preC_all] at hO
      go_wp2_with fail
      go_ret
      exact ⟨w.heap.size, Nat.le_refl _, rfl, hO, hB⟩
set_option maxHeartbeats 400000 in
theorem c_eqClassS (s t : Option Addr) (n c1 c2 : Nat) (zs : List Cl) (hn : n ≤ 1048576) (w : World) (hs : Cls w s n zs) (ht : Cls w t n zs) : Calls Try.prog 19 #[.slice s n c1, .slice t n c2] w fun e w' => e = .returned (.bool true) ∧ Below w.heap.size w w' := by
  go_enter Try.func19, Try.ntmps19
  go_wp2_with fail
  go_loopw [5] (fun i wr => ∃ k : Nat, k ≤ n ∧ i = .int .i64 k ∧ Below w.heap.size w wr) (fun i _ => n - (intOf i).toNat)
  case atStart => exact ⟨0, Nat.zero_le _, rfl, Below.refl _ _⟩
  case round =>
    obtain ⟨k, hk, rfl, hB⟩ := hrel
    by_cases hlt : k < n
    · rcases (hs.keep hB).lies with h0 | ⟨b1, o1, rfl, hb1, hcells1⟩
      · omega
      rcases (ht.keep hB).lies with h0 | ⟨b2, o2, rfl, hb2, hcells2⟩
      · omega
      obtain ⟨hx, hy⟩ := hcells1 k hlt
      obtain ⟨hx2, hy2⟩ := hcells2 k hlt
      clear hcells1 hcells2
      go_wp2_with fail
      go_region_held3 (fun w' => w'.cell? ⟨b1, o1 + k * 2, none⟩ = some (.int .i64 (rAt zs k)) ∧ w'.cell? ⟨b1, o1 + k * 2 + 1, none⟩ = some (.int .i64 (mAt zs k)) ∧ w'.cell? ⟨b2, o2 + k * 2, none⟩ = some (.int .i64 (rAt zs k)) ∧ w'.cell? ⟨b2, o2 + k * 2 + 1, none⟩ = some (.int .i64 (mAt zs k))) (go_keep) (first | (go_at_call 49; refine (c_eqClass _ _ _).mono ?_; rintro e w1 ⟨rfl, rfl⟩))
      go_wp2_with fail
      go_roundw
      case rel => exact ⟨k + 1, by omega, by go_num, (ba (ba hB _) _).drew⟩
      case measure => simp [intOf]; omega
    · go_wp2_with fail
      go_ret
      exact ⟨rfl, hB⟩
end Go.Proofs.Ytelgmmnjndinhaa
