/- Contracts of the helpers of the exact laws that write into a list of classes and read it again. -/
import Derived.Test.YtelgmmnjndinhaaH1
namespace Go.Proofs.Ytelgmmnjndinhaa
open Go.RowKit
theorem c_markClassS0 (s : Option Addr) (cap : Nat) (K : Int) (w : World) : Calls Try.prog 20 #[.slice s 0 cap, .int .i64 K] w fun e w' => e = .returned (.int .i64 K) ∧ w = w' := by
  go_enter Try.func20, Try.ntmps20
  go_wp2_with fail
  go_loop [1, 5] (fun q i => i = .int .i64 0 ∧ q = .int .i64 K) (fun _ _ => 0)
  case atStart => exact ⟨rfl, rfl⟩
  case round =>
    obtain ⟨rfl, rfl⟩ := hrel
    go_wp2_with fail
    go_ret
    exact ⟨rfl, rfl⟩
theorem c_heldClassS0 (s : Option Addr) (cap : Nat) (K : Int) (w : World) : Calls Try.prog 37 #[.slice s 0 cap, .int .i64 K] w fun e w' => e = .returned (.int .i64 K) ∧ w = w' := by
  go_enter Try.func37, Try.ntmps37
  go_wp2_with fail
  go_loop [1, 5] (fun q i => i = .int .i64 0 ∧ q = .int .i64 K) (fun _ _ => 0)
  case atStart => exact ⟨rfl, rfl⟩
  case round =>
    obtain ⟨rfl, rfl⟩ := hrel
    go_wp2_with fail
    go_ret
    exact ⟨rfl, rfl⟩
set_option maxHeartbeats 400000 in
theorem c_markClassS1 (g n cap base : Nat) (e0 : TypeId) (zs : List Cl) (hl : zs.length = n) (hn : n ≤ 1048576) (K : Int) (h1 : 0 ≤ K) (h2 : K ≤ 1099511627776) (w : World) (hO : OwnC w base e0 (.slice (some ⟨g, 0, none⟩) n cap) zs) :
    Calls Try.prog 20 #[.slice (some ⟨g, 0, none⟩) n cap, .int .i64 K] w fun e w' => e = .returned (.int .i64 (K + 2 * (n : Int))) ∧ OwnC w' base e0 (.slice (some ⟨g, 0, none⟩) n cap) (markL K n) ∧ w.grownBy w' (some g) := by
  have HL := Lib.hid hl
  clear hl
  go_enter Try.func20, Try.ntmps20
  go_wp2_with fail
  go_loopw [1, 5] (fun q i wr => ∃ k : Nat, k ≤ n ∧ i = .int .i64 k ∧ q = .int .i64 (K + 2 * (k : Int)) ∧ OwnC wr base e0 (.slice (some ⟨g, 0, none⟩) n cap) (markL K k ++ zs.drop k) ∧ w.grownBy wr (some g)) (fun _ i _ => n - (intOf i).toNat)
  case atStart => exact ⟨0, Nat.zero_le _, rfl, by simp, hO, World.grownBy.refl _ _⟩
  case round =>
    obtain ⟨k, hk, rfl, rfl, hOk, hG⟩ := hrel
    have hlk : (markL K k ++ zs.drop k).length = n := by simp [markL_length, HL.out]; omega
    by_cases hlt : k < n
    · have x0 := hOk.cell0 hlk k hlt
      have x1 := hOk.cell1 hlk k hlt
      have f0 := hOk.free hlk (k * 2)
      have f1 := hOk.free hlk (k * 2 + 1)
      have HLK := Lib.hid hlk
      clear hlk
      go_wp2_with fail
      go_roundw
      case rel => exact ⟨k + 1, by omega, by go_num, by go_num, by rw [← markL_step K zs k (by rw [HL.out]; exact hlt)]; exact hOk.store HLK.out k hlt _ _, grown_set (grown_set hG _ _) _ _⟩
      case measure => simp [intOf]; omega
    · have hk' : k = n := by omega
      subst hk'
      have hd : zs.drop k = [] := by rw [List.drop_eq_nil_of_le]; rw [HL.out]; exact Nat.le_refl _
      rw [hd, List.append_nil] at hOk
      clear hlk hd
      go_wp2_with fail
      go_ret
      exact ⟨rfl, hOk, hG⟩
theorem c_heldClassS (s : Option Addr) (n cap : Nat) (hn : n ≤ 1048576) (K : Int) (h1 : 0 ≤ K) (h2 : K ≤ 1099511627776) (w : World) (hc : Cls w s n (markL K n)) :
    Calls Try.prog 37 #[.slice s n cap, .int .i64 K] w fun e w' => e = .returned (.int .i64 (K + 2 * (n : Int))) ∧ w = w' := by
  go_enter Try.func37, Try.ntmps37
  go_wp2_with fail
  go_loop [1, 5] (fun q i => ∃ k : Nat, k ≤ n ∧ i = .int .i64 k ∧ q = .int .i64 (K + 2 * (k : Int))) (fun _ i => n - (intOf i).toNat)
  case atStart => exact ⟨0, Nat.zero_le _, rfl, by simp⟩
  case round =>
    obtain ⟨k, hk, rfl, rfl⟩ := hrel
    by_cases hlt : k < n
    · rcases hc.lies with h0 | ⟨b, off, rfl, hb, hcells⟩
      · omega
      obtain ⟨hx, hy⟩ := hcells k hlt
      rw [markL_r K n k hlt] at hx
      rw [markL_m K n k hlt] at hy
      clear hcells
      go_wp2_with fail
      go_round
      case rel => exact ⟨k + 1, by omega, by go_num, by go_num⟩
      case measure => simp [intOf]; omega
    · have hk' : k = n := by omega
      subst hk'
      go_wp2_with fail
      go_ret
      exact ⟨rfl, rfl⟩
theorem c_markClassS (s : Option Addr) (n cap base : Nat) (e0 : TypeId) (zs : List Cl) (hl : zs.length = n) (hn : n ≤ 1048576) (K : Int) (h1 : 0 ≤ K) (h2 : K ≤ 1099511627776) (w : World) (hO : OwnC w base e0 (.slice s n cap) zs) :
    Calls Try.prog 20 #[.slice s n cap, .int .i64 K] w fun e w' => e = .returned (.int .i64 (K + 2 * (n : Int))) ∧ OwnC w' base e0 (.slice s n cap) (markL K n) ∧ w.grownBy w' (Value.slice s n cap).ownBlock := by
  rcases hO.cases with ⟨hv, hz⟩ | ⟨g, cap', hv, hg⟩
  · simp only [Value.slice.injEq] at hv
    obtain ⟨rfl, rfl, rfl⟩ := hv
    refine (c_markClassS0 none 0 K w).mono ?_
    rintro e w' ⟨rfl, rfl⟩
    exact ⟨ri (by simp), OwnC.nilAt _ _ _, World.grownBy.refl _ _⟩
  · simp only [Value.slice.injEq] at hv
    obtain ⟨rfl, _, rfl⟩ := hv
    exact c_markClassS1 g n cap base e0 zs hl hn K h1 h2 w hO
end Go.Proofs.Ytelgmmnjndinhaa
