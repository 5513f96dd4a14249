/- Marks in a list that has room behind it, of which its capacity does not tell. -/
import Derived.Test.YtelgmmnjndinhaaH2
namespace Go.Proofs.Ytelgmmnjndinhaa
open Go.RowKit
set_option maxHeartbeats 400000 in
theorem c_markClassW1 (g n cap room base : Nat) (e0 : TypeId) (zs : List Cl) (hl : zs.length = n) (hn : n ≤ 1048576) (K : Int) (h1 : 0 ≤ K) (h2 : K ≤ 1099511627776) (w : World) (hO : OwnC w base e0 (.slice (some ⟨g, 0, none⟩) n room) zs) :
    Calls Try.prog 20 #[.slice (some ⟨g, 0, none⟩) n cap, .int .i64 K] w fun e w' => e = .returned (.int .i64 (K + 2 * (n : Int))) ∧ OwnC w' base e0 (.slice (some ⟨g, 0, none⟩) n room) (markL K n) ∧ w.grownBy w' (some g) := by
  have HL := Lib.hid hl
  clear hl
  go_enter Try.func20, Try.ntmps20
  go_wp2_with fail
  go_loopw [1, 5] (fun q i wr => ∃ k : Nat, k ≤ n ∧ i = .int .i64 k ∧ q = .int .i64 (K + 2 * (k : Int)) ∧ OwnC wr base e0 (.slice (some ⟨g, 0, none⟩) n room) (markL K k ++ zs.drop k) ∧ w.grownBy wr (some g)) (fun _ i _ => n - (intOf i).toNat)
  case atStart => exact ⟨0, Nat.zero_le _, rfl, by simp, hO, World.grownBy.refl _ _⟩
  case round =>
    obtain ⟨k, hk, rfl, rfl, hOk, hG⟩ := hrel
    have hlk : (markL K k ++ zs.drop k).length = n := by simp [markL_length, HL.out]; omega
    by_cases hlt : k < n
    · have x0 := hOk.cell0 hlk k hlt
      have x1 := hOk.cell1 hlk k hlt
      have f0 := hOk.free hlk (k * 2)
      have f1 := hOk.free hlk (k * 2 + 1)
      have HLK := Lib.hid hlk
      clear hlk
      go_wp2_with fail
      go_roundw
      case rel => exact ⟨k + 1, by omega, by go_num, by go_num, by rw [← markL_step K zs k (by rw [HL.out]; exact hlt)]; exact hOk.store HLK.out k hlt _ _, grown_set (grown_set hG _ _) _ _⟩
      case measure => simp [intOf]; omega
    · have hk' : k = n := by omega
      subst hk'
      have hd : zs.drop k = [] := by rw [List.drop_eq_nil_of_le]; rw [HL.out]; exact Nat.le_refl _
      rw [hd, List.append_nil] at hOk
      clear hlk hd
      go_wp2_with fail
      go_ret
      exact ⟨rfl, hOk, hG⟩
theorem c_markClassW (s : Option Addr) (n cap room base : Nat) (e0 : TypeId) (zs : List Cl) (hl : zs.length = n) (hn : n ≤ 1048576) (K : Int) (h1 : 0 ≤ K) (h2 : K ≤ 1099511627776) (w : World) (hO : OwnC w base e0 (.slice s n room) zs) :
    Calls Try.prog 20 #[.slice s n cap, .int .i64 K] w fun e w' => e = .returned (.int .i64 (K + 2 * (n : Int))) ∧ OwnC w' base e0 (.slice s n room) (markL K n) ∧ w.grownBy w' (Value.slice s n room).ownBlock := by
  rcases hO.cases with ⟨hv, hz⟩ | ⟨g, cap', hv, hg⟩
  · simp only [Value.slice.injEq] at hv
    obtain ⟨rfl, rfl, rfl⟩ := hv
    refine (c_markClassS0 none cap K w).mono ?_
    rintro e w' ⟨rfl, rfl⟩
    exact ⟨ri (by simp), OwnC.nilAt _ _ _, World.grownBy.refl _ _⟩
  · simp only [Value.slice.injEq] at hv
    obtain ⟨rfl, _, rfl⟩ := hv
    exact c_markClassW1 g n cap room base e0 zs hl hn K h1 h2 w hO
end Go.Proofs.Ytelgmmnjndinhaa
