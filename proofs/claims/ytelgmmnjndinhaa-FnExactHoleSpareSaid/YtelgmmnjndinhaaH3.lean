/- Contracts of the helpers of the exact laws on lists of numbers: compared, written, read again. -/
import Derived.Test.YtelgmmnjndinhaaC1
import Derived.Test.YtelgmmnjndinhaaMathS
import Derived.LoopTactic
namespace Go.Proofs.Ytelgmmnjndinhaa
open Go.RowKit
theorem c_markIntS0 (s : Option Addr) (cap : Nat) (K : Int) (w : World) : Calls Try.prog 21 #[.slice s 0 cap, .int .i64 K] w fun e w' => e = .returned (.int .i64 K) ∧ w = w' := by
  go_enter Try.func21, Try.ntmps21
  go_wp2_with fail
  go_loop [1, 5] (fun q i => i = .int .i64 0 ∧ q = .int .i64 K) (fun _ _ => 0)
  case atStart => exact ⟨rfl, rfl⟩
  case round =>
    obtain ⟨rfl, rfl⟩ := hrel
    go_wp2_with fail
    go_ret
    exact ⟨rfl, rfl⟩
theorem c_heldIntS0 (s : Option Addr) (cap : Nat) (K : Int) (w : World) : Calls Try.prog 22 #[.slice s 0 cap, .int .i64 K] w fun e w' => e = .returned (.int .i64 K) ∧ w = w' := by
  go_enter Try.func22, Try.ntmps22
  go_wp2_with fail
  go_loop [1, 5] (fun q i => i = .int .i64 0 ∧ q = .int .i64 K) (fun _ _ => 0)
  case atStart => exact ⟨rfl, rfl⟩
  case round =>
    obtain ⟨rfl, rfl⟩ := hrel
    go_wp2_with fail
    go_ret
    exact ⟨rfl, rfl⟩
set_option maxHeartbeats 400000 in
theorem c_markIntS1 (g n cap base : Nat) (e0 : TypeId) (zs : List Int) (hl : zs.length = n) (hn : n ≤ 1048576) (K : Int) (h1 : 0 ≤ K) (h2 : K ≤ 1099511627776) (w : World) (hO : OwnI w base e0 (.slice (some ⟨g, 0, none⟩) n cap) zs) :
    Calls Try.prog 21 #[.slice (some ⟨g, 0, none⟩) n cap, .int .i64 K] w fun e w' => e = .returned (.int .i64 (K + (n : Int))) ∧ OwnI w' base e0 (.slice (some ⟨g, 0, none⟩) n cap) (markI K n) ∧ w.grownBy w' (some g) := by
  have HL := Lib.hid hl
  clear hl
  go_enter Try.func21, Try.ntmps21
  go_wp2_with fail
  go_loopw [1, 5] (fun q i wr => ∃ k : Nat, k ≤ n ∧ i = .int .i64 k ∧ q = .int .i64 (K + (k : Int)) ∧ OwnI wr base e0 (.slice (some ⟨g, 0, none⟩) n cap) (markI K k ++ zs.drop k) ∧ w.grownBy wr (some g)) (fun _ i _ => n - (intOf i).toNat)
  case atStart => exact ⟨0, Nat.zero_le _, rfl, by simp, hO, World.grownBy.refl _ _⟩
  case round =>
    obtain ⟨k, hk, rfl, rfl, hOk, hG⟩ := hrel
    have hlk : (markI K k ++ zs.drop k).length = n := by simp [markI_length, HL.out]; omega
    by_cases hlt : k < n
    · have x0 := hOk.cell hlk k hlt
      have f0 := hOk.free hlk k
      have HLK := Lib.hid hlk
      clear hlk
      go_wp2_with fail
      go_roundw
      case rel => exact ⟨k + 1, by omega, by go_num, by go_num, by rw [← markI_step K zs k (by rw [HL.out]; exact hlt)]; exact hOk.store HLK.out k _, grown_set hG _ _⟩
      case measure => simp [intOf]; omega
    · have hk' : k = n := by omega
      subst hk'
      have hd : zs.drop k = [] := by rw [List.drop_eq_nil_of_le]; rw [HL.out]; exact Nat.le_refl _
      rw [hd, List.append_nil] at hOk
      clear hlk hd
      go_wp2_with fail
      go_ret
      exact ⟨rfl, hOk, hG⟩
theorem c_heldIntS (s : Option Addr) (n cap : Nat) (hn : n ≤ 1048576) (K : Int) (h1 : 0 ≤ K) (h2 : K ≤ 1099511627776) (w : World) (hc : Ints w s n (markI K n)) :
    Calls Try.prog 22 #[.slice s n cap, .int .i64 K] w fun e w' => e = .returned (.int .i64 (K + (n : Int))) ∧ w = w' := by
  go_enter Try.func22, Try.ntmps22
  go_wp2_with fail
  go_loop [1, 5] (fun q i => ∃ k : Nat, k ≤ n ∧ i = .int .i64 k ∧ q = .int .i64 (K + (k : Int))) (fun _ i => n - (intOf i).toNat)
  case atStart => exact ⟨0, Nat.zero_le _, rfl, by simp⟩
  case round =>
    obtain ⟨k, hk, rfl, rfl⟩ := hrel
    by_cases hlt : k < n
    · rcases hc.lies with h0 | ⟨b, off, rfl, hb, hcells⟩
      · omega
      have hx := hcells k hlt
      rw [markI_lt K n k hlt] at hx
      simp only [Option.getD_some] at hx
      clear hcells
      go_wp2_with fail
      go_round
      case rel => exact ⟨k + 1, by omega, by go_num, by go_num⟩
      case measure => simp [intOf]; omega
    · have hk' : k = n := by omega
      subst hk'
      go_wp2_with fail
      go_ret
      exact ⟨rfl, rfl⟩
set_option maxHeartbeats 400000 in
theorem c_eqIntS (s t : Option Addr) (n c1 c2 : Nat) (zs : List Int) (hn : n ≤ 1048576) (w : World) (hs : Ints w s n zs) (ht : Ints w t n zs) : Calls Try.prog 18 #[.slice s n c1, .slice t n c2] w fun e w' => e = .returned (.bool true) ∧ Below w.heap.size w w' := by
  go_enter Try.func18, Try.ntmps18
  go_wp2_with fail
  go_loopw [5] (fun i wr => ∃ k : Nat, k ≤ n ∧ i = .int .i64 k ∧ Below w.heap.size w wr) (fun i _ => n - (intOf i).toNat)
  case atStart => exact ⟨0, Nat.zero_le _, rfl, Below.refl _ _⟩
  case round =>
    obtain ⟨k, hk, rfl, hB⟩ := hrel
    by_cases hlt : k < n
    · rcases (hs.keep hB).lies with h0 | ⟨b1, o1, rfl, hb1, hcells1⟩
      · omega
      rcases (ht.keep hB).lies with h0 | ⟨b2, o2, rfl, hb2, hcells2⟩
      · omega
      have hx := hcells1 k hlt
      have hx2 := hcells2 k hlt
      clear hcells1 hcells2
      go_wp2_with fail
      go_quiet (fail)
      go_wp2_with fail
      go_roundw
      case rel => exact ⟨k + 1, by omega, by go_num, bel_drewN hB _⟩
      case measure => simp [intOf]; omega
    · go_wp2_with fail
      go_ret
      exact ⟨rfl, hB⟩
theorem c_markIntS (s : Option Addr) (n cap base : Nat) (e0 : TypeId) (zs : List Int) (hl : zs.length = n) (hn : n ≤ 1048576) (K : Int) (h1 : 0 ≤ K) (h2 : K ≤ 1099511627776) (w : World) (hO : OwnI w base e0 (.slice s n cap) zs) :
    Calls Try.prog 21 #[.slice s n cap, .int .i64 K] w fun e w' => e = .returned (.int .i64 (K + (n : Int))) ∧ OwnI w' base e0 (.slice s n cap) (markI K n) ∧ w.grownBy w' (Value.slice s n cap).ownBlock := by
  rcases hO.cases with ⟨hv, hz⟩ | ⟨g, cap', hv, hg⟩
  · simp only [Value.slice.injEq] at hv
    obtain ⟨rfl, rfl, rfl⟩ := hv
    refine (c_markIntS0 none 0 K w).mono ?_
    rintro e w' ⟨rfl, rfl⟩
    exact ⟨ri (by simp), World.ownsRow_nil _ _ _ 1, World.grownBy.refl _ _⟩
  · simp only [Value.slice.injEq] at hv
    obtain ⟨rfl, _, rfl⟩ := hv
    exact c_markIntS1 g n cap base e0 zs hl hn K h1 h2 w hO
end Go.Proofs.Ytelgmmnjndinhaa
