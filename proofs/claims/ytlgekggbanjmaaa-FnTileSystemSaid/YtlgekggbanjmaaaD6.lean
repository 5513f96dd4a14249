/- Contract of what the law on parts draws; two lists of classes compared. -/
import Derived.Test.YtlgekggbanjmaaaD5
import Derived.Test.YtlgekggbanjmaaaMathS
import Derived.LoopTactic
namespace Go.Proofs.Ytlgekggbanjmaaa
open Go.RowKit
set_option maxHeartbeats 400000 in
theorem c_sameClasses (s t : Option Addr) (n c1 c2 : Nat) (zs : List Cl) (hn : n ≤ 1048576) (w : World) (hs : Cls w s n zs) (ht : Cls w t n zs) : Calls Try.prog 36 #[.slice s n c1, .slice t n c2] w fun e w' => e = .returned (.bool true) ∧ Below w.heap.size w w' := by
  go_enter Try.func36, Try.ntmps36
  go_wp2_with fail
  go_loopw [5] (fun i wr => ∃ k : Nat, k ≤ n ∧ i = .int .i64 k ∧ Below w.heap.size w wr) (fun i _ => n - (intOf i).toNat)
  case atStart => exact ⟨0, Nat.zero_le _, rfl, Below.refl _ _⟩
  case round =>
    obtain ⟨k, hk, rfl, hB⟩ := hrel
    by_cases hlt : k < n
    · rcases (hs.keep hB).lies with h0 | ⟨b1, o1, rfl, hb1, hcells1⟩
      · omega
      rcases (ht.keep hB).lies with h0 | ⟨b2, o2, rfl, hb2, hcells2⟩
      · omega
      obtain ⟨hx, hy⟩ := hcells1 k hlt
      obtain ⟨hx2, hy2⟩ := hcells2 k hlt
      clear hcells1 hcells2
      go_wp2_with fail
      go_quiet (fail)
      go_wp2_with fail
      go_roundw
      case rel => exact ⟨k + 1, by omega, by go_num, bel_drewN hB _⟩
      case measure => simp [intOf]; omega
    · go_wp2_with fail
      go_ret
      exact ⟨rfl, hB⟩
end Go.Proofs.Ytlgekggbanjmaaa
