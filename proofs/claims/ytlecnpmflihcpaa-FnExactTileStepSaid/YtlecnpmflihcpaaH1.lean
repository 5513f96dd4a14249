/- Contracts of the helpers of the exact laws on lists of classes: how many there are, the list laid anew, two lists compared. -/
import Derived.Test.YtlecnpmflihcpaaC1
import Derived.Test.YtlecnpmflihcpaaMathS
import Derived.LoopTactic
import Derived.OwnWalk
import Derived.Laws.OwnMore
namespace Go.Proofs.Ytlecnpmflihcpaa
open Go.RowKit
theorem infoC : (Try.prog.info? 60).map (fun i => (i.zero, i.size, i.bytes)) = some (some (.agg #[.int .i64 0, .int .i64 0]), 2, 16) := by kernel_rfl
def ToPost (w : World) (zs : List Cl) (e : Ending) (w' : World) : Prop := ∃ g, w.heap.size ≤ g ∧ e = .returned (.slice (some ⟨g, 0, none⟩) zs.length zs.length) ∧ OwnC w' w.heap.size 60 (.slice (some ⟨g, 0, none⟩) zs.length zs.length) zs ∧ Below w.heap.size w w'
set_option maxHeartbeats 400000 in
theorem c_eqClassS (s t : Option Addr) (n c1 c2 : Nat) (zs : List Cl) (hn : n ≤ 1048576) (w : World) (hs : Cls w s n zs) (ht : Cls w t n zs) : Calls Try.prog 31 #[.slice s n c1, .slice t n c2] w fun e w' => e = .returned (.bool true) ∧ Below w.heap.size w w' := by
  go_enter Try.func31, Try.ntmps31
  go_wp2_with fail
  go_loopw [5] (fun i wr => ∃ k : Nat, k ≤ n ∧ i = .int .i64 k ∧ Below w.heap.size w wr) (fun i _ => n - (intOf i).toNat)
  case atStart => exact ⟨0, Nat.zero_le _, rfl, Below.refl _ _⟩
  case round =>
    obtain ⟨k, hk, rfl, hB⟩ := hrel
    by_cases hlt : k < n
    · rcases (hs.keep hB).lies with h0 | ⟨b1, o1, rfl, hb1, hcells1⟩
      · omega
      rcases (ht.keep hB).lies with h0 | ⟨b2, o2, rfl, hb2, hcells2⟩
      · omega
      obtain ⟨hx, hy⟩ := hcells1 k hlt
      obtain ⟨hx2, hy2⟩ := hcells2 k hlt
      clear hcells1 hcells2
      go_wp2_with fail
      go_region_held3 (fun w' => w'.cell? ⟨b1, o1 + k * 2, none⟩ = some (.int .i64 (rAt zs k)) ∧ w'.cell? ⟨b1, o1 + k * 2 + 1, none⟩ = some (.int .i64 (mAt zs k)) ∧ w'.cell? ⟨b2, o2 + k * 2, none⟩ = some (.int .i64 (rAt zs k)) ∧ w'.cell? ⟨b2, o2 + k * 2 + 1, none⟩ = some (.int .i64 (mAt zs k))) (go_keep) (first | (go_at_call 51; refine (c_eqClass _ _ _).mono ?_; rintro e w1 ⟨rfl, rfl⟩))
      go_wp2_with fail
      go_roundw
      case rel => exact ⟨k + 1, by omega, by go_num, (ba (ba hB _) _).drew⟩
      case measure => simp [intOf]; omega
    · go_wp2_with fail
      go_ret
      exact ⟨rfl, hB⟩
end Go.Proofs.Ytlecnpmflihcpaa
