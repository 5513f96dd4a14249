/- Contracts of SystemShare, in the program and in the model. -/
import Derived.Test.YtgdpebnnmklbjaaS1
namespace Go.Proofs.Ytgdpebnnmklbjaa
open Go.RowKit
/-- the sum of the period over the first k moduli -/
def shrK (P : Int) (zs : List Cl) : Nat → Int
  | 0 => 0
  | k + 1 => shrK P zs k + P / mAt zs k
theorem rib {a b : Int} {x : Bool} (h : a = b) : Ending.returned (.tuple #[.int .i64 a, .bool x]) = .returned (.tuple #[.int .i64 b, .bool x]) := by rw [h]
def shrI (zs : List Cl) : Int := shrK (perI zs) zs zs.length
theorem shrK_bd {P : Int} {zs : List Cl} (h1 : 1 ≤ P) (h2 : P ≤ 1000) (ha : allB zs = true) (k : Nat) (hk : k ≤ zs.length) : 0 ≤ shrK P zs k ∧ shrK P zs k ≤ 1000 * (k : Int) := by
  induction k with
  | zero => simp [shrK]
  | succ k ih =>
    obtain ⟨i1, i2⟩ := ih (by omega)
    obtain ⟨m1, m2, _, _⟩ := inB_iff.1 (allB_at ha k (by omega))
    have := quo_bd (show 0 ≤ P by omega) m1
    simp only [shrK]
    omega
set_option maxHeartbeats 400000 in
theorem c_specSystemShare (s : Option Addr) (n cap : Nat) (zs : List Cl) (hn : n ≤ 1048576) (w : World) (hc : Cls w s n zs) : Calls Try.prog 41 #[.slice s n cap] w fun e w' => e = .returned (.tuple #[.int .i64 (selI (sysB zs) (shrI zs)), .bool (sysB zs)]) ∧ Below w.heap.size w w' := by
  have hlen := hc.len
  have HL := Lib.hid hlen
  clear hlen
  cases hs : sysB zs
  · simp only [selI_f]
    go_enter Try.func41, Try.ntmps41
    go_wp2_with (go_at_call 15; refine (c_specSystemIn _ _ _ zs hn _ hc).mono ?_; rintro e w' ⟨rfl, hb⟩)
    go_ret2
    exact ⟨rfl, hb⟩
  · obtain ⟨hl1, hl2, ha, _, P1, P2⟩ := sysB_facts hs
    simp only [selI_t]
    have HA := Lib.hid ha
    have HS := Lib.hid (show shrK (perI zs) zs n = shrI zs by rw [← HL.out]; rfl)
    clear ha
    go_enter Try.func41, Try.ntmps41
    go_wp2_with (first | (go_at_call 15; refine (c_specSystemIn _ _ _ zs hn _ hc).mono ?_; rintro e w' ⟨rfl, hb⟩; have hc2 := hc.keep hb) | (go_at_call 50; refine (c_l2Period _ _ _ zs hn HA.out _ hc2).mono ?_; rintro e w' ⟨nq, rfl, rfl⟩))
    have hb2 := bel_drewN hb nq
    go_loopw [4, 6] (fun q i wr => ∃ (k : Nat), k ≤ n ∧ i = .int .i64 k ∧ q = .int .i64 (shrK (perI zs) zs k) ∧ Below w.heap.size w wr) (fun _ i _ => n - (intOf i).toNat)
    case atStart => exact ⟨0, Nat.zero_le _, rfl, rfl, hb2⟩
    case round =>
      obtain ⟨k, hk, rfl, rfl, hB⟩ := hrel
      have hsb := shrK_bd P1 P2 HA.out k (by rw [HL.out]; exact hk)
      by_cases hlt : k < n
      · obtain ⟨m1, m2, _, _⟩ := inB_iff.1 (allB_at HA.out k (by rw [HL.out]; exact hlt))
        have hq := quo_bd (show 0 ≤ perI zs by omega) m1
        rcases (hc.keep hB).lies with h0 | ⟨b, off, rfl, hb', hcells⟩
        · omega
        obtain ⟨hx, hy⟩ := hcells k hlt
        clear hcells
        go_wp2_with fail
        go_roundw
        case rel => exact ⟨k + 1, by omega, by go_num, rfl, hB⟩
        case measure => simp [intOf]; omega
      · have hk' : k = n := by omega
        subst hk'
        go_wp2_with fail
        go_ret2
        exact ⟨rib HS.out, hB⟩
set_option maxHeartbeats 400000 in
theorem c_implSystemShare (s : Option Addr) (n cap : Nat) (zs : List Cl) (hn : n ≤ 1048576) (w : World) (hc : Cls w s n zs) : Calls Try.prog 24 #[.slice s n cap] w fun e w' => e = .returned (.tuple #[.int .i64 (selI (sysB zs) (shrI zs)), .bool (sysB zs)]) ∧ Below w.heap.size w w' := by
  have hlen := hc.len
  have HL := Lib.hid hlen
  clear hlen
  cases hs : sysB zs
  · simp only [selI_f]
    go_enter Try.func24, Try.ntmps24
    go_wp2_with (go_at_call 18; refine (c_implSystemPeriod_f _ _ _ zs hn hs _ hc).mono ?_; rintro e w' ⟨rfl, hb⟩)
    go_ret2
    exact ⟨rfl, hb⟩
  · obtain ⟨hl1, hl2, ha, _, P1, P2⟩ := sysB_facts hs
    simp only [selI_t]
    have HA := Lib.hid ha
    have HS := Lib.hid (show shrK (perI zs) zs n = shrI zs by rw [← HL.out]; rfl)
    clear ha
    go_enter Try.func24, Try.ntmps24
    go_wp2_with (first | (go_at_call 18; refine (c_implSystemPeriod_t _ _ _ zs hn hs _ hc).mono ?_; rintro e w' ⟨rfl, hb⟩))
    go_loopw [6, 18] (fun q i wr => ∃ (k : Nat), k ≤ n ∧ i = .int .i64 k ∧ q = .int .i64 (shrK (perI zs) zs k) ∧ Below w.heap.size w wr) (fun _ i _ => n - (intOf i).toNat)
    case atStart => exact ⟨0, Nat.zero_le _, rfl, rfl, hb⟩
    case round =>
      obtain ⟨k, hk, rfl, rfl, hB⟩ := hrel
      have hsb := shrK_bd P1 P2 HA.out k (by rw [HL.out]; exact hk)
      by_cases hlt : k < n
      · obtain ⟨m1, m2, _, _⟩ := inB_iff.1 (allB_at HA.out k (by rw [HL.out]; exact hlt))
        have hq := quo_bd (show 0 ≤ perI zs by omega) m1
        rcases (hc.keep hB).lies with h0 | ⟨b, off, rfl, hb', hcells⟩
        · omega
        obtain ⟨hx, hy⟩ := hcells k hlt
        clear hcells
        go_wp2_with fail
        go_roundw
        case rel => exact ⟨k + 1, by omega, by go_num, rfl, ba hB _⟩
        case measure => simp [intOf]; omega
      · have hk' : k = n := by omega
        subst hk'
        go_wp2_with fail
        go_ret2
        exact ⟨rib HS.out, hB⟩
end Go.Proofs.Ytgdpebnnmklbjaa
