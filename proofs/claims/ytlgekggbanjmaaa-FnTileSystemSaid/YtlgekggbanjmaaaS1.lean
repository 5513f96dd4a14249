/- Contracts of SystemIn and SystemPeriod, in the program and in the model. -/
import Derived.Test.YtlgekggbanjmaaaC1
import Derived.Test.YtlgekggbanjmaaaR2
import Derived.Test.YtlgekggbanjmaaaMathP
import Derived.LoopTactic
namespace Go.Proofs.Ytlgekggbanjmaaa
open Go.RowKit
theorem sys_some {zs : List Cl} (hl : 1 ≤ zs.length ∧ zs.length ≤ 8) (h : ∃ q, perO 1 zs = some q) : sysB zs = true := by obtain ⟨q, h⟩ := h; exact sysB_t hl h
set_option maxHeartbeats 1000000 in
theorem c_implSystemPeriod (s : Option Addr) (n cap : Nat) (zs : List Cl) (hn : n ≤ 1048576) (w : World) (hc : Cls w s n zs) : Calls Try.prog 61 #[.slice s n cap] w fun e w' => e = .returned (.tuple #[.int .i64 (selI (sysB zs) (perI zs)), .bool (sysB zs)]) ∧ Below w.heap.size w w' := by
  have hlen := hc.len
  have HL := Lib.hid hlen
  clear hlen
  by_cases hr : 1 ≤ n ∧ n ≤ 8
  · obtain ⟨hr1, hr2⟩ := hr
    go_enter Try.func61, Try.ntmps61
    go_wp2_with fail
    go_loopw [4, 17] (fun q i wr => ∃ (k : Nat) (p : Int), k ≤ n ∧ i = .int .i64 k ∧ q = .int .i64 p ∧ 1 ≤ p ∧ p ≤ 1000 ∧ Hid (perO p (zs.drop k) = perO 1 zs) ∧ Below w.heap.size w wr) (fun _ i _ => n - (intOf i).toNat)
    case atStart => exact ⟨0, 1, Nat.zero_le _, rfl, rfl, by omega, by omega, rfl, Below.refl _ _⟩
    case round =>
      obtain ⟨k, p, hk, rfl, rfl, p1, p2, hp, hB⟩ := hrel
      by_cases hlt : k < n
      · rcases (hc.keep hB).lies with h0 | ⟨b, off, rfl, hb, hcells⟩
        · omega
        obtain ⟨hx, hy⟩ := hcells k hlt
        clear hcells
        cases hi : inB (rAt zs k) (mAt zs k)
        · have hs := Lib.hid (sysB_1 (per_no (by rw [HL.out]; exact hlt) hp.out (by rw [hi]; simp)))
          go_wp2_with (go_at_call 73; refine (c_valid _ _ _).mono ?_; rintro e w1 ⟨rfl, rfl⟩)
          go_ret2
          exact ⟨by rw [hs.out]; rfl, ba (ba hB _) _⟩
        · obtain ⟨m1, m2, _, _⟩ := inB_iff.1 hi
          have HI := Lib.hid hi
          obtain ⟨l1, l2, l3, l4⟩ := lcmI_bd p1 p2 m1 m2
          obtain ⟨q1, _, _⟩ := lcmI_pos p1 m1
          by_cases hle : lcmI p (mAt zs k) ≤ 1000
          · have hs := Lib.hid (per_yes (by rw [HL.out]; exact hlt) hp.out HI.out rfl hle)
            have hm : modB (lcmI p (mAt zs k)) = true := modB_t ⟨q1, hle⟩
            go_wp2_with (first | (go_at_call 73; refine (c_valid _ _ _).mono ?_; rintro e w1 ⟨rfl, rfl⟩) | (go_at_call 74; refine (c_commonMultiple p (mAt zs k) p1 p2 m1 m2 _).mono ?_; rintro e w1 ⟨nq, rfl, rfl⟩) | (go_at_call 75; refine (c_inModuli _ _).mono ?_; rintro e w1 ⟨rfl, rfl⟩))
            go_roundw
            case rel => exact ⟨k + 1, _, by omega, by go_num, rfl, q1, hle, hs, bel_drewN (ba (ba hB _) _) _⟩
            case measure => simp [intOf]; omega
          · have hs := Lib.hid (sysB_1 (per_no (by rw [HL.out]; exact hlt) hp.out (by omega)))
            have hm : modB (lcmI p (mAt zs k)) = false := modB_f (by omega)
            go_wp2_with (first | (go_at_call 73; refine (c_valid _ _ _).mono ?_; rintro e w1 ⟨rfl, rfl⟩) | (go_at_call 74; refine (c_commonMultiple p (mAt zs k) p1 p2 m1 m2 _).mono ?_; rintro e w1 ⟨nq, rfl, rfl⟩) | (go_at_call 75; refine (c_inModuli _ _).mono ?_; rintro e w1 ⟨rfl, rfl⟩))
            go_ret2
            exact ⟨by rw [hs.out]; rfl, bel_drewN (ba (ba hB _) _) _⟩
      · have ho := per_end (by rw [HL.out]; omega) hp.out
        have hs := Lib.hid (sysB_t (by rw [HL.out]; omega) ho)
        have hq := Lib.hid (show perI zs = p by simp [perI, ho])
        clear ho hp
        go_wp2_with fail
        go_ret2
        exact ⟨by rw [hs.out, hq.out]; rfl, hB⟩
  · have hs := Lib.hid (sysB_0 (zs := zs) (by rw [HL.out]; exact hr))
    by_cases h0 : n < 1
    · go_enter Try.func61, Try.ntmps61
      go_wp2_with fail
      go_ret2
      exact ⟨by rw [hs.out]; rfl, Below.refl _ _⟩
    · go_enter Try.func61, Try.ntmps61
      go_wp2_with fail
      go_ret2
      exact ⟨by rw [hs.out]; rfl, Below.refl _ _⟩
theorem c_implSystemPeriod_t (s : Option Addr) (n cap : Nat) (zs : List Cl) (hn : n ≤ 1048576) (hs : sysB zs = true) (w : World) (hc : Cls w s n zs) : Calls Try.prog 61 #[.slice s n cap] w fun e w' => e = .returned (.tuple #[.int .i64 (perI zs), .bool true]) ∧ Below w.heap.size w w' := by
  have h := c_implSystemPeriod s n cap zs hn w hc
  rw [hs] at h; exact h
theorem c_implSystemPeriod_f (s : Option Addr) (n cap : Nat) (zs : List Cl) (hn : n ≤ 1048576) (hs : sysB zs = false) (w : World) (hc : Cls w s n zs) : Calls Try.prog 61 #[.slice s n cap] w fun e w' => e = .returned (.tuple #[.int .i64 0, .bool false]) ∧ Below w.heap.size w w' := by
  have h := c_implSystemPeriod s n cap zs hn w hc
  rw [hs] at h; exact h
end Go.Proofs.Ytlgekggbanjmaaa
