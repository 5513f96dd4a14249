/- Contracts of SystemIn and SystemPeriod, in the program and in the model. -/
import Derived.Test.YtgdpebnnmklbjaaC1
import Derived.Test.YtgdpebnnmklbjaaR2
import Derived.Test.YtgdpebnnmklbjaaMathP
import Derived.LoopTactic
namespace Go.Proofs.Ytgdpebnnmklbjaa
open Go.RowKit
set_option maxHeartbeats 1000000 in
theorem c_l2Period (s : Option Addr) (n cap : Nat) (zs : List Cl) (hn : n ≤ 1048576) (ha : allB zs = true) (w : World) (hc : Cls w s n zs) : Calls Try.prog 50 #[.slice s n cap] w (QRet w (.int .i64 (perI zs))) := by
  have hlen := hc.len
  have HL := Lib.hid hlen
  clear hlen
  go_enter Try.func50, Try.ntmps50
  go_wp2_with fail
  go_loopw [3, 4] (fun q i wr => ∃ (k : Nat) (p : Int) (n0 : Nat), k ≤ n ∧ i = .int .i64 k ∧ q = .int .i64 p ∧ 1 ≤ p ∧ p ≤ 1000 ∧ Hid (perO p (zs.drop k) = perO 1 zs) ∧ Hid (wr = w.drewN n0)) (fun _ i _ => n - (intOf i).toNat)
  case atStart => exact ⟨0, 1, 0, Nat.zero_le _, rfl, rfl, by omega, by omega, rfl, rfl⟩
  case round =>
    obtain ⟨k, p, n0, hk, rfl, rfl, p1, p2, hp, hw⟩ := hrel
    have hB : Below w.heap.size w wr := by rw [hw.out]; exact bel_drewN (Below.refl _ _) _
    by_cases hlt : k < n
    · have hi := allB_at ha k (by rw [HL.out]; exact hlt)
      obtain ⟨m1, m2, _, _⟩ := inB_iff.1 hi
      have HI := Lib.hid hi
      rcases (hc.keep hB).lies with h0 | ⟨b, off, rfl, hb, hcells⟩
      · omega
      obtain ⟨hx, hy⟩ := hcells k hlt
      clear hcells hi hx
      obtain ⟨l1, l2, l3, l4⟩ := lcmI_bd p1 p2 m1 m2
      obtain ⟨q1, _, _⟩ := lcmI_pos p1 m1
      have hM : lcmI p (mAt zs k) = p / gcdI p (mAt zs k) * mAt zs k := rfl
      obtain ⟨g1, g2⟩ := gcdI_bd p1 (show 0 ≤ mAt zs k by omega)
      rw [hM] at q1
      have HM := Lib.hid hM
      clear hM
      go_wp2_with fail
      go_quiet ((go_at_call 72; exact Calls.quiet_of_same ((c_l1Gcd _ _ (by omega) p2 (by omega) m2 _).mono fun e w' h => ⟨h.1, h.2.symm⟩)))
      generalize hP : p / gcdI p (mAt zs k) * mAt zs k = P at *
      have HP := Lib.hid hP
      clear hP
      by_cases hle : P ≤ 1000
      · have hs := Lib.hid (per_yes (by rw [HL.out]; exact hlt) hp.out HI.out HM.out hle)
        go_wp2_with fail
        go_roundw
        case rel => exact ⟨k + 1, P, n0 + nq, by omega, by go_num, rfl, q1, hle, hs, by show _ = _; rw [hw.out]; exact drewN_add _ _ _⟩
        case measure => simp [intOf]; omega
      · have hs := Lib.hid (per_no (by rw [HL.out]; exact hlt) hp.out (by rw [HM.out]; omega))
        go_wp2_with fail
        go_ret
        exact ⟨n0 + nq, ri (by simp [perI, hs.out]), by rw [hw.out]; exact drewN_add _ _ _⟩
    · have hs := Lib.hid (per_end (by rw [HL.out]; omega) hp.out)
      clear hp
      go_wp2_with fail
      go_ret
      exact ⟨n0, ri (by simp [perI, hs.out]), hw.out⟩
theorem sys_some {zs : List Cl} (hl : 1 ≤ zs.length ∧ zs.length ≤ 8) (h : ∃ q, perO 1 zs = some q) : sysB zs = true := by obtain ⟨q, h⟩ := h; exact sysB_t hl h
set_option maxHeartbeats 1000000 in
theorem c_specSystemIn (s : Option Addr) (n cap : Nat) (zs : List Cl) (hn : n ≤ 1048576) (w : World) (hc : Cls w s n zs) : Calls Try.prog 15 #[.slice s n cap] w fun e w' => e = .returned (.bool (sysB zs)) ∧ Below w.heap.size w w' := by
  have hlen := hc.len
  have HL := Lib.hid hlen
  clear hlen
  go_enter Try.func15, Try.ntmps15
  go_wp2_with fail
  go_loopw [3] (fun i wr => ∃ k : Nat, k ≤ n ∧ i = .int .i64 k ∧ (∀ j, j < k → Hid (inB (rAt zs j) (mAt zs j) = true)) ∧ Below w.heap.size w wr) (fun i _ => n - (intOf i).toNat)
  case atStart => exact ⟨0, Nat.zero_le _, rfl, fun j hj => by omega, Below.refl _ _⟩
  case round =>
    obtain ⟨k, hk, rfl, hv, hB⟩ := hrel
    have HV := Lib.hid hv
    clear hv
    by_cases hlt : k < n
    · rcases (hc.keep hB).lies with h0 | ⟨b, off, rfl, hb, hcells⟩
      · omega
      obtain ⟨hx, hy⟩ := hcells k hlt
      clear hcells
      cases hi : inB (rAt zs k) (mAt zs k)
      · have hs := Lib.hid (sysB_2 (allB_no (by rw [HL.out]; exact hlt) hi))
        go_wp2_with (go_at_call 48; refine (c_specClassIn _ _ _).mono ?_; rintro e w1 ⟨rfl, rfl⟩)
        go_ret
        exact ⟨rb hs.out.symm, ba hB _⟩
      · have HI := Lib.hid hi
        go_wp2_with (go_at_call 48; refine (c_specClassIn _ _ _).mono ?_; rintro e w1 ⟨rfl, rfl⟩)
        go_roundw
        case rel => exact ⟨k + 1, by omega, by go_num, fun j hj => by
          by_cases e : j < k
          · exact HV.out j e
          · have : j = k := by omega
            subst this; exact HI, ba hB _⟩
        case measure => simp [intOf]; omega
    · have hk' : k = n := by omega
      subst hk'
      have ha : allB zs = true := allB_of (fun j hj => (HV.out j (by rw [← HL.out]; exact hj)).out)
      have HA := Lib.hid ha
      have hc2 := hc.keep hB
      clear ha
      by_cases hr : 1 ≤ k ∧ k ≤ 8
      · have hl : l6B (k : Int) 1 8 = true := l6B_t (by omega)
        cases ho : perO 1 zs with
        | none =>
          have hs := Lib.hid (sysB_1 ho)
          have hp : perI zs = 0 := by simp [perI, ho]
          clear ho
          go_wp2_with (first | (go_at_call 49; refine (c_l6In _ _ _ _).mono ?_; rintro e w1 ⟨rfl, rfl⟩) | (go_at_call 50; refine (c_l2Period _ _ _ zs hn HA.out _ hc2).mono ?_; rintro e w' ⟨nq, rfl, rfl⟩))
          go_ret
          exact ⟨rb hs.out.symm, bel_drewN hB _⟩
        | some q =>
          have hs := Lib.hid (sysB_t (by rw [HL.out]; exact hr) ho)
          have hp := (sysB_facts hs.out).2.2.2.2.1
          clear ho
          go_wp2_with (first | (go_at_call 49; refine (c_l6In _ _ _ _).mono ?_; rintro e w1 ⟨rfl, rfl⟩) | (go_at_call 50; refine (c_l2Period _ _ _ zs hn HA.out _ hc2).mono ?_; rintro e w' ⟨nq, rfl, rfl⟩))
          go_ret
          exact ⟨rb (by rw [hs.out]; exact decide_eq_true (by omega)), bel_drewN hB _⟩
      · have hl : l6B (k : Int) 1 8 = false := l6B_f (by omega)
        have hs := Lib.hid (sysB_0 (zs := zs) (by rw [HL.out]; exact hr))
        go_wp2_with (first | (go_at_call 49; refine (c_l6In _ _ _ _).mono ?_; rintro e w1 ⟨rfl, rfl⟩))
        go_ret
        exact ⟨rb hs.out.symm, hB⟩
theorem c_specSystemPeriod (s : Option Addr) (n cap : Nat) (zs : List Cl) (hn : n ≤ 1048576) (w : World) (hc : Cls w s n zs) : Calls Try.prog 19 #[.slice s n cap] w fun e w' => e = .returned (.tuple #[.int .i64 (selI (sysB zs) (perI zs)), .bool (sysB zs)]) ∧ Below w.heap.size w w' := by
  cases hs : sysB zs
  · simp only [selI_f]
    go_enter Try.func19, Try.ntmps19
    go_wp2_with (go_at_call 15; refine (c_specSystemIn _ _ _ zs hn _ hc).mono ?_; rintro e w' ⟨rfl, hb⟩)
    go_ret2
    exact ⟨rfl, hb⟩
  · obtain ⟨_, _, ha, _, _, _⟩ := sysB_facts hs
    simp only [selI_t]
    have HA := Lib.hid ha
    clear ha
    go_enter Try.func19, Try.ntmps19
    go_wp2_with (first | (go_at_call 15; refine (c_specSystemIn _ _ _ zs hn _ hc).mono ?_; rintro e w' ⟨rfl, hb⟩; have hc2 := hc.keep hb) | (go_at_call 50; refine (c_l2Period _ _ _ zs hn HA.out _ hc2).mono ?_; rintro e w' ⟨nq, rfl, rfl⟩))
    go_ret2
    exact ⟨rfl, bel_drewN hb _⟩
set_option maxHeartbeats 1000000 in
theorem c_implSystemPeriod (s : Option Addr) (n cap : Nat) (zs : List Cl) (hn : n ≤ 1048576) (w : World) (hc : Cls w s n zs) : Calls Try.prog 18 #[.slice s n cap] w fun e w' => e = .returned (.tuple #[.int .i64 (selI (sysB zs) (perI zs)), .bool (sysB zs)]) ∧ Below w.heap.size w w' := by
  have hlen := hc.len
  have HL := Lib.hid hlen
  clear hlen
  by_cases hr : 1 ≤ n ∧ n ≤ 8
  · obtain ⟨hr1, hr2⟩ := hr
    go_enter Try.func18, Try.ntmps18
    go_wp2_with fail
    go_loopw [4, 17] (fun q i wr => ∃ (k : Nat) (p : Int), k ≤ n ∧ i = .int .i64 k ∧ q = .int .i64 p ∧ 1 ≤ p ∧ p ≤ 1000 ∧ Hid (perO p (zs.drop k) = perO 1 zs) ∧ Below w.heap.size w wr) (fun _ i _ => n - (intOf i).toNat)
    case atStart => exact ⟨0, 1, Nat.zero_le _, rfl, rfl, by omega, by omega, rfl, Below.refl _ _⟩
    case round =>
      obtain ⟨k, p, hk, rfl, rfl, p1, p2, hp, hB⟩ := hrel
      by_cases hlt : k < n
      · rcases (hc.keep hB).lies with h0 | ⟨b, off, rfl, hb, hcells⟩
        · omega
        obtain ⟨hx, hy⟩ := hcells k hlt
        clear hcells
        cases hi : inB (rAt zs k) (mAt zs k)
        · have hs := Lib.hid (sysB_1 (per_no (by rw [HL.out]; exact hlt) hp.out (by rw [hi]; simp)))
          go_wp2_with (go_at_call 54; refine (c_valid _ _ _).mono ?_; rintro e w1 ⟨rfl, rfl⟩)
          go_ret2
          exact ⟨by rw [hs.out]; rfl, ba (ba hB _) _⟩
        · obtain ⟨m1, m2, _, _⟩ := inB_iff.1 hi
          have HI := Lib.hid hi
          obtain ⟨l1, l2, l3, l4⟩ := lcmI_bd p1 p2 m1 m2
          obtain ⟨q1, _, _⟩ := lcmI_pos p1 m1
          by_cases hle : lcmI p (mAt zs k) ≤ 1000
          · have hs := Lib.hid (per_yes (by rw [HL.out]; exact hlt) hp.out HI.out rfl hle)
            have hm : modB (lcmI p (mAt zs k)) = true := modB_t ⟨q1, hle⟩
            go_wp2_with (first | (go_at_call 54; refine (c_valid _ _ _).mono ?_; rintro e w1 ⟨rfl, rfl⟩) | (go_at_call 55; refine (c_commonMultiple p (mAt zs k) p1 p2 m1 m2 _).mono ?_; rintro e w1 ⟨nq, rfl, rfl⟩) | (go_at_call 56; refine (c_inModuli _ _).mono ?_; rintro e w1 ⟨rfl, rfl⟩))
            go_roundw
            case rel => exact ⟨k + 1, _, by omega, by go_num, rfl, q1, hle, hs, bel_drewN (ba (ba hB _) _) _⟩
            case measure => simp [intOf]; omega
          · have hs := Lib.hid (sysB_1 (per_no (by rw [HL.out]; exact hlt) hp.out (by omega)))
            have hm : modB (lcmI p (mAt zs k)) = false := modB_f (by omega)
            go_wp2_with (first | (go_at_call 54; refine (c_valid _ _ _).mono ?_; rintro e w1 ⟨rfl, rfl⟩) | (go_at_call 55; refine (c_commonMultiple p (mAt zs k) p1 p2 m1 m2 _).mono ?_; rintro e w1 ⟨nq, rfl, rfl⟩) | (go_at_call 56; refine (c_inModuli _ _).mono ?_; rintro e w1 ⟨rfl, rfl⟩))
            go_ret2
            exact ⟨by rw [hs.out]; rfl, bel_drewN (ba (ba hB _) _) _⟩
      · have ho := per_end (by rw [HL.out]; omega) hp.out
        have hs := Lib.hid (sysB_t (by rw [HL.out]; omega) ho)
        have hq := Lib.hid (show perI zs = p by simp [perI, ho])
        clear ho hp
        go_wp2_with fail
        go_ret2
        exact ⟨by rw [hs.out, hq.out]; rfl, hB⟩
  · have hs := Lib.hid (sysB_0 (zs := zs) (by rw [HL.out]; exact hr))
    by_cases h0 : n < 1
    · go_enter Try.func18, Try.ntmps18
      go_wp2_with fail
      go_ret2
      exact ⟨by rw [hs.out]; rfl, Below.refl _ _⟩
    · go_enter Try.func18, Try.ntmps18
      go_wp2_with fail
      go_ret2
      exact ⟨by rw [hs.out]; rfl, Below.refl _ _⟩
theorem c_implSystemIn (s : Option Addr) (n cap : Nat) (zs : List Cl) (hn : n ≤ 1048576) (w : World) (hc : Cls w s n zs) : Calls Try.prog 14 #[.slice s n cap] w fun e w' => e = .returned (.bool (sysB zs)) ∧ Below w.heap.size w w' := by
  go_enter Try.func14, Try.ntmps14
  go_wp2_with (go_at_call 18; refine (c_implSystemPeriod _ _ _ zs hn _ hc).mono ?_; rintro e w' ⟨rfl, hb⟩)
  go_ret
  exact ⟨rfl, hb⟩
theorem c_implSystemPeriod_t (s : Option Addr) (n cap : Nat) (zs : List Cl) (hn : n ≤ 1048576) (hs : sysB zs = true) (w : World) (hc : Cls w s n zs) : Calls Try.prog 18 #[.slice s n cap] w fun e w' => e = .returned (.tuple #[.int .i64 (perI zs), .bool true]) ∧ Below w.heap.size w w' := by
  have h := c_implSystemPeriod s n cap zs hn w hc
  rw [hs] at h; exact h
theorem c_implSystemPeriod_f (s : Option Addr) (n cap : Nat) (zs : List Cl) (hn : n ≤ 1048576) (hs : sysB zs = false) (w : World) (hc : Cls w s n zs) : Calls Try.prog 18 #[.slice s n cap] w fun e w' => e = .returned (.tuple #[.int .i64 0, .bool false]) ∧ Below w.heap.size w w' := by
  have h := c_implSystemPeriod s n cap zs hn w hc
  rw [hs] at h; exact h
end Go.Proofs.Ytgdpebnnmklbjaa
