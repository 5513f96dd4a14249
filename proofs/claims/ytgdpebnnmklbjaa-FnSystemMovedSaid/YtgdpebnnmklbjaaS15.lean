/- Contracts of SystemHoles, SystemAll and SystemExact, in the program and in the model. -/
import Derived.Test.YtgdpebnnmklbjaaS14
import Derived.Test.YtgdpebnnmklbjaaS8
namespace Go.Proofs.Ytgdpebnnmklbjaa
open Go.RowKit
open Go.Maps
set_option maxHeartbeats 1000000 in
theorem c_implSystemHoles (s : Option Addr) (n cap : Nat) (zs : List Cl) (hn : n ≤ 1048576) (w : World) (hc : Cls w s n zs) : Calls Try.prog 25 #[.slice s n cap] w (RetI w (holR zs) (sysB zs)) := by
  cases hs : sysB zs
  · rw [holR_f hs]
    have hcon := c_implSystemPeriod_f s n cap zs hn hs w hc
    go_enter Try.func25, Try.ntmps25
    go_wp2_with (go_at_call 18; refine hcon.mono ?_; rintro e w2 ⟨rfl, hb⟩)
    go_ret2
    exact ⟨_, rfl, World.ownsRow_nil _ _ _ _, hb⟩
  · rw [holR_t hs]
    obtain ⟨hl1, hl2, ha, _, P1, P2⟩ := sysB_facts hs
    have hlen := hc.len
    obtain ⟨P, hP⟩ : ∃ P : Nat, perI zs = (P : Int) := ⟨(perI zs).toNat, by omega⟩
    have HT := Lib.hid (show holL zs = holK zs P by unfold holL; rw [hP]; rfl)
    have hcon := c_implSystemPeriod_t s n cap zs hn hs w hc
    rw [hP] at hcon
    have hmm := @run_makeMap Try.prog
    have hsb : ∀ g off, s = some ⟨g, off, none⟩ → g < w.heap.size := by
      intro g off e
      rcases hc.lies with h | ⟨b, off', rfl, hb, _⟩
      · omega
      · simp only [Option.some.injEq, Addr.mk.injEq, and_true] at e
        omega
    have HP : P ≤ 1000 := by omega
    clear hP P1 P2
    go_enter Try.func25, Try.ntmps25
    go_wp2_with (first
      | (go_at_call 18; refine hcon.mono ?_; rintro e w2 ⟨rfl, hb⟩; have hc2 := (hc.keep hb).keep (ba (Below.refl _ _) (.map #[] 0)))
      | (go_at_call 53; refine (c_holesBelow P s n cap zs w2.heap.size 0 (.map []) HP (by omega) (by omega) ha _ hc2 (fun g off e => by have := hsb g off e; have := hb.size; omega) (World.ownsMap_made _ _ _ _)).mono ?_; rintro e w3 ⟨v, nn, D, rfl, hO, hM, hG⟩)
      | fail)
    go_ret2
    rw [HT.out]
    refine ⟨_, rfl, OwnI.low hO (by have := hb.size; simp; omega), ?_⟩
    exact (ba hb _).grown hG (by have := hb.size; simp; omega) (fun j hj => by cases hj; exact hb.size)
/-- it is a system, and covers all -/
def alB (zs : List Cl) : Bool := sysB zs && (holL zs).isEmpty
theorem len_nil {L : List Int} : (L.length == 0) = L.isEmpty := by cases L <;> simp
set_option maxHeartbeats 400000 in
theorem c_implSystemAll (s : Option Addr) (n cap : Nat) (zs : List Cl) (hn : n ≤ 1048576) (w : World) (hc : Cls w s n zs) : Calls Try.prog 30 #[.slice s n cap] w fun e w' => e = .returned (.bool (alB zs)) ∧ Below w.heap.size w w' := by
  have hcon := c_implSystemHoles s n cap zs hn w hc
  cases hs : sysB zs
  · rw [hs] at hcon
    have hA := Lib.hid (show alB zs = false by simp [alB, hs])
    go_enter Try.func30, Try.ntmps30
    go_wp2_with (go_at_call 25; refine hcon.mono ?_; rintro e w2 ⟨v2, rfl, hO2, hB2⟩)
    go_ret
    exact ⟨rb hA.out.symm, hB2⟩
  · rw [hs, holR_t hs] at hcon
    cases hl : holL zs with
    | nil =>
      rw [hl] at hcon
      have hA := Lib.hid (show alB zs = true by simp [alB, hs, hl])
      go_enter Try.func30, Try.ntmps30
      go_wp2_with (go_at_call 25; refine hcon.mono ?_; rintro e w2 ⟨v2, rfl, hO2, hB2⟩; obtain ⟨s2, cap2, rfl, _, _⟩ := hO2.spread)
      go_ret
      exact ⟨rb hA.out.symm, hB2⟩
    | cons x t =>
      rw [hl] at hcon
      have hA := Lib.hid (show alB zs = false by simp [alB, hs, hl])
      go_enter Try.func30, Try.ntmps30
      go_wp2_with (go_at_call 25; refine hcon.mono ?_; rintro e w2 ⟨v2, rfl, hO2, hB2⟩; obtain ⟨s2, cap2, rfl, _, _⟩ := hO2.spread)
      go_ret
      refine ⟨?_, hB2⟩
      rw [hA.out]
      simp
      try omega
set_option maxHeartbeats 400000 in
theorem c_specSystemAll (s : Option Addr) (n cap : Nat) (zs : List Cl) (hn : n ≤ 1048576) (w : World) (hc : Cls w s n zs) : Calls Try.prog 32 #[.slice s n cap] w fun e w' => e = .returned (.bool (alB zs)) ∧ Below w.heap.size w w' := by
  cases hs : sysB zs
  · have hA := Lib.hid (show alB zs = false by simp [alB, hs])
    go_enter Try.func32, Try.ntmps32
    go_wp2_with fail
    refine (c_specSystemIn _ _ _ zs hn _ hc).mono ?_
    rintro e w2 ⟨rfl, hb⟩
    rw [hs]
    go_wp2_with fail
    go_ret
    exact ⟨rb hA.out.symm, hb⟩
  · cases hl : holL zs with
    | nil =>
      have hA := Lib.hid (show alB zs = true by simp [alB, hs, hl])
      go_enter Try.func32, Try.ntmps32
      go_wp2_with fail
      refine (c_specSystemIn _ _ _ zs hn _ hc).mono ?_
      rintro e w2 ⟨rfl, hb⟩
      have hc2 := hc.keep hb
      rw [hs]
      go_wp2_with fail
      refine (c_l2Holes _ _ _ zs hn hs _ hc2).mono ?_
      rintro e w3 ⟨v, rfl, hO, hb3⟩
      rw [hl] at hO
      obtain ⟨s2, cap2, rfl, _, _⟩ := hO.spread
      go_wp2_with fail
      go_ret
      exact ⟨rb hA.out.symm, bt2 hb hb3⟩
    | cons x t =>
      have hA := Lib.hid (show alB zs = false by simp [alB, hs, hl])
      go_enter Try.func32, Try.ntmps32
      go_wp2_with fail
      refine (c_specSystemIn _ _ _ zs hn _ hc).mono ?_
      rintro e w2 ⟨rfl, hb⟩
      have hc2 := hc.keep hb
      rw [hs]
      go_wp2_with fail
      refine (c_l2Holes _ _ _ zs hn hs _ hc2).mono ?_
      rintro e w3 ⟨v, rfl, hO, hb3⟩
      rw [hl] at hO
      obtain ⟨s2, cap2, rfl, _, _⟩ := hO.spread
      go_wp2_with fail
      go_ret
      refine ⟨?_, bt2 hb hb3⟩
      rw [hA.out]
      simp
      try omega
def exaB (zs : List Cl) : Bool := alB zs && apaB zs
theorem alB_sys {zs : List Cl} (h : alB zs = true) : sysB zs = true := by
  unfold alB at h
  simp at h
  exact h.1
set_option maxHeartbeats 400000 in
theorem c_specSystemExact (s : Option Addr) (n cap : Nat) (zs : List Cl) (hn : n ≤ 1048576) (w : World) (hc : Cls w s n zs) : Calls Try.prog 39 #[.slice s n cap] w fun e w' => e = .returned (.bool (exaB zs)) ∧ Below w.heap.size w w' := by
  cases hs : alB zs
  · have hA := Lib.hid (show exaB zs = false by simp [exaB, hs])
    go_enter Try.func39, Try.ntmps39
    go_wp2_with fail
    refine (c_specSystemAll _ _ _ zs hn _ hc).mono ?_
    rintro e w2 ⟨rfl, hb⟩
    rw [hs]
    go_wp2_with fail
    go_ret
    exact ⟨rb hA.out.symm, hb⟩
  · have hA := Lib.hid (show exaB zs = apaB zs by simp [exaB, hs])
    obtain ⟨_, _, ha, _, _, _⟩ := sysB_facts (alB_sys hs)
    go_enter Try.func39, Try.ntmps39
    go_wp2_with fail
    refine (c_specSystemAll _ _ _ zs hn _ hc).mono ?_
    rintro e w2 ⟨rfl, hb⟩
    have hc2 := hc.keep hb
    rw [hs]
    go_wp2_with fail
    refine (c_l2Apart _ _ _ zs hn ha _ hc2).mono ?_
    rintro e w3 ⟨rfl, hb3⟩
    go_wp2_with fail
    go_ret
    exact ⟨rb hA.out.symm, bt2 hb hb3⟩
set_option maxHeartbeats 400000 in
theorem c_implSystemExact (s : Option Addr) (n cap : Nat) (zs : List Cl) (hn : n ≤ 1048576) (w : World) (hc : Cls w s n zs) : Calls Try.prog 38 #[.slice s n cap] w fun e w' => e = .returned (.bool (exaB zs)) ∧ Below w.heap.size w w' := by
  cases hs : alB zs
  · have hA := Lib.hid (show exaB zs = false by simp [exaB, hs])
    go_enter Try.func38, Try.ntmps38
    go_wp2_with fail
    refine (c_implSystemAll _ _ _ zs hn _ hc).mono ?_
    rintro e w2 ⟨rfl, hb⟩
    rw [hs]
    go_wp2_with fail
    go_ret
    exact ⟨rb hA.out.symm, hb⟩
  · have hA := Lib.hid (show exaB zs = aprB zs by simp [exaB, hs, aprB, alB_sys hs])
    go_enter Try.func38, Try.ntmps38
    go_wp2_with fail
    refine (c_implSystemAll _ _ _ zs hn _ hc).mono ?_
    rintro e w2 ⟨rfl, hb⟩
    have hc2 := hc.keep hb
    rw [hs]
    go_wp2_with fail
    refine (c_implSystemApart _ _ _ zs hn _ hc2).mono ?_
    rintro e w3 ⟨rfl, hb3⟩
    go_wp2_with fail
    go_ret
    exact ⟨rb hA.out.symm, bt2 hb hb3⟩
end Go.Proofs.Ytgdpebnnmklbjaa
