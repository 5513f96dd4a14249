/- Contracts of SystemApart, in the program (by the greatest count) and in the model (by each two classes). -/
import Derived.Test.YtlgekggbanjmaaaS7
import Derived.Test.YtlgekggbanjmaaaMathA
namespace Go.Proofs.Ytlgekggbanjmaaa
open Go.RowKit
def MaxPost (zs : List Int) (n : Nat) (w : World) (e : Ending) (w' : World) : Prop := ∃ M, e = .returned (.int .i64 M) ∧ (M ≤ 1 ↔ ∀ j, j < n → zs[j]?.getD 0 ≤ 1) ∧ w = w'
theorem max_step {zs : List Int} {k : Nat} {M : Int} (h : M ≤ 1 ↔ ∀ j, j < k → zs[j]?.getD 0 ≤ 1) : ((if M < zs[k]?.getD 0 then zs[k]?.getD 0 else M) ≤ 1 ↔ ∀ j, j < k + 1 → zs[j]?.getD 0 ≤ 1) := by
  constructor
  · intro hm j hj
    by_cases e : j = k
    · subst e; split at hm <;> omega
    · exact h.1 (by split at hm <;> omega) j (by omega)
  · intro hj
    have h1 := h.2 fun j hjk => hj j (by omega)
    have h2 := hj k (by omega)
    split <;> omega
theorem c_slicesMax (s : Option Addr) (n cap : Nat) (zs : List Int) (h0 : 0 < n) (hn : n ≤ 1048576) (w : World) (hc : Ints w s n zs) : Calls Try.prog 63 #[.slice s n cap] w (MaxPost zs n w) := by
  rcases hc.lies with h | ⟨b, off, rfl, hb, hcells⟩
  · omega
  have hcell0 := hcells 0 h0
  rw [Nat.add_zero] at hcell0
  go_enter Try.func63, Try.ntmps63
  go_wp2_with fail
  go_loop [3, 4] (fun m i => ∃ (k : Nat) (M : Int), 0 < k ∧ k ≤ n ∧ i = .int .i64 k ∧ m = .int .i64 M ∧ Hid (M ≤ 1 ↔ ∀ j, j < k → zs[j]?.getD 0 ≤ 1)) (fun _ i => n - (intOf i).toNat)
  case atStart => exact ⟨1, _, by omega, by omega, rfl, rfl, ⟨fun h j hj => by (obtain rfl : j = 0 := by omega); exact h, fun h => h 0 (by omega)⟩⟩
  case round =>
    obtain ⟨k, M, hk0, hk, rfl, rfl, hM⟩ := hrel
    by_cases hlt : k < n
    · have hx := hcells k hlt
      have hS := Lib.hid (max_step hM.out)
      go_wp2_with fail
      go_round
      case rel => exact ⟨k + 1, _, by omega, by omega, by go_num, rfl, hS⟩
      case measure => simp [intOf]; omega
    · have hk' : k = n := by omega
      subst hk'
      go_wp2_with fail
      go_ret
      exact ⟨M, rfl, hM.out, rfl⟩
theorem timL_get {zs : List Cl} {P : Nat} (hP : perI zs = (P : Int)) (j : Nat) (h : j < P) : (timL zs)[j]?.getD 0 = cntN zs j := by simp [timL, hP, h]
theorem c_implSystemApart (s : Option Addr) (n cap : Nat) (zs : List Cl) (hn : n ≤ 1048576) (w : World) (hc : Cls w s n zs) : Calls Try.prog 38 #[.slice s n cap] w fun e w' => e = .returned (.bool (aprB zs)) ∧ Below w.heap.size w w' := by
  have hcon := c_implSystemTimes s n cap zs hn w hc
  cases hs : sysB zs
  · rw [hs] at hcon
    have hA := Lib.hid (show aprB zs = false by simp [aprB, hs])
    go_enter Try.func38, Try.ntmps38
    go_wp2_with (go_at_call 62; refine hcon.mono ?_; rintro e w2 ⟨v2, rfl, hO2, hB2⟩)
    go_ret
    exact ⟨rb hA.out.symm, hB2⟩
  · rw [hs, timR_t hs] at hcon
    obtain ⟨_, _, _, _, P1, P2⟩ := sysB_facts hs
    obtain ⟨P, hP⟩ : ∃ P : Nat, perI zs = (P : Int) := ⟨(perI zs).toNat, by omega⟩
    have hlen : (timL zs).length = P := by rw [timL_length, hP]; exact Int.toNat_natCast P
    have hP1 : 0 < P := by omega
    have hP2 : P ≤ 1000 := by omega
    have hiff : apaB zs = true ↔ ∀ j, j < P → (timL zs)[j]?.getD 0 ≤ 1 := by
      rw [apa_times hs]
      constructor
      · intro h j hj; rw [timL_get hP j hj]; exact h j (by omega)
      · intro h x hx; rw [← timL_get hP x (by omega)]; exact h x (by omega)
    have hA : aprB zs = apaB zs := by simp [aprB, hs]
    have HA := Lib.hid hA
    have HF := Lib.hid hiff
    have HLn := Lib.hid hlen
    clear hA hiff hlen P1 P2 hP
    go_enter Try.func38, Try.ntmps38
    go_wp2_with fail
    refine hcon.mono ?_
    rintro e w2 ⟨v2, rfl, hO2, hB2⟩
    obtain ⟨s2, cap2, rfl, hI2, hs2⟩ := hO2.spread
    rw [HLn.out] at hI2
    rw [HLn.out]
    clear hcon hO2
    go_wp2_with fail
    refine (c_slicesMax _ _ _ (timL zs) hP1 (by omega) _ hI2).mono ?_
    rintro e w' ⟨M, rfl, hM, rfl⟩
    have HM := Lib.hid hM
    clear hM
    go_wp2_with fail
    go_ret
    refine ⟨rb ?_, hB2⟩
    rw [HA.out, Bool.eq_iff_iff, HF.out, decide_eq_true_iff]
    exact HM.out
theorem apa_no {zs : List Cl} {i j : Nat} (hi : i < zs.length) (hj : j < i) (h : pairB zs i j = true) : apaB zs = false := by
  cases ha : apaB zs
  · rfl
  · have := of_decide_eq_true (show decide _ = true from ha) i hi j hj
    rw [h] at this; cases this
end Go.Proofs.Ytlgekggbanjmaaa
