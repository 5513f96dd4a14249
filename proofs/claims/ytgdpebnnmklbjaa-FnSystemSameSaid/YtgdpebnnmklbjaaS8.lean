/- Contracts of SystemApart, in the program (by the greatest count) and in the model (by each two classes). -/
import Derived.Test.YtgdpebnnmklbjaaS7
import Derived.Test.YtgdpebnnmklbjaaMathA
namespace Go.Proofs.Ytgdpebnnmklbjaa
open Go.RowKit
def MaxPost (zs : List Int) (n : Nat) (w : World) (e : Ending) (w' : World) : Prop := ∃ M, e = .returned (.int .i64 M) ∧ (M ≤ 1 ↔ ∀ j, j < n → zs[j]?.getD 0 ≤ 1) ∧ w = w'
theorem max_step {zs : List Int} {k : Nat} {M : Int} (h : M ≤ 1 ↔ ∀ j, j < k → zs[j]?.getD 0 ≤ 1) : ((if M < zs[k]?.getD 0 then zs[k]?.getD 0 else M) ≤ 1 ↔ ∀ j, j < k + 1 → zs[j]?.getD 0 ≤ 1) := by
  constructor
  · intro hm j hj
    by_cases e : j = k
    · subst e; split at hm <;> omega
    · exact h.1 (by split at hm <;> omega) j (by omega)
  · intro hj
    have h1 := h.2 fun j hjk => hj j (by omega)
    have h2 := hj k (by omega)
    split <;> omega
theorem max_step2 {zs : List Int} {k : Nat} {M : Int} (h : M ≤ 1 ↔ ∀ j, j < k → zs[j]?.getD 0 ≤ 1) : (max M (zs[k]?.getD 0) ≤ 1 ↔ ∀ j, j < k + 1 → zs[j]?.getD 0 ≤ 1) := by
  have e : max M (zs[k]?.getD 0) = if M < zs[k]?.getD 0 then zs[k]?.getD 0 else M := by split <;> omega
  rw [e]
  exact max_step h
theorem c_slicesMax (s : Option Addr) (n cap : Nat) (zs : List Int) (h0 : 0 < n) (hn : n ≤ 1048576) (w : World) (hc : Ints w s n zs) : Calls Try.prog 63 #[.slice s n cap] w (MaxPost zs n w) := by
  rcases hc.lies with h | ⟨b, off, rfl, hb, hcells⟩
  · omega
  have hcell0 := hcells 0 h0
  rw [Nat.add_zero] at hcell0
  go_enter Try.func63, Try.ntmps63
  go_wp2_with fail
  go_loop [3, 4] (fun m i => ∃ (k : Nat) (M : Int), 0 < k ∧ k ≤ n ∧ i = .int .i64 k ∧ m = .int .i64 M ∧ Hid (M ≤ 1 ↔ ∀ j, j < k → zs[j]?.getD 0 ≤ 1)) (fun _ i => n - (intOf i).toNat)
  case atStart => exact ⟨1, _, by omega, by omega, rfl, rfl, ⟨fun h j hj => by (obtain rfl : j = 0 := by omega); exact h, fun h => h 0 (by omega)⟩⟩
  case round =>
    obtain ⟨k, M, hk0, hk, rfl, rfl, hM⟩ := hrel
    by_cases hlt : k < n
    · have hx := hcells k hlt
      have hS := Lib.hid (max_step hM.out)
      have hS2 := Lib.hid (max_step2 hM.out)
      go_wp2_with fail
      go_round
      case rel => first | exact ⟨k + 1, _, by omega, by omega, by go_num, rfl, hS⟩ | exact ⟨k + 1, _, by omega, by omega, by go_num, rfl, hS2⟩
      case measure => simp [intOf]; omega
    · have hk' : k = n := by omega
      subst hk'
      go_wp2_with fail
      go_ret
      exact ⟨M, rfl, hM.out, rfl⟩
theorem timL_get {zs : List Cl} {P : Nat} (hP : perI zs = (P : Int)) (j : Nat) (h : j < P) : (timL zs)[j]?.getD 0 = cntN zs j := by simp [timL, hP, h]
theorem c_implSystemApart (s : Option Addr) (n cap : Nat) (zs : List Cl) (hn : n ≤ 1048576) (w : World) (hc : Cls w s n zs) : Calls Try.prog 35 #[.slice s n cap] w fun e w' => e = .returned (.bool (aprB zs)) ∧ Below w.heap.size w w' := by
  have hcon := c_implSystemTimes s n cap zs hn w hc
  cases hs : sysB zs
  · rw [hs] at hcon
    have hA := Lib.hid (show aprB zs = false by simp [aprB, hs])
    go_enter Try.func35, Try.ntmps35
    go_wp2_with (go_at_call 20; refine hcon.mono ?_; rintro e w2 ⟨v2, rfl, hO2, hB2⟩)
    go_ret
    exact ⟨rb hA.out.symm, hB2⟩
  · rw [hs, timR_t hs] at hcon
    obtain ⟨_, _, _, _, P1, P2⟩ := sysB_facts hs
    obtain ⟨P, hP⟩ : ∃ P : Nat, perI zs = (P : Int) := ⟨(perI zs).toNat, by omega⟩
    have hlen : (timL zs).length = P := by rw [timL_length, hP]; exact Int.toNat_natCast P
    have hP1 : 0 < P := by omega
    have hP2 : P ≤ 1000 := by omega
    have hiff : apaB zs = true ↔ ∀ j, j < P → (timL zs)[j]?.getD 0 ≤ 1 := by
      rw [apa_times hs]
      constructor
      · intro h j hj; rw [timL_get hP j hj]; exact h j (by omega)
      · intro h x hx; rw [← timL_get hP x (by omega)]; exact h x (by omega)
    have hA : aprB zs = apaB zs := by simp [aprB, hs]
    have HA := Lib.hid hA
    have HF := Lib.hid hiff
    have HLn := Lib.hid hlen
    clear hA hiff hlen P1 P2 hP
    go_enter Try.func35, Try.ntmps35
    go_wp2_with fail
    refine hcon.mono ?_
    rintro e w2 ⟨v2, rfl, hO2, hB2⟩
    obtain ⟨s2, cap2, rfl, hI2, hs2⟩ := hO2.spread
    rw [HLn.out] at hI2
    rw [HLn.out]
    clear hcon hO2
    go_wp2_with fail
    refine (c_slicesMax _ _ _ (timL zs) hP1 (by omega) _ hI2).mono ?_
    rintro e w' ⟨M, rfl, hM, rfl⟩
    have HM := Lib.hid hM
    clear hM
    go_wp2_with fail
    go_ret
    refine ⟨rb ?_, hB2⟩
    rw [HA.out, Bool.eq_iff_iff, HF.out, decide_eq_true_iff]
    exact HM.out
theorem apa_no {zs : List Cl} {i j : Nat} (hi : i < zs.length) (hj : j < i) (h : pairB zs i j = true) : apaB zs = false := by
  cases ha : apaB zs
  · rfl
  · have := of_decide_eq_true (show decide _ = true from ha) i hi j hj
    rw [h] at this; cases this
set_option maxHeartbeats 2000000 in
theorem c_l2Apart (s : Option Addr) (n cap : Nat) (zs : List Cl) (hn : n ≤ 1048576) (ha : allB zs = true) (w : World) (hc : Cls w s n zs) : Calls Try.prog 64 #[.slice s n cap] w fun e w' => e = .returned (.bool (apaB zs)) ∧ Below w.heap.size w w' := by
  have hlen := hc.len
  have HL := Lib.hid hlen
  have HA := Lib.hid ha
  clear hlen ha
  go_enter Try.func64, Try.ntmps64
  go_wp2_with fail
  go_loopw [3] (fun i wr => ∃ (k : Nat), k ≤ n ∧ i = .int .i64 k ∧ (∀ i, i < k → ∀ j, j < i → Hid (pairB zs i j = false)) ∧ Below w.heap.size w wr) (fun i _ => n - (intOf i).toNat)
  case atStart => exact ⟨0, Nat.zero_le _, rfl, fun i hi => by omega, Below.refl _ _⟩
  case round =>
    obtain ⟨i, hi, rfl, hv, hB⟩ := hrel
    have HV := Lib.hid hv
    clear hv
    obtain ⟨wo, hwo⟩ : ∃ wo : World, wo = wr := ⟨_, rfl⟩
    subst hwo
    by_cases hlt : i < n
    · have hbi := allB_at HA.out i (by rw [HL.out]; exact hlt)
      have HBI := Lib.hid hbi
      clear hbi
      go_wp2_with fail
      go_loopw [4] (fun q wr => ∃ (j : Nat), j ≤ i ∧ q = .int .i64 j ∧ (∀ j', j' < j → Hid (pairB zs i j' = false)) ∧ Below w.heap.size w wr) (fun q _ => i - (intOf q).toNat)
      case atStart => exact ⟨0, Nat.zero_le _, rfl, fun j hj => by omega, hB⟩
      case round =>
        obtain ⟨j, hj, rfl, hv2, hB2⟩ := hrel
        have HV2 := Lib.hid hv2
        clear hv2
        by_cases hlj : j < i
        · have hbj := allB_at HA.out j (by rw [HL.out]; omega)
          have HBJ := Lib.hid hbj
          clear hbj
          rcases (hc.keep hB2).lies with h0 | ⟨b, off, rfl, hb', hcells⟩
          · omega
          have hjn : j < n := by omega
          have hjz : (j : Int) < (n : Int) := by omega
          obtain ⟨x0, x1⟩ := hcells i hlt
          obtain ⟨y0, y1⟩ := hcells j hjn
          clear hcells
          cases hp : pairB zs i j
          · have hmt : metB (mAt zs i) (rAt zs j) (mAt zs j) (rAt zs i) = false := hp
            have hnx := Lib.hid (show ∀ j', j' < j + 1 → Hid (pairB zs i j' = false) from fun j' h => by
              by_cases e : j' < j
              · exact HV2.out j' e
              · have : j' = j := by omega
                subst this; exact hp)
            clear hp
            have hne1 : wr.heap.size ≠ b := by omega
            go_wp2_with fail
            go_region_held3 (fun w' => w'.cell? ⟨b, off + i * 2, none⟩ = some (.int .i64 (rAt zs i)) ∧ w'.cell? ⟨b, off + i * 2 + 1, none⟩ = some (.int .i64 (mAt zs i)) ∧ w'.cell? ⟨b, off + j * 2, none⟩ = some (.int .i64 (rAt zs j)) ∧ w'.cell? ⟨b, off + j * 2 + 1, none⟩ = some (.int .i64 (mAt zs j))) (go_keep) (first | (go_at_call 83; refine (c_l1Meet _ _ _ _ HBI.out HBJ.out _).mono ?_; rintro e w5 ⟨rfl, hb5⟩; have g0 := keepc hb5 (a := ⟨b, off + i * 2, none⟩) (v := .int .i64 (rAt zs i)) (by go_keep); have g1 := keepc hb5 (a := ⟨b, off + i * 2 + 1, none⟩) (v := .int .i64 (mAt zs i)) (by go_keep); have g2 := keepc hb5 (a := ⟨b, off + j * 2, none⟩) (v := .int .i64 (rAt zs j)) (by go_keep); have g3 := keepc hb5 (a := ⟨b, off + j * 2 + 1, none⟩) (v := .int .i64 (mAt zs j)) (by go_keep); have hne3 : w5.heap.size ≠ b := World.new_ne w5 ⟨b, off + i * 2, none⟩ g0; (try (have nb := newbox2 hb5; obtain ⟨n0, n1, n2, n3, n4⟩ := nb))))
            all_goals
              go_wp2_with fail
              go_roundw
              case rel => exact ⟨j + 1, by omega, by go_num, hnx.out, by first | exact ba (bt2 hB2.drew hb5) _ | exact ((bt2 (ba hB2 _).drew hb5).setCell (by show w.heap.size ≤ wr.heap.size; exact hB2.size) _).setCell (by show w.heap.size ≤ wr.heap.size; exact hB2.size) _⟩
              case measure => simp [intOf]; omega
          · have hmt : metB (mAt zs i) (rAt zs j) (mAt zs j) (rAt zs i) = true := hp
            have hno := Lib.hid (apa_no (by rw [HL.out]; exact hlt) hlj hp)
            clear hp
            have hne1 : wr.heap.size ≠ b := by omega
            go_wp2_with fail
            go_region_held3 (fun w' => w'.cell? ⟨b, off + i * 2, none⟩ = some (.int .i64 (rAt zs i)) ∧ w'.cell? ⟨b, off + i * 2 + 1, none⟩ = some (.int .i64 (mAt zs i)) ∧ w'.cell? ⟨b, off + j * 2, none⟩ = some (.int .i64 (rAt zs j)) ∧ w'.cell? ⟨b, off + j * 2 + 1, none⟩ = some (.int .i64 (mAt zs j))) (go_keep) (first | (go_at_call 83; refine (c_l1Meet _ _ _ _ HBI.out HBJ.out _).mono ?_; rintro e w5 ⟨rfl, hb5⟩; have g0 := keepc hb5 (a := ⟨b, off + i * 2, none⟩) (v := .int .i64 (rAt zs i)) (by go_keep); have g1 := keepc hb5 (a := ⟨b, off + i * 2 + 1, none⟩) (v := .int .i64 (mAt zs i)) (by go_keep); have g2 := keepc hb5 (a := ⟨b, off + j * 2, none⟩) (v := .int .i64 (rAt zs j)) (by go_keep); have g3 := keepc hb5 (a := ⟨b, off + j * 2 + 1, none⟩) (v := .int .i64 (mAt zs j)) (by go_keep); have hne3 : w5.heap.size ≠ b := World.new_ne w5 ⟨b, off + i * 2, none⟩ g0; (try (have nb := newbox2 hb5; obtain ⟨n0, n1, n2, n3, n4⟩ := nb))))
            all_goals
              go_wp2_with fail
              go_ret
              exact ⟨rb hno.out.symm, by first | exact ba (bt2 hB2.drew hb5) _ | exact ((bt2 (ba hB2 _).drew hb5).setCell (by show w.heap.size ≤ wr.heap.size; exact hB2.size) _).setCell (by show w.heap.size ≤ wr.heap.size; exact hB2.size) _⟩
        · have hnx := Lib.hid (show ∀ i', i' < i + 1 → ∀ j', j' < i' → Hid (pairB zs i' j' = false) from fun i' h j' hj' => by
            by_cases e : i' < i
            · exact HV.out i' e j' hj'
            · have : i' = i := by omega
              subst this; exact HV2.out j' (by omega))
          go_wp2_with fail
          go_roundw
          case rel => exact ⟨i + 1, by omega, by go_num, hnx.out, hB2⟩
          case measure => simp [intOf]; omega
    · have hyes := Lib.hid (show apaB zs = true from decide_eq_true fun i' hi' j hj => (HV.out i' (by rw [HL.out] at hi'; omega) j hj).out)
      go_wp2_with fail
      go_ret
      exact ⟨rb hyes.out.symm, hB⟩
theorem c_specSystemApart (s : Option Addr) (n cap : Nat) (zs : List Cl) (hn : n ≤ 1048576) (w : World) (hc : Cls w s n zs) : Calls Try.prog 36 #[.slice s n cap] w fun e w' => e = .returned (.bool (aprB zs)) ∧ Below w.heap.size w w' := by
  cases hs : sysB zs
  · have hA := Lib.hid (show aprB zs = false by simp [aprB, hs])
    go_enter Try.func36, Try.ntmps36
    go_wp2_with (go_at_call 15; refine (c_specSystemIn _ _ _ zs hn _ hc).mono ?_; rintro e w2 ⟨rfl, hb⟩)
    go_ret
    exact ⟨rb hA.out.symm, hb⟩
  · obtain ⟨_, _, ha, _, _, _⟩ := sysB_facts hs
    have HA := Lib.hid ha
    have hA := Lib.hid (show aprB zs = apaB zs by simp [aprB, hs])
    clear ha
    go_enter Try.func36, Try.ntmps36
    go_wp2_with (first | (go_at_call 15; refine (c_specSystemIn _ _ _ zs hn _ hc).mono ?_; rintro e w2 ⟨rfl, hb⟩; have hc2 := hc.keep hb) | (go_at_call 64; refine (c_l2Apart _ _ _ zs hn HA.out _ hc2).mono ?_; rintro e w3 ⟨rfl, hb3⟩))
    go_ret
    exact ⟨rb hA.out.symm, bt2 hb hb3⟩
end Go.Proofs.Ytgdpebnnmklbjaa
