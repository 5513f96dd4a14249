/- Chapter 7: TileIn, the program's and the model's. -/
import Derived.Test.YtiplnfggiffngaaMathTa
import Derived.Test.YtiplnfggiffngaaC1
import Derived.LoopTactic
import Derived.BigQuiet
namespace Go.Proofs.Ytiplnfggiffngaa
open Go.RowKit
theorem wrap_in {x : Int} (h : -9223372036854775808 ≤ x ∧ x ≤ 9223372036854775807) : IntKind.i64.wrap x = x := IntWalk.i64_in _ (by omega)
theorem til_model (n M : Int) (z : List Int) (hM : wrap64 (n - 1) = M) :
    (∀ k, k < z.length → ¬ (0 ≤ gZ z k ∧ gZ z k ≤ M) → false = tilB n z) ∧ (∀ k, k + 1 < z.length → gZ z (k + 1) ≤ gZ z k → false = tilB n z) ∧ (OkK M z z.length → (l6B n 1 24 && decide (0 < z.length)) = tilB n z) := by
  by_cases hn : 1 ≤ n ∧ n ≤ 24
  · rw [IntWalk.wrap64_in _ (by omega)] at hM
    subst hM
    refine ⟨fun k hk h => (Til.no_at k hk h).symm, fun k hk h => (Til.no_asc k hk h).symm, fun h => ?_⟩
    rw [l6B_t hn, Bool.true_and]
    by_cases hz : z = []
    · subst hz
      rw [Til.no_nil]; rfl
    · have hp : 0 < z.length := List.length_pos_iff.2 hz
      rw [tilB_t.2 (Til.of h hn.1 hn.2 hz)]
      exact decide_eq_true (by omega)
  · have hf := Til.no_n (z := z) (l6B_f hn)
    exact ⟨fun _ _ _ => hf.symm, fun _ _ _ => hf.symm, fun _ => by rw [l6B_f hn, hf]; rfl⟩
set_option maxRecDepth 20000 in
set_option maxHeartbeats 2000000 in
theorem c_specTileIn (n : Int) (s : Option Addr) (l cap : Nat) (z : List Int) (hl : l ≤ 1048576) (w : World) (hz : Ints w s l z) : Calls Try.prog 22 #[.int .i64 n, .slice s l cap] w fun e w' => e = .returned (.bool (tilB n z)) ∧ Below w.heap.size w w' := by
  obtain rfl := hz.len
  obtain ⟨M, hM⟩ : ∃ M, wrap64 (n - 1) = M := ⟨_, rfl⟩
  have HH := Lib.hid (til_model n M z hM)
  go_enter Try.func22, Try.ntmps22
  go_wp2_with fail
  go_loopw [5] (fun i wr => ∃ (k : Nat), k ≤ z.length ∧ i = .int .i64 k ∧ Hid (OkK M z k) ∧ Below w.heap.size w wr) (fun i _ => z.length - (intOf i).toNat)
  case atStart => exact ⟨0, by omega, rfl, Lib.hid (OkK.zero M z), Below.refl _ _⟩
  case round =>
    obtain ⟨k, hk, rfl, hok, hB⟩ := hrel
    by_cases hlt : k < z.length
    · rcases (hz.keep hB).lies with h0 | ⟨b, off, rfl, hbw, hcells⟩
      · omega
      have hx : wr.cell? ⟨b, off + k, none⟩ = some (.int .i64 (gZ z k)) := hcells k hlt
      have hk0 : (0 : Int) ≤ (k : Int) := by omega
      have hk1 : (k : Int) < (z.length : Int) := by omega
      have hl6 := c_l6In (gZ z k) 0 (wrap64 (n - 1))
      by_cases hr : 0 ≤ gZ z k ∧ gZ z k ≤ M
      · rw [show l6B (gZ z k) 0 (wrap64 (n - 1)) = true by rw [hM]; exact l6B_t hr] at hl6
        rcases Nat.eq_zero_or_pos k with h0 | h0
        · have HN := Lib.hid (hok.out.succ hr (.inl h0))
          have hd : ¬ 0 < k := by omega
          clear hcells hr h0 hM
          go_wp2_with fail
          go_quiet ((go_at_call 32; exact Calls.quiet_of_same ((hl6 _).mono fun e w' h => ⟨h.1, h.2.symm⟩)))
          go_wp2_with fail
          go_roundw
          case rel => exact ⟨k + 1, by omega, by go_num, HN, bel_drewN hB _⟩
          case measure => simp [intOf]; omega
        · obtain ⟨j, rfl⟩ : ∃ j, k = j + 1 := ⟨k - 1, by omega⟩
          have hy : wr.cell? ⟨b, off + j, none⟩ = some (.int .i64 (gZ z j)) := hcells j (by omega)
          have hj0 : (0 : Int) ≤ (j : Int) := by omega
          have hj1 : (j : Int) < (z.length : Int) := by omega
          by_cases ha : gZ z (j + 1) ≤ gZ z j
          · have HN := Lib.hid (HH.out.2.1 j hlt ha)
            have ha' : decide (gZ z (j + 1) ≤ gZ z j) = true := by simpa using ha
            clear hcells hr h0 ha hM HH hok
            go_wp2_with fail
            go_quiet ((go_at_call 32; exact Calls.quiet_of_same ((hl6 _).mono fun e w' h => ⟨h.1, h.2.symm⟩)))
            go_wp2_with fail
            go_ret
            exact ⟨by rw [← HN.out]; rfl, bel_drewN hB _⟩
          · have HN := Lib.hid (hok.out.succ hr (.inr (by simpa using ha)))
            have ha' : decide (gZ z (j + 1) ≤ gZ z j) = false := by simpa using ha
            clear hcells hr h0 ha hM
            go_wp2_with fail
            go_quiet ((go_at_call 32; exact Calls.quiet_of_same ((hl6 _).mono fun e w' h => ⟨h.1, h.2.symm⟩)))
            go_wp2_with fail
            go_roundw
            case rel => exact ⟨j + 1 + 1, by omega, by go_num, HN, bel_drewN hB _⟩
            case measure => simp [intOf]; omega
      · rw [show l6B (gZ z k) 0 (wrap64 (n - 1)) = false by rw [hM]; exact l6B_f hr] at hl6
        have HN := Lib.hid (HH.out.1 k hlt hr)
        clear hcells hr hM
        go_wp2_with fail
        go_quiet ((go_at_call 32; exact Calls.quiet_of_same ((hl6 _).mono fun e w' h => ⟨h.1, h.2.symm⟩)))
        go_wp2_with fail
        go_ret
        exact ⟨by rw [← HN.out]; rfl, bel_drewN hB _⟩
    · have hk' : k = z.length := by omega
      subst hk'
      have HN := Lib.hid (HH.out.2.2 hok.out)
      have hdk : decide ((z.length : Int) < (z.length : Int)) = false := by simp
      clear hM
      cases h6 : l6B n 1 24
      · have hl6 := c_l6In n 1 24
        rw [h6] at hl6 HN
        go_wp2_with (go_at_call 32; refine (hl6 _).mono ?_; rintro e w' ⟨rfl, rfl⟩)
        go_ret
        exact ⟨by rw [← HN.out]; rfl, hB⟩
      · have hl6 := c_l6In n 1 24
        rw [h6] at hl6 HN
        go_wp2_with (go_at_call 32; refine (hl6 _).mono ?_; rintro e w' ⟨rfl, rfl⟩)
        go_ret
        exact ⟨by rw [← HN.out]; rfl, hB⟩
set_option maxRecDepth 20000 in
set_option maxHeartbeats 1000000 in
theorem c_ascends (s : Option Addr) (l cap : Nat) (z : List Int) (hl : l ≤ 1048576) (w : World) (hz : Ints w s l z) : Calls Try.prog 34 #[.slice s l cap] w fun e w' => e = .returned (.bool (tasB z)) ∧ Below w.heap.size w w' := by
  obtain rfl := hz.len
  go_enter Try.func34, Try.ntmps34
  go_wp2_with fail
  go_loopw [3] (fun i wr => ∃ (k : Nat), i = .int .i64 ((k + 1 : Nat) : Int) ∧ k ≤ z.length ∧ Hid (∀ i, i + 1 < z.length → i < k → gZ z i < gZ z (i + 1)) ∧ Below w.heap.size w wr) (fun i _ => z.length + 1 - (intOf i).toNat)
  case atStart => exact ⟨0, rfl, by omega, Lib.hid (fun i _ h => by omega), Below.refl _ _⟩
  case round =>
    obtain ⟨j, rfl, hk, hok, hB⟩ := hrel
    by_cases hlt : j + 1 < z.length
    · rcases (hz.keep hB).lies with h0 | ⟨b, off, rfl, hbw, hcells⟩
      · omega
      have hx : wr.cell? ⟨b, off + (j + 1), none⟩ = some (.int .i64 (gZ z (j + 1))) := hcells (j + 1) hlt
      have hy : wr.cell? ⟨b, off + j, none⟩ = some (.int .i64 (gZ z j)) := hcells j (by omega)
      have hj0 : (0 : Int) ≤ (j : Int) := by omega
      have hj1 : (j : Int) < (z.length : Int) := by omega
      have hj2 : ((j + 1 : Nat) : Int) < (z.length : Int) := by omega
      have hw : IntKind.i64.wrap (((j + 1 : Nat) : Int) - 1) = (j : Int) := by rw [wrap_in (by omega)]; omega
      clear hcells
      by_cases ha : gZ z (j + 1) ≤ gZ z j
      · have HN := Lib.hid (show tasB z = false from decide_eq_false fun h => by have := (asc_iff z).1 h j hlt; omega)
        have ha' : decide (gZ z (j + 1) ≤ gZ z j) = true := by simpa using ha
        clear ha
        go_wp2_with fail
        go_quiet (fail)
        go_wp2_with fail
        go_ret
        exact ⟨by rw [HN.out]; rfl, bel_drewN hB _⟩
      · have HN : Hid (∀ i, i + 1 < z.length → i < j + 1 → gZ z i < gZ z (i + 1)) := Lib.hid (fun i hi hij => by
          by_cases e : i = j
          · subst e; omega
          · exact hok.out i hi (by omega))
        have ha' : decide (gZ z (j + 1) ≤ gZ z j) = false := by simpa using ha
        clear ha
        go_wp2_with fail
        go_quiet (fail)
        go_wp2_with fail
        go_roundw
        case rel => exact ⟨j + 1, by go_num, by omega, HN, bel_drewN hB _⟩
        case measure => simp [intOf]; omega
    · have HN := Lib.hid (show tasB z = true from decide_eq_true ((asc_iff z).2 fun i hi => hok.out i hi (by omega)))
      have hd : decide (((j + 1 : Nat) : Int) < (z.length : Int)) = false := by simp; omega
      go_wp2_with fail
      go_ret
      exact ⟨by rw [HN.out]; rfl, hB⟩
set_option maxRecDepth 20000 in
set_option maxHeartbeats 1000000 in
theorem c_within (s : Option Addr) (l cap : Nat) (z : List Int) (a b : Int) (h0 : 0 < l) (hl : l ≤ 1048576) (w : World) (hz : Ints w s l z) : Calls Try.prog 35 #[.slice s l cap, .int .i64 a, .int .i64 b] w fun e w' => e = .returned (.bool (decide (a ≤ gZ z 0) && decide (gZ z (z.length - 1) ≤ b))) ∧ Below w.heap.size w w' := by
  obtain rfl := hz.len
  rcases hz.lies with h | ⟨b0, off, rfl, hbw, hcells⟩
  · omega
  have hx : w.cell? ⟨b0, off, none⟩ = some (.int .i64 (gZ z 0)) := hcells 0 h0
  obtain ⟨j, hj⟩ : ∃ j, z.length = j + 1 := ⟨z.length - 1, by omega⟩
  have hy : w.cell? ⟨b0, off + j, none⟩ = some (.int .i64 (gZ z j)) := hcells j (by omega)
  have hw : IntKind.i64.wrap ((z.length : Int) - 1) = (j : Int) := by rw [wrap_in (by omega)]; omega
  have hj0 : (0 : Int) ≤ (j : Int) := by omega
  have hj1 : (j : Int) < (z.length : Int) := by omega
  have hz1 : (0 : Int) < (z.length : Int) := by omega
  have hz0 : ((z.length : Int) == 0) = false := beq_eq_false_iff_ne.2 (by omega)
  have e : z.length - 1 = j := by omega
  rw [e]
  clear hcells
  by_cases h1 : a ≤ gZ z 0
  · rw [decide_eq_true h1]
    have h1' : decide (a ≤ gZ z 0) = true := decide_eq_true h1
    by_cases h2 : gZ z j ≤ b
    · have h2' : decide (gZ z j ≤ b) = true := decide_eq_true h2
      rw [h2']
      clear h1 h2
      go_enter Try.func35, Try.ntmps35
      go_wp2_with fail
      go_ret
      exact ⟨rfl, Below.refl _ _⟩
    · have h2' : decide (gZ z j ≤ b) = false := decide_eq_false h2
      rw [h2']
      clear h1 h2
      go_enter Try.func35, Try.ntmps35
      go_wp2_with fail
      go_ret
      exact ⟨rfl, Below.refl _ _⟩
  · rw [decide_eq_false h1]
    have h1' : decide (a ≤ gZ z 0) = false := decide_eq_false h1
    clear h1
    go_enter Try.func35, Try.ntmps35
    go_wp2_with fail
    go_ret
    exact ⟨rfl, Below.refl _ _⟩
set_option maxRecDepth 20000 in
set_option maxHeartbeats 1000000 in
theorem c_implTileIn (n : Int) (s : Option Addr) (l cap : Nat) (z : List Int) (hl : l ≤ 1048576) (w : World) (hz : Ints w s l z) : Calls Try.prog 19 #[.int .i64 n, .slice s l cap] w fun e w' => e = .returned (.bool (tilB n z)) ∧ Below w.heap.size w w' := by
  obtain rfl := hz.len
  by_cases hn : 1 ≤ n ∧ n ≤ 24
  · obtain ⟨n1, n2⟩ := hn
    rcases Nat.eq_zero_or_pos z.length with h0 | h0
    · have HN := Lib.hid (show tilB n z = false by rw [List.eq_nil_of_length_eq_zero h0]; exact Til.no_nil n)
      have hd : ¬ 0 < z.length := by omega
      clear h0
      go_enter Try.func19, Try.ntmps19
      go_wp2_with fail
      go_ret
      exact ⟨by rw [HN.out]; rfl, Below.refl _ _⟩
    · have HE := Lib.hid (til_ends n z n1 n2 (by intro e; subst e; simp at h0))
      have hca := c_ascends s z.length cap z hl w hz
      have hcw := fun (w2 : World) (hB : Below w.heap.size w w2) => c_within s z.length cap z 0 (n - 1) h0 hl w2 (hz.keep hB)
      cases ha : tasB z
      · rw [ha] at hca
        have HN := Lib.hid (show tilB n z = false by rw [HE.out, ha]; rfl)
        clear hcw
        go_enter Try.func19, Try.ntmps19
        go_wp2_with (first | (go_at_call 34; refine hca.mono ?_; rintro e w2 ⟨rfl, hB⟩) | fail)
        go_ret
        exact ⟨by rw [HN.out]; rfl, hB⟩
      · rw [ha] at hca
        have HN := Lib.hid (show tilB n z = (decide (0 ≤ gZ z 0) && decide (gZ z (z.length - 1) ≤ n - 1)) by rw [HE.out, ha]; rfl)
        generalize (decide (0 ≤ gZ z 0) && decide (gZ z (z.length - 1) ≤ n - 1)) = r at *
        clear ha HE
        go_enter Try.func19, Try.ntmps19
        go_wp2_with (first | (go_at_call 34; refine hca.mono ?_; rintro e w2 ⟨rfl, hB⟩) | (go_at_call 35; refine (hcw w2 hB).mono ?_; rintro e w3 ⟨rfl, hB3⟩) | fail)
        go_ret
        exact ⟨by rw [HN.out]; rfl, bt2 hB hB3⟩
  · have HN := Lib.hid (show tilB n z = false from Til.no_n (l6B_f hn))
    by_cases h1 : 1 ≤ n
    · have h2 : decide (n ≤ 24) = false := decide_eq_false (by omega)
      clear hn
      go_enter Try.func19, Try.ntmps19
      go_wp2_with fail
      go_ret
      exact ⟨by rw [HN.out]; rfl, Below.refl _ _⟩
    · have h2 : decide (1 ≤ n) = false := decide_eq_false h1
      clear hn h1
      go_enter Try.func19, Try.ntmps19
      go_wp2_with fail
      go_ret
      exact ⟨by rw [HN.out]; rfl, Below.refl _ _⟩
end Go.Proofs.Ytiplnfggiffngaa
