/- The walk of the promise law FnSquares. -/
import Derived.Test.YtcbpbfencgnppaaDg
import Derived.Test.YtcbpbfencgnppaaY2
import Derived.Test.YtcbpbfencgnppaaSame5
import Derived.BigQuiet
namespace Go.Proofs.Ytcbpbfencgnppaa
open Go.RowKit
/-- is the number nought, or is the opposite one among the first k -/
def turB (zs : List Int) (m x : Int) (k : Nat) : Bool := (x == 0) || (zs.take k).any fun y => y == m - x
theorem turB_succ {zs : List Int} {m x : Int} {k : Nat} (h : k < zs.length) : turB zs m x (k + 1) = (turB zs m x k || (zs[k]?.getD 0 == m - x)) := by
  unfold turB
  rw [List.take_succ_eq_append_getElem h, List.any_append, List.getElem?_eq_getElem h]
  simp [Bool.or_assoc]
theorem turB_all {zs : List Int} {m x : Int} (h : x = 0 ∨ m - x ∈ zs) : turB zs m x zs.length = true := by
  unfold turB
  rw [List.take_length]
  rcases h with rfl | h
  · simp
  · have : (zs.any fun y => y == m - x) = true := List.any_eq_true.2 ⟨_, h, by simp⟩
    rw [this, Bool.or_true]
set_option maxRecDepth 20000 in
set_option maxHeartbeats 4000000 in
theorem w_FnSquares (s : Option Addr) (len cap : Nat) (w : World) (h : Code0 w s len cap) : Calls Try.prog 5 #[.slice s len cap] w fun e w' => e = .returned (.bool true) ∧ Below w.heap.size w w' := by
  have hlc := h.lc
  have hcm := h.cm
  unfold maxLen at hcm
  by_cases hlen : ¬ len ≤ 1048576
  · go_enter Try.func5, Try.ntmps5
    go_wp2_with fail
    go_ret
    exact ⟨rfl, Below.refl _ _⟩
  have hlen2 : len ≤ 1048576 := by omega
  clear hlen
  go_enter Try.func5, Try.ntmps5
  go_wp2_with fail
  refine (c_DrawSolveSquares s len cap _ h).mono ?_
  rintro e w0 ⟨a, m, a1, a2, m1, m2, rfl, hT⟩
  have HR := Lib.hid (show (sqR a m).length ≤ 1048576 by have := sqR_le a m; omega)
  go_wp2_with fail
  refine (c_implSolveSquares _ _ _).mono ?_
  rintro e w1 ⟨u1, rfl, hO1, hb1⟩
  obtain ⟨s1, c1, rfl, hI1, _⟩ := hO1.spread
  have hT1 := bt2 hT hb1
  go_wp2_with fail
  refine (c_specSolveSquares _ _ _).mono ?_
  rintro e w2 ⟨u2, rfl, hO2, hb2⟩
  obtain ⟨s2, c2, rfl, hI2, _⟩ := hO2.spread
  have hT2 := bt2 hT1 hb2
  have hI1 := hI1.keep hb2
  clear hO1 hO2
  cases ho : sqB a m
  · go_wp2_with fail
    refine (c_sameInts _ _ _ _ _ (sqR a m) HR.out _ hI1 hI2).mono ?_
    rintro e w3 ⟨rfl, hb3⟩
    have hI1 := hI1.keep hb3
    have hI2 := hI2.keep hb3
    have hT3 := bt2 hT2 hb3
    go_wp2_with fail
    refine (c_sameInts _ _ _ _ _ (sqR a m) HR.out _ hI1 hI2).mono ?_
    rintro e w4 ⟨rfl, hb4⟩
    have hT4 := bt2 hT3 hb4
    go_wp2_with fail
    go_ret
    exact ⟨rfl, hT4⟩
  · go_wp2_with fail
    refine (c_sameInts _ _ _ _ _ (sqR a m) HR.out _ hI1 hI2).mono ?_
    rintro e w3 ⟨rfl, hb3⟩
    have hI1 := hI1.keep hb3
    have hT3 := bt2 hT2 hb3
    have hsq : numB a = true ∧ modB m = true := by simpa [sqB] using ho
    obtain ⟨ma1, ma2⟩ := modB_iff.1 hsq.2
    obtain ⟨na1, na2⟩ := numB_iff.1 hsq.1
    have hE : sqR a m = sqL a m m.toNat := by simp [sqR, ho]
    have hall : ∀ x ∈ sqR a m, m ∣ x * x - a ∧ 0 ≤ x ∧ x < m ∧ (x = 0 ∨ m - x ∈ sqR a m) := by
      intro x hx
      rw [hE] at hx ⊢
      exact sq_turn ma1 hx
    clear hE hsq hI2 ho hb2 hb3 hb1 hT hT1 hT2 h
    generalize sqR a m = zs at *
    have HA := Lib.hid hall
    clear hall
    have hL : zs.length ≤ 1048576 := HR.out
    have HL := Lib.hid (rfl : zs.length = zs.length)
    generalize hLe : zs.length = L at hL hI1 ⊢
    have HLe := Lib.hid hLe
    clear hLe HL
    go_wp2_with fail
    go_loopw [9] (fun i wr => ∃ j : Nat, j ≤ L ∧ i = .int .i64 j ∧ Below w3.heap.size w3 wr) (fun i _ => L - (intOf i).toNat)
    case atStart => exact ⟨0, Nat.zero_le _, rfl, Below.refl _ _⟩
    case round =>
      obtain ⟨j, hj, rfl, hB⟩ := hrel
      by_cases hlt : j < L
      · rcases (hI1.keep hB).lies with h0 | ⟨b1, o1, rfl, hbb, hcells⟩
        · omega
        have hx := hcells j hlt
        clear hcells
        obtain ⟨d1, x1, x2, d2⟩ := HA.out (zs[j]?.getD 0) (by rw [List.getElem?_eq_getElem (by rw [HLe.out]; exact hlt)]; exact List.getElem_mem _)
        have HD := Lib.hid (turB_all d2)
        have hz := tmod_zero d1
        clear d1 d2
        generalize hX : zs[j]?.getD 0 = x at *
        have HX := Lib.hid hX
        clear hX
        obtain ⟨r1, r2⟩ := big_mul (a := x) (by omega) (by omega) x1 (by omega)
        have hj0 : (0 : Int) ≤ (j : Int) := by omega
        have hjl : (j : Int) < (L : Int) := by omega
        go_wp2_with fail
        go_quiet (fail)
        go_wp2_with fail
        have hB2 : Below w3.heap.size w3 (wr.drewN nq) := bel_drewN hB nq
        have hx' : (wr.drewN nq).cell? ⟨b1, o1 + j, none⟩ = some (.int .i64 x) := hx
        clear hx hB hz hbb
        generalize wr.drewN nq = wq at *
        go_loopw [10, 11] (fun q i wr => ∃ k : Nat, k ≤ L ∧ q = .bool (turB zs m x k) ∧ i = .int .i64 k ∧ Below wq.heap.size wq wr) (fun _ i _ => L - (intOf i).toNat)
        case atStart => exact ⟨0, Nat.zero_le _, by simp [turB], rfl, Below.refl _ _⟩
        case round =>
          obtain ⟨k, hk, rfl, rfl, hBq⟩ := hrel
          have hxr := keepc hBq hx'
          have hB3 := bt2 hB2 hBq
          by_cases hlk : k < L
          · rcases (hI1.keep hB3).lies with h0 | ⟨b2, o2, hs2, hbb, hcells⟩
            · omega
            obtain ⟨rfl, rfl⟩ : b1 = b2 ∧ o1 = o2 := by cases hs2; exact ⟨rfl, rfl⟩
            have hy := hcells k hlk
            clear hcells hx'
            have hst := turB_succ (zs := zs) (m := m) (x := x) (k := k) (by rw [HLe.out]; exact hlk)
            generalize hY : zs[k]?.getD 0 = y at *
            clear hY
            have hk0 : (0 : Int) ≤ (k : Int) := by omega
            have hkl : (k : Int) < (L : Int) := by omega
            cases ht : turB zs m x k
            · rw [ht, Bool.false_or] at hst
              have HST := Lib.hid hst
              clear hst ht
              go_wp2_with fail
              go_quiet (fail)
              go_wp2_with fail
              go_roundw
              case rel => exact ⟨k + 1, by omega, by rw [HST.out], by go_num, bel_drewN hBq _⟩
              case measure => simp [intOf]; omega
            · rw [ht, Bool.true_or] at hst
              have HST := Lib.hid hst
              clear hst ht
              go_wp2_with fail
              go_quiet (fail)
              go_wp2_with fail
              go_roundw
              case rel => exact ⟨k + 1, by omega, by rw [HST.out], by go_num, bel_drewN hBq _⟩
              case measure => simp [intOf]; omega
          · have hk' : k = zs.length := by have := HLe.out; omega
            rw [hk', HD.out]
            go_wp2_with fail
            go_roundw
            case rel => exact ⟨j + 1, by omega, by go_num, hB3⟩
            case measure => simp [intOf]; omega
      · go_wp2_with fail
        go_ret
        exact ⟨rfl, bt2 hT3 hB⟩
end Go.Proofs.Ytcbpbfencgnppaa
