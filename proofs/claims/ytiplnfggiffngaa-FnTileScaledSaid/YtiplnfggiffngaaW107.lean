/- The walk of the promise law FnTileScaled, given the contract of the program's TileFind. -/
import Derived.Test.YtiplnfggiffngaaW105
import Derived.Test.YtiplnfggiffngaaTd
import Derived.Test.YtiplnfggiffngaaTe
import Derived.Test.YtiplnfggiffngaaMz0
namespace Go.Proofs.Ytiplnfggiffngaa
open Go.RowKit
theorem tsc_small (n : Int) (z : List Int) (k : Int) : (tscR n z k).length ≤ 24 := by
  cases h : tscB n z k
  · simp [tscR, h]
  · have hT := tilB_t.1 (show tilB n z = true by simp only [tscB, Bool.and_eq_true] at h; exact h.1)
    have := setL_le n.toNat fun y => decide (y ∈ tscL n z k)
    have h2 := hT.1
    have h3 := hT.2.1
    simp only [tscR, h, cond_true, plc]
    omega
theorem scl_last {n k : Int} {z : List Int} (ht : tscB n z k = true) : ((!(gcdI k (z.length : Int) == 1)) || (!fndQ n z || fndQ n (tscR n z k))) = true := by
  cases h1 : gcdI k (z.length : Int) == 1
  · rfl
  · cases h2 : fndQ n z
    · rfl
    · have hc : Nat.Coprime k.toNat z.length := by
        have := eq_of_beq h1
        unfold gcdI at this
        rw [Int.toNat_natCast] at this
        exact Int.natCast_inj.1 this
      rw [fnd_scl ht hc h2]
      rfl
set_option maxRecDepth 20000 in
set_option maxHeartbeats 4000000 in
theorem v_FnTileScaled (hF : FindP) (s : Option Addr) (len cap : Nat) (w : World) (h : Code0 w s len cap) : Calls Try.prog 5 #[.slice s len cap] w fun e w' => e = .returned (.bool true) ∧ Below w.heap.size w w' := by
  have hlc := h.lc
  have hcm := h.cm
  unfold maxLen at hcm
  by_cases hlen : ¬ len ≤ 1048576
  · go_enter Try.func5, Try.ntmps5
    go_wp2_with fail
    go_ret
    exact ⟨rfl, Below.refl _ _⟩
  have hlen2 : len ≤ 1048576 := by omega
  clear hlen
  go_enter Try.func5, Try.ntmps5
  go_wp2_with fail
  refine (c_DrawTileScaled s len cap _ h).mono ?_
  rintro e w0 ⟨n, v, z, t, n1, n2, hl, t1, t2, rfl, hO, hT0⟩
  obtain ⟨so, co, rfl, hC, _⟩ := hO.spread
  clear hO h
  go_wp2_with fail
  refine (c_implTileScaled n t so z.length co z (by omega) _ hC).mono ?_
  rintro e w1 ⟨v1, rfl, hO1, hB1⟩
  go_wp2_with fail
  refine (c_specTileScaled n t so z.length co z (by omega) _ (hC.keep hB1)).mono ?_
  rintro e w2 ⟨v2, rfl, hO2, hB2⟩
  have hB12 := bt2 hB1 hB2
  have hT2 := hT0.trans (hB12.mono hT0.size)
  have hO1 := hO1.keep hB2
  have hC := hC.keep hB12
  obtain ⟨s1, c1, rfl, hI1, _⟩ := hO1.spread
  obtain ⟨s2, c2, rfl, hI2, _⟩ := hO2.spread
  have hRl : (tscR n z t).length ≤ 1048576 := by have := tsc_small n z t; omega
  have HRl := Lib.hid hRl
  clear hRl hO1 hO2 hB1 hB2 hB12 hT0
  cases ht : tscB n z t
  · go_wp2_with fail
    refine (c_sameInts s1 s2 (tscR n z t).length c1 c2 (tscR n z t) HRl.out _ hI1 hI2).mono ?_
    rintro e w3 ⟨rfl, hB3⟩
    have hT3 := hT2.trans (hB3.mono hT2.size)
    go_wp2_with fail
    try
      refine (c_sameInts s1 s2 (tscR n z t).length c1 c2 (tscR n z t) HRl.out _ (hI1.keep hB3) (hI2.keep hB3)).mono ?_
      rintro e w4 ⟨rfl, hB4⟩
      have hT3 := hT3.trans (hB4.mono hT3.size)
      go_wp2_with fail
    go_ret
    exact ⟨rfl, hT3⟩
  · have hcs := c_sameInts s1 s2 (tscR n z t).length c1 c2 (tscR n z t) HRl.out _ hI1 hI2
    have hfa := fun (w3 : World) hI => hF n so z.length co z (by omega) w3 hI
    have hfb := fun (w3 : World) hI => hF n s1 (tscR n z t).length c1 (tscR n z t) HRl.out w3 hI
    have HL := Lib.hid (tsc_len ht)
    have HS := Lib.hid (scl_last ht)
    clear ht
    generalize tscR n z t = y at *
    generalize fndL n z = fa at *
    generalize fndL n y = fb at *
    generalize fndQ n z = qa at *
    generalize fndQ n y = qb at *
    go_wp2_with fail
    refine hcs.mono ?_
    rintro e w3 ⟨rfl, hB3⟩
    have hT3 := hT2.trans (hB3.mono hT2.size)
    have hC3 := hC.keep hB3
    have hI3 := hI1.keep hB3
    clear hcs hT2 hC hI1 hI2 hB3
    go_wp2_with fail
    have hl0 : (0 : Int) ≤ (z.length : Int) := by omega
    have hl1 : (z.length : Int) ≤ 1000 := by omega
    go_loop [10, 11] (fun x y => ∃ p q : Int, 0 ≤ p ∧ p ≤ 1030 ∧ 0 ≤ q ∧ q ≤ 1030 ∧ Hid (gcdI p q = gcdI t (z.length : Int)) ∧ x = .int .i64 p ∧ y = .int .i64 q) (fun _ y => (intOf y).toNat)
    case atStart => exact ⟨t, z.length, t1, by omega, hl0, by omega, rfl, rfl, rfl⟩
    case round =>
      obtain ⟨p, q, p1, p2, q1, q2, hg, rfl, rfl⟩ := hrel
      by_cases hq : q = 0
      · have hq0 : (q != 0) = false := by simp [hq]
        have hgo : p = gcdI t (z.length : Int) := by have := hg.out; rw [hq, gcdI_zero p1] at this; exact this
        have HE : Hid (((!(p == 1)) || (!qa || qb)) = true) := Lib.hid (by rw [hgo]; exact HS.out)
        clear hgo hg hq HS
        go_wp2_with fail
        refine (hfa _ hC3).mono ?_
        rintro e w4 ⟨v4, rfl, hO4, hB4⟩
        go_wp2_with fail
        refine (hfb _ (hI3.keep hB4)).mono ?_
        rintro e w5 ⟨v5, rfl, hO5, hB5⟩
        have hT5 := hT3.trans ((bt2 hB4 hB5).mono hT3.size)
        have hle : ((y.length : Int) == (z.length : Int)) = true := by rw [HL.out]; simp
        go_wp2_with fail
        all_goals go_ret
        all_goals refine ⟨?_, hT5⟩
        all_goals have hE := HE.out
        all_goals first | rfl | (cases qa <;> cases qb <;> simp_all)
      · have hq0 : (q != 0) = true := by simpa using hq
        have hm := emod_bd p q (by omega)
        have hs : Hid (gcdI q (p % q) = gcdI t (z.length : Int)) := by show _ = _; rw [gcdI_step p1 (by omega)]; exact hg.out
        clear hg
        go_wp2_with fail
        go_round
        case rel => exact ⟨q, p % q, by omega, by omega, hm.1, by omega, hs, rfl, rfl⟩
        case measure => simp [intOf]; omega
end Go.Proofs.Ytiplnfggiffngaa
