/- The walk of the promise law FnSpare. -/
import Derived.Test.YtfagjhccdbielaaW33
import Derived.Test.YtfagjhccdbielaaMathG
import Derived.Test.YtfagjhccdbielaaS29
namespace Go.Proofs.Ytfagjhccdbielaa
open Go.RowKit
theorem spl_first {zs : List Cl} (hs : sysB zs = true) {y : Int} {t : List Int} (h : splL zs (perI zs) = y :: t) : 0 < y ∨ (y = 0 ∧ 2 ≤ zs.length ∧ samB zs (zs.eraseIdx 0) = true) := by
  have hy : y ∈ splK zs (perI zs) zs.length := by
    have : y ∈ splL zs (perI zs) := by rw [h]; simp
    exact this
  obtain ⟨i, h1, h2, h3⟩ := spl_mem _ y hy
  rcases Nat.eq_zero_or_pos i with rfl | hi
  · refine .inr ⟨by simpa using h2, ?_, (spare_sam hs h1 h3).2⟩
    have := spare_left (Div.sys hs) h1 h3
    rw [List.length_eraseIdx_of_lt h1] at this
    omega
  · exact .inl (by omega)
theorem Cls.tail {w : World} {b off n : Nat} {zs : List Cl} (h : Cls w (some ⟨b, off, none⟩) n zs) (hn : 2 ≤ n) : Cls w (some ⟨b, off + 2, none⟩) (n - 1) (zs.eraseIdx 0) := by
  have hlen := h.len
  have e : ∀ k, (zs.eraseIdx 0).getD k (0, 0) = zs.getD (k + 1) (0, 0) := by
    intro k
    cases zs with
    | nil => simp at hlen; omega
    | cons c t => simp [List.eraseIdx]
  refine ⟨by rw [List.length_eraseIdx_of_lt (by omega), hlen], .inr ?_⟩
  rcases h.lies with h0 | ⟨b1, o1, hh, hb1, hcells1⟩
  · omega
  · cases hh
    refine ⟨b, off + 2, rfl, hb1, fun k hk => ?_⟩
    have := hcells1 (k + 1) (by omega)
    unfold rAt mAt at *
    rw [e]
    rw [show off + (k + 1) * 2 = off + 2 + k * 2 by omega] at this
    exact this
theorem ints_one {w : World} {s : Option Addr} {n : Nat} {zs : List Int} (h : Ints w s n zs) (i : Nat) (hi : i < n) : ∃ b off, s = some ⟨b, off, none⟩ ∧ b < w.heap.size ∧ w.cell? ⟨b, off + i, none⟩ = some (.int .i64 (zs[i]?.getD 0)) := by
  rcases h.lies with h0 | ⟨b, off, rfl, hb, hc⟩
  · omega
  · exact ⟨b, off, rfl, hb, hc i hi⟩
set_option maxRecDepth 20000 in
set_option maxHeartbeats 4000000 in
theorem w_FnSpare (s : Option Addr) (len cap : Nat) (w : World) (h : Code0 w s len cap) : Calls Try.prog 6 #[.slice s len cap] w fun e w' => e = .returned (.bool true) ∧ Below w.heap.size w w' := by
  have hlc := h.lc
  have hcm := h.cm
  unfold maxLen at hcm
  by_cases hlen : len ≤ 1048576
  · go_enter Try.func6, Try.ntmps6
    go_wp2_with fail
    refine (c_DrawHoleSpare s len cap _ h).mono ?_
    rintro e w1 ⟨v, zs, rfl, hO, hl, hb1⟩
    obtain ⟨so, co, rfl, hC, hc1, hc2⟩ := hO.all
    obtain ⟨n, hn⟩ : ∃ n, zs.length = n := ⟨_, rfl⟩
    rw [hn] at hC hc1 hl ⊢
    clear hO
    have hcon := c_implHoleSpare so n co zs (by omega) _ hC
    have hcos := fun w1 (h1 : Cls w1 so n zs) => c_specHoleSpare so n co zs (by omega) hc1 hc2 w1 h1
    have hLb := hspR_le zs
    cases hs : sysB zs
    · rw [hs, hspR_f hs] at hcon hcos
      clear hLb
      go_wp2_with fail
      refine hcon.mono ?_
      rintro e w2 ⟨v2, rfl, hO2, hb2⟩
      obtain ⟨s2, k2, rfl, hI2, _⟩ := hO2.spread
      go_wp2_with fail
      refine (hcos _ (hC.keep hb2)).mono ?_
      rintro e w3 ⟨v3, rfl, hO3, hb3⟩
      obtain ⟨s3, k3, rfl, hI3, _⟩ := hO3.spread
      have hI23 := hI2.keep hb3
      have hsame := fun w1 (h1 : Below w3.heap.size w3 w1) => c_sameInts s2 s3 0 k2 k3 [] (by omega) w1 (hI23.keep h1) (hI3.keep h1)
      have hB3 := bt2 (bt2 hb1 hb2) hb3
      clear hcon hcos hO2 hO3 hI2 hI3 hI23 hC
      go_wp2_with (first | (go_at_call 17; refine (hsame _ (Below.refl _ _)).mono ?_; rintro e w4 ⟨rfl, hb4⟩; have hB4 := bt2 hB3 hb4) | (go_at_call 17; refine (hsame _ hb4).mono ?_; rintro e w5 ⟨rfl, hb5⟩; have hB5 := bt2 hB4 hb5) | fail)
      go_ret
      exact ⟨rfl, hB5⟩
    · rw [hs, hspR_t hs] at hcon hcos
      rw [hspR_t hs] at hLb
      have HF := Lib.hid (fun y t (h : splL zs (perI zs) = y :: t) => spl_first hs h)
      obtain ⟨L, hL⟩ : ∃ L, (splL zs (perI zs)).length = L := ⟨_, rfl⟩
      rw [hL] at hLb
      obtain ⟨Q, hQ⟩ : ∃ Q, splL zs (perI zs) = Q := ⟨_, rfl⟩
      rw [hQ] at hcon hcos hL HF
      clear hQ
      go_wp2_with fail
      refine hcon.mono ?_
      rintro e w2 ⟨v2, rfl, hO2, hb2⟩
      obtain ⟨s2, k2, hv2, hI2, _⟩ := hO2.spread
      rw [hL] at hv2 hI2
      subst hv2
      go_wp2_with fail
      refine (hcos _ (hC.keep hb2)).mono ?_
      rintro e w3 ⟨v3, rfl, hO3, hb3⟩
      obtain ⟨s3, k3, hv3, hI3, _⟩ := hO3.spread
      rw [hL] at hv3 hI3
      subst hv3
      have hI23 := hI2.keep hb3
      have hC3 := (hC.keep hb2).keep hb3
      have hsame := c_sameInts s2 s3 L k2 k3 Q (by omega) w3 hI23 hI3
      have hB3 := bt2 (bt2 hb1 hb2) hb3
      clear hcon hcos hO2 hO3 hI2 hI3 hC hb1 hb2 hb3
      go_wp2_with fail
      refine hsame.mono ?_
      rintro e w4 ⟨rfl, hb4⟩
      have hI24 := hI23.keep hb4
      have hC4 := hC3.keep hb4
      have hB4 := bt2 hB3 hb4
      clear hsame hb4 hB3 hI23 hC3
      cases Q with
      | nil =>
        obtain rfl : L = 0 := hL.symm
        clear HF
        go_wp2_with fail
        go_ret
        exact ⟨rfl, hB4⟩
      | cons y t =>
        have hL0 : 0 < L := by rw [← hL]; simp
        have hL1 : ((L : Int) == 0) = false := by simp; omega
        obtain ⟨pb, poff, rfl, hpb, hpx⟩ := ints_one hI24 0 hL0
        rw [show (y :: t)[0]?.getD 0 = y by simp, Nat.add_zero] at hpx
        have hz0 : (0 : Int) < (L : Int) := by omega
        rcases HF.out y t rfl with hy | ⟨rfl, hn2, hsam⟩
        · clear hL HF hC4 hI24
          go_wp2_with fail
          go_ret
          exact ⟨rfl, hB4⟩
        · rcases hC4.lies with h0 | ⟨b1, o1, rfl, hb1, _⟩
          · omega
          have hCt := hC4.tail (by omega)
          have hcs := fun w1 (h1 : Below w4.heap.size w4 w1) ct => c_implSystemSame (some ⟨b1, o1, none⟩) (some ⟨b1, o1 + 2, none⟩) n (n - 1) co ct zs (zs.eraseIdx 0) (by omega) (by omega) w1 (hC4.keep h1) (hCt.keep h1)
          rw [hsam] at hcs
          have hco : 1 < co := by omega
          have hnz : (1 : Int) ≤ (n : Int) := by omega
          have hcz : (n : Int) ≤ (co : Int) := by omega
          clear hL HF hI24
          go_wp2_with fail
          refine (hcs w4 (Below.refl _ _) (co - 1)).mono ?_
          rintro e w5 ⟨rfl, hb5⟩
          go_wp2_with fail
          go_ret
          exact ⟨rfl, bt2 hB4 hb5⟩
  · go_enter Try.func6, Try.ntmps6
    go_wp2_with fail
    go_ret
    exact ⟨rfl, Below.refl _ _⟩
end Go.Proofs.Ytfagjhccdbielaa
