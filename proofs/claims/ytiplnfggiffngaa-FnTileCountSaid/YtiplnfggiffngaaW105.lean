/- The walk of the promise law FnFind, given the contracts of the program's TileFind and TileCount. -/
import Derived.Test.YtiplnfggiffngaaDv
import Derived.Test.YtiplnfggiffngaaMathTm
import Derived.Test.YtiplnfggiffngaaTf
import Derived.Test.YtiplnfggiffngaaMz0
namespace Go.Proofs.Ytiplnfggiffngaa
open Go.RowKit
def FindP : Prop := ∀ (n : Int) (s : Option Addr) (l cap : Nat) (z : List Int) (_ : l ≤ 1048576) (w : World) (_ : Ints w s l z), Calls Try.prog 7 #[.int .i64 n, .slice s l cap] w (RetLB w (fndL n z) (fndQ n z))
def CountP : Prop := ∀ (n : Int) (s : Option Addr) (l cap : Nat) (z : List Int) (_ : l ≤ 1048576) (w : World) (_ : Ints w s l z), Calls Try.prog 10 #[.int .i64 n, .slice s l cap] w fun e w' => e = .returned (.tuple #[.int .i64 (cntR n z), .bool (tilB n z)]) ∧ Below w.heap.size w w'
theorem ints_head {w : World} {s : Option Addr} {n : Nat} {zs : List Int} (h : Ints w s n zs) (hn : 0 < n) : ∃ b off, s = some ⟨b, off, none⟩ := by
  rcases h.lies with h0 | ⟨b, off, hs, _⟩
  · omega
  · exact ⟨b, off, hs⟩
theorem ints_cell0 {w : World} {b off n : Nat} {zs : List Int} (h : Ints w (some ⟨b, off, none⟩) n zs) (hn : 0 < n) : w.cell? ⟨b, off, none⟩ = some (.int .i64 (gZ zs 0)) := by
  rcases h.lies with h0 | ⟨b1, o1, hs, hb, hc⟩
  · omega
  · cases hs
    exact hc 0 hn
set_option maxRecDepth 20000 in
set_option maxHeartbeats 4000000 in
theorem v_FnFind (hF : FindP) (hK : CountP) (s : Option Addr) (len cap : Nat) (w : World) (h : Code0 w s len cap) : Calls Try.prog 3 #[.slice s len cap] w fun e w' => e = .returned (.bool true) ∧ Below w.heap.size w w' := by
  have hlc := h.lc
  have hcm := h.cm
  unfold maxLen at hcm
  by_cases hlen : ¬ len ≤ 1048576
  · go_enter Try.func3, Try.ntmps3
    go_wp2_with fail
    go_ret
    exact ⟨rfl, Below.refl _ _⟩
  have hlen2 : len ≤ 1048576 := by omega
  clear hlen
  go_enter Try.func3, Try.ntmps3
  go_wp2_with fail
  refine (c_DrawTileFind s len cap _ h).mono ?_
  rintro e w0 ⟨n, v, z, n1, n2, hl, rfl, hO, hT0⟩
  obtain ⟨so, co, rfl, hC, _⟩ := hO.spread
  clear hO h
  go_wp2_with fail
  refine (hF n so z.length co z (by omega) _ hC).mono ?_
  rintro e w1 ⟨v1, rfl, hO1, hB1⟩
  go_wp2_with fail
  refine (c_specTileFind n so z.length co z (by omega) _ (hC.keep hB1)).mono ?_
  rintro e w2 ⟨v2, rfl, hO2, hB2⟩
  have hB12 := bt2 hB1 hB2
  have hT2 := hT0.trans (hB12.mono hT0.size)
  have hO1 := hO1.keep hB2
  have hC := hC.keep hB12
  obtain ⟨s1, c1, rfl, hI1, _⟩ := hO1.spread
  obtain ⟨s2, c2, rfl, hI2, _⟩ := hO2.spread
  have hRl : (fndL n z).length ≤ 1048576 := by have := fndL_len n z; omega
  have HRl := Lib.hid hRl
  clear hRl hO1 hO2
  cases ht : fndQ n z
  · go_wp2_with fail
    refine (c_sameInts s1 s2 (fndL n z).length c1 c2 (fndL n z) HRl.out _ hI1 hI2).mono ?_
    rintro e w3 ⟨rfl, hB3⟩
    have hT3 := hT2.trans (hB3.mono hT2.size)
    go_wp2_with fail
    try
      refine (c_sameInts s1 s2 (fndL n z).length c1 c2 (fndL n z) HRl.out _ (hI1.keep hB3) (hI2.keep hB3)).mono ?_
      rintro e w4 ⟨rfl, hB4⟩
      have hT3 := hT3.trans (hB4.mono hT3.size)
      go_wp2_with fail
    go_ret
    exact ⟨rfl, hT3⟩
  · obtain ⟨f1, f2, f3, f4, f5⟩ := fnd_facts ht
    have hcs := c_sameInts s1 s2 (fndL n z).length c1 c2 (fndL n z) HRl.out _ hI1 hI2
    have hck := fun (w3 : World) hI => hK n so z.length co z (by omega) w3 hI
    rw [f5] at hck
    have hcb := fun (w3 : World) hI hJ => c_implTileBoth n so s1 z.length co (fndL n z).length c1 z (fndL n z) (by omega) HRl.out w3 hI hJ
    rw [f1] at hcb
    have hp : decide (0 < cntR n z) = true := decide_eq_true f4
    obtain ⟨b1, o1, rfl⟩ := ints_head hI1 f3
    clear ht f1 f4 f5
    generalize fndL n z = y at *
    generalize cntR n z = kk at *
    go_wp2_with fail
    refine hcs.mono ?_
    rintro e w3 ⟨rfl, hB3⟩
    go_wp2_with fail
    refine (hck _ (hC.keep hB3)).mono ?_
    rintro e w4 ⟨rfl, hB4⟩
    have hB34 := bt2 hB3 hB4
    have hI4 := hI1.keep hB34
    have hc0 := ints_cell0 hI4 f3
    rw [f2] at hc0
    have hf3 : decide (0 < y.length) = true := decide_eq_true f3
    have hf3i : (0 : Int) < (y.length : Int) := by omega
    go_wp2_with fail
    refine (hcb _ (hC.keep hB34) hI4).mono ?_
    rintro e w5 ⟨rfl, hB5⟩
    have hT5 := hT2.trans ((bt2 hB34 hB5).mono hT2.size)
    go_wp2_with fail
    go_ret
    exact ⟨rfl, hT5⟩
end Go.Proofs.Ytiplnfggiffngaa
