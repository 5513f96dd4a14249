/- The walk of the promise law FnLine. -/
import Derived.Test.YtcbpbfencgnppaaDg
import Derived.Test.YtcbpbfencgnppaaY1
namespace Go.Proofs.Ytcbpbfencgnppaa
open Go.RowKit
set_option maxRecDepth 20000 in
set_option maxHeartbeats 4000000 in
theorem w_FnLine (s : Option Addr) (len cap : Nat) (w : World) (h : Code0 w s len cap) : Calls Try.prog 3 #[.slice s len cap] w fun e w' => e = .returned (.bool true) ∧ Below w.heap.size w w' := by
  have hlc := h.lc
  have hcm := h.cm
  unfold maxLen at hcm
  by_cases hlen : ¬ len ≤ 1048576
  · go_enter Try.func3, Try.ntmps3
    go_wp2_with fail
    go_ret
    exact ⟨rfl, Below.refl _ _⟩
  have hlen2 : len ≤ 1048576 := by omega
  clear hlen
  go_enter Try.func3, Try.ntmps3
  go_wp2_with fail
  refine (c_DrawSolveLine s len cap _ h).mono ?_
  rintro e w0 ⟨a, b, m, a1, a2, b1, b2, m1, m2, rfl, hT⟩
  have hI := c_implSolveLine a b m w0
  have hS := fun w1 => c_specSolveLine a b m w1
  cases ho : linO a b m
  · simp only [ho, selI_f] at hI hS
    go_wp2_with fail
    refine hI.mono ?_
    rintro e w1 ⟨rfl, hb1⟩
    have hT1 := bt2 hT hb1
    go_wp2_with fail
    refine (hS _).mono ?_
    rintro e w2 ⟨rfl, hb2⟩
    have k0 : w2.cell? ⟨w1.heap.size, 0, none⟩ = some _ := kc hb2 0
    have k1 : w2.cell? ⟨w1.heap.size, 1, none⟩ = some _ := kc hb2 1
    have hz := kz hb2
    have hT2 := bt2 (ba hT1 _) hb2
    go_wp2_with fail
    go_ret
    exact ⟨rfl, by repeat (first | exact Below.refl _ _ | assumption | refine Below.drew ?_ | refine bel_drewN ?_ _ | refine ba ?_ _ | refine bt2 ?_ (by assumption) | refine Below.setCell ?_ (by simp <;> omega) _)⟩
  · simp only [ho, selI_t] at hI hS
    obtain ⟨ha, hm, hb, x1, x2, n1, n2, d1, d2, d3⟩ := linO_facts ho
    obtain ⟨ma1, ma2⟩ := modB_iff.1 hm
    obtain ⟨na1, na2⟩ := numB_iff.1 ha
    obtain ⟨r1, r2⟩ := big_mul na1 na2 x1 (by omega)
    obtain ⟨r3, r4⟩ := big_mul na1 na2 (x := linN a m) (by omega) (by omega)
    have q1 : m % linN a m = 0 := Int.emod_eq_zero_of_dvd d1
    have q2 := tmod_zero d2
    have q3 := tmod_zero d3
    clear ha hm hb d1 d2 d3 ho
    generalize linX a b m = X at *
    generalize linN a m = N at *
    go_wp2_with fail
    refine hI.mono ?_
    rintro e w1 ⟨rfl, hb1⟩
    have hT1 := bt2 hT hb1
    go_wp2_with fail
    refine (hS _).mono ?_
    rintro e w2 ⟨rfl, hb2⟩
    have k0 : w2.cell? ⟨w1.heap.size, 0, none⟩ = some _ := kc hb2 0
    have k1 : w2.cell? ⟨w1.heap.size, 1, none⟩ = some _ := kc hb2 1
    have hz := kz hb2
    have hT2 := bt2 (ba hT1 _) hb2
    clear hI hS
    go_wp2_with fail
    go_ret
    exact ⟨rfl, by repeat (first | exact Below.refl _ _ | assumption | refine Below.drew ?_ | refine bel_drewN ?_ _ | refine ba ?_ _ | refine bt2 ?_ (by assumption) | refine Below.setCell ?_ (by simp <;> omega) _)⟩
end Go.Proofs.Ytcbpbfencgnppaa
