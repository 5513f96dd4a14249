/- The walk of the promise law on classes below: it returns true at every code. -/
import Derived.Test.YtenghhoofpjcaaaC4
import Derived.Test.YtenghhoofpjcaaaE3
namespace Go.Proofs.Ytenghhoofpjcaaa
open Go.RowKit
theorem bel_moved {r m s n : Int} (h : belB r m s n = true) : movB r m 5 = true ∧ movB s n 5 = true ∧ (m % n == 0) = true ∧ belB ((r + 5) % m) m ((s + 5) % n) n = true ∧ 1 ≤ m ∧ m ≤ 1000 ∧ 1 ≤ n ∧ n ≤ 1000 := by
  have h' : inB r m = true ∧ inB s n = true ∧ (m % n == 0) = true ∧ (r % n == s) = true := by simpa [belB, and_assoc] using h
  obtain ⟨h1, h2, h3, h4⟩ := h'
  obtain ⟨m1, m2, r1, r2⟩ := inB_iff.1 h1
  obtain ⟨n1, n2, s1, s2⟩ := inB_iff.1 h2
  have h3' : m % n = 0 := by simpa using h3
  have h4' : r % n = s := by simpa using h4
  refine ⟨movB_tt h1 (by decide), movB_tt h2 (by decide), h3, ?_, m1, m2, n1, n2⟩
  have i1 := of_in (x := r + 5) (modB_t ⟨m1, m2⟩)
  have i2 := of_in (x := s + 5) (modB_t ⟨n1, n2⟩)
  have e : (r + 5) % m % n = (s + 5) % n := by
    rw [Int.emod_emod_of_dvd _ (Int.dvd_of_emod_eq_zero h3'), ← h4', Int.emod_add_emod]
  simp [belB, i1, i2, h3', e]
theorem w_FnBelow (sl : Option Addr) (len cap : Nat) (w : World) (h : Code0 w sl len cap) : Calls Try.prog 6 #[.slice sl len cap] w fun e w' => e = .returned (.bool true) ∧ Below w.heap.size w w' := by
  have hlc := h.lc
  have hcm := h.cm
  unfold maxLen at hcm
  by_cases hlen : len ≤ 1048576
  · go_enter Try.func6, Try.ntmps6
    go_wp2_with fail
    refine (c_DrawClassBelow sl len cap _ h).mono ?_
    rintro e w1 ⟨r, m, s, n, rfl, hb1⟩
    have e5 := selI_t
    cases hin : belB r m s n
    · have hin := hin
      go_wp2_with fail
      refine (c_implClassBelow _ _ _ _ _).mono ?_
      rintro e w2 ⟨rfl, hb2⟩
      have X0_2 := bt2 (ba (Below.refl _ _) _) hb2
      have X1_2 := hb2
      have kX0_2_0 : w2.cell? ⟨w1.heap.size, 0, none⟩ = some _ := kc X0_2 0
      have kX0_2_1 : w2.cell? ⟨w1.heap.size, 1, none⟩ = some _ := kc X0_2 1
      have kX1_2_0 : w2.cell? ⟨w1.heap.size + 1, 0, none⟩ = some (.int .i64 s) := by simpa using kc X1_2 0
      have kX1_2_1 : w2.cell? ⟨w1.heap.size + 1, 1, none⟩ = some (.int .i64 n) := by simpa using kc X1_2 1
      have hzX0_2 := kz X0_2
      have hzX1_2 : w1.heap.size + 1 < w2.heap.size := by simpa using kz X1_2
      go_wp2_with fail
      refine (c_specClassBelow _ _ _ _ _).mono ?_
      rintro e w3 ⟨rfl, hb3⟩
      have X0_3 := bt2 X0_2 hb3
      have X1_3 := bt2 X1_2 hb3
      have kX0_3_0 : w3.cell? ⟨w1.heap.size, 0, none⟩ = some _ := kc X0_3 0
      have kX0_3_1 : w3.cell? ⟨w1.heap.size, 1, none⟩ = some _ := kc X0_3 1
      have kX1_3_0 : w3.cell? ⟨w1.heap.size + 1, 0, none⟩ = some (.int .i64 s) := by simpa using kc X1_3 0
      have kX1_3_1 : w3.cell? ⟨w1.heap.size + 1, 1, none⟩ = some (.int .i64 n) := by simpa using kc X1_3 1
      have hzX0_3 := kz X0_3
      have hzX1_3 : w1.heap.size + 1 < w3.heap.size := by simpa using kz X1_3
      go_wp2_with fail
      go_ret
      exact ⟨rfl, by repeat (first | exact Below.refl _ _ | assumption | refine Below.drew ?_ | refine bel_drewN ?_ _ | refine ba ?_ _ | refine bt2 ?_ (by assumption) | refine Below.setCell ?_ (by simp <;> omega) _)⟩
    · obtain ⟨e1, e2, e3, e4, e6, e7, e8, e9⟩ := bel_moved hin
      go_wp2_with fail
      refine (c_implClassBelow _ _ _ _ _).mono ?_
      rintro e w2 ⟨rfl, hb2⟩
      have X0_2 := bt2 (ba (Below.refl _ _) _) hb2
      have X1_2 := hb2
      have kX0_2_0 : w2.cell? ⟨w1.heap.size, 0, none⟩ = some _ := kc X0_2 0
      have kX0_2_1 : w2.cell? ⟨w1.heap.size, 1, none⟩ = some _ := kc X0_2 1
      have kX1_2_0 : w2.cell? ⟨w1.heap.size + 1, 0, none⟩ = some (.int .i64 s) := by simpa using kc X1_2 0
      have kX1_2_1 : w2.cell? ⟨w1.heap.size + 1, 1, none⟩ = some (.int .i64 n) := by simpa using kc X1_2 1
      have hzX0_2 := kz X0_2
      have hzX1_2 : w1.heap.size + 1 < w2.heap.size := by simpa using kz X1_2
      go_wp2_with fail
      refine (c_specClassBelow _ _ _ _ _).mono ?_
      rintro e w3 ⟨rfl, hb3⟩
      have X0_3 := bt2 X0_2 hb3
      have X1_3 := bt2 X1_2 hb3
      have kX0_3_0 : w3.cell? ⟨w1.heap.size, 0, none⟩ = some _ := kc X0_3 0
      have kX0_3_1 : w3.cell? ⟨w1.heap.size, 1, none⟩ = some _ := kc X0_3 1
      have kX1_3_0 : w3.cell? ⟨w1.heap.size + 1, 0, none⟩ = some (.int .i64 s) := by simpa using kc X1_3 0
      have kX1_3_1 : w3.cell? ⟨w1.heap.size + 1, 1, none⟩ = some (.int .i64 n) := by simpa using kc X1_3 1
      have hzX0_3 := kz X0_3
      have hzX1_3 : w1.heap.size + 1 < w3.heap.size := by simpa using kz X1_3
      go_wp2_with fail
      refine (c_implClassMoved _ _ _ _).mono ?_
      rintro e w4 ⟨rfl, hb4⟩
      have X0_4 := bt2 X0_3 hb4
      have X1_4 := bt2 X1_3 hb4
      have kX0_4_0 : w4.cell? ⟨w1.heap.size, 0, none⟩ = some _ := kc X0_4 0
      have kX0_4_1 : w4.cell? ⟨w1.heap.size, 1, none⟩ = some _ := kc X0_4 1
      have kX1_4_0 : w4.cell? ⟨w1.heap.size + 1, 0, none⟩ = some (.int .i64 s) := by simpa using kc X1_4 0
      have kX1_4_1 : w4.cell? ⟨w1.heap.size + 1, 1, none⟩ = some (.int .i64 n) := by simpa using kc X1_4 1
      have hzX0_4 := kz X0_4
      have hzX1_4 : w1.heap.size + 1 < w4.heap.size := by simpa using kz X1_4
      go_wp2_with fail
      refine (c_implClassMoved _ _ _ _).mono ?_
      rintro e w5 ⟨rfl, hb5⟩
      have X0_5 := bt2 (ba X0_4 _) hb5
      have X1_5 := bt2 (ba X1_4 _) hb5
      have X2_5 := hb5
      have kX0_5_0 : w5.cell? ⟨w1.heap.size, 0, none⟩ = some _ := kc X0_5 0
      have kX0_5_1 : w5.cell? ⟨w1.heap.size, 1, none⟩ = some _ := kc X0_5 1
      have kX1_5_0 : w5.cell? ⟨w1.heap.size + 1, 0, none⟩ = some (.int .i64 s) := by simpa using kc X1_5 0
      have kX1_5_1 : w5.cell? ⟨w1.heap.size + 1, 1, none⟩ = some (.int .i64 n) := by simpa using kc X1_5 1
      have kX2_5_0 : w5.cell? ⟨w4.heap.size, 0, none⟩ = some _ := kc X2_5 0
      have kX2_5_1 : w5.cell? ⟨w4.heap.size, 1, none⟩ = some _ := kc X2_5 1
      have hzX0_5 := kz X0_5
      have hzX1_5 : w1.heap.size + 1 < w5.heap.size := by simpa using kz X1_5
      have hzX2_5 := kz X2_5
      go_wp2_with fail
      refine (c_implClassBelow _ _ _ _ _).mono ?_
      rintro e w6 ⟨rfl, hb6⟩
      have X0_6 := bt2 (ba X0_5 _) hb6
      have X1_6 := bt2 (ba X1_5 _) hb6
      have X2_6 := bt2 (ba X2_5 _) hb6
      have X3_6 := hb6
      have kX0_6_0 : w6.cell? ⟨w1.heap.size, 0, none⟩ = some _ := kc X0_6 0
      have kX0_6_1 : w6.cell? ⟨w1.heap.size, 1, none⟩ = some _ := kc X0_6 1
      have kX1_6_0 : w6.cell? ⟨w1.heap.size + 1, 0, none⟩ = some (.int .i64 s) := by simpa using kc X1_6 0
      have kX1_6_1 : w6.cell? ⟨w1.heap.size + 1, 1, none⟩ = some (.int .i64 n) := by simpa using kc X1_6 1
      have kX2_6_0 : w6.cell? ⟨w4.heap.size, 0, none⟩ = some _ := kc X2_6 0
      have kX2_6_1 : w6.cell? ⟨w4.heap.size, 1, none⟩ = some _ := kc X2_6 1
      have kX3_6_0 : w6.cell? ⟨w5.heap.size, 0, none⟩ = some _ := kc X3_6 0
      have kX3_6_1 : w6.cell? ⟨w5.heap.size, 1, none⟩ = some _ := kc X3_6 1
      have hzX0_6 := kz X0_6
      have hzX1_6 : w1.heap.size + 1 < w6.heap.size := by simpa using kz X1_6
      have hzX2_6 := kz X2_6
      have hzX3_6 := kz X3_6
      go_wp2_with fail
      go_ret
      exact ⟨rfl, by repeat (first | exact Below.refl _ _ | assumption | refine Below.drew ?_ | refine bel_drewN ?_ _ | refine ba ?_ _ | refine bt2 ?_ (by assumption) | refine Below.setCell ?_ (by simp <;> omega) _)⟩
  · go_enter Try.func6, Try.ntmps6
    go_wp2_with fail
    go_ret
    exact ⟨rfl, Below.refl _ _⟩
end Go.Proofs.Ytenghhoofpjcaaa
