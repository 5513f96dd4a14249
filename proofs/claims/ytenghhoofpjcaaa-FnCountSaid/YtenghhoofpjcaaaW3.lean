/- The walk of the promise law on counts: it returns true at every code. -/
import Derived.Test.YtenghhoofpjcaaaC4
import Derived.Test.YtenghhoofpjcaaaD5
import Derived.Test.YtenghhoofpjcaaaMathCount
namespace Go.Proofs.Ytenghhoofpjcaaa
open Go.RowKit
theorem w_FnCount (s : Option Addr) (len cap : Nat) (w : World) (h : Code0 w s len cap) : Calls Try.prog 10 #[.slice s len cap] w fun e w' => e = .returned (.bool true) ∧ Below w.heap.size w w' := by
  have hlc := h.lc
  have hcm := h.cm
  unfold maxLen at hcm
  by_cases hlen : len ≤ 1048576
  · go_enter Try.func10, Try.ntmps10
    go_wp2_with fail
    refine (c_DrawClassCount s len cap _ h).mono ?_
    rintro e w1 ⟨r, m, a, b, m1, m2, r1, r2, a1, a2, b1, b2, rfl, hb1⟩
    have e5 := selI_t
    have e6 := selI_f
    cases hin : cntB r m a b
    · have hin := hin
      go_wp2_with fail
      refine (c_implClassCount _ _ _ _ _).mono ?_
      rintro e w2 ⟨rfl, hb2⟩
      have X0_2 := hb2
      have kX0_2_0 : w2.cell? ⟨w1.heap.size, 0, none⟩ = some _ := kc X0_2 0
      have kX0_2_1 : w2.cell? ⟨w1.heap.size, 1, none⟩ = some _ := kc X0_2 1
      have hzX0_2 := kz X0_2
      go_wp2_with fail
      refine (c_specClassCount _ _ _ _ _).mono ?_
      rintro e w3 ⟨rfl, hb3⟩
      have X0_3 := bt2 X0_2 hb3
      have kX0_3_0 : w3.cell? ⟨w1.heap.size, 0, none⟩ = some _ := kc X0_3 0
      have kX0_3_1 : w3.cell? ⟨w1.heap.size, 1, none⟩ = some _ := kc X0_3 1
      have hzX0_3 := kz X0_3
      go_wp2_with fail
      go_ret
      exact ⟨rfl, by repeat (first | exact Below.refl _ _ | assumption | refine Below.drew ?_ | refine bel_drewN ?_ _ | refine ba ?_ _ | refine bt2 ?_ (by assumption) | refine Below.setCell ?_ (by simp <;> omega) _)⟩
    by_cases hab : b < a
    · have e1 : (cntI r m a b == 0) = true := by rw [cnt_lt m1 hab]; rfl
      obtain ⟨e2, e3⟩ := @tdiv2_bd (b - a) (by omega) (by omega)
      go_wp2_with fail
      refine (c_implClassCount _ _ _ _ _).mono ?_
      rintro e w2 ⟨rfl, hb2⟩
      have X0_2 := hb2
      have kX0_2_0 : w2.cell? ⟨w1.heap.size, 0, none⟩ = some _ := kc X0_2 0
      have kX0_2_1 : w2.cell? ⟨w1.heap.size, 1, none⟩ = some _ := kc X0_2 1
      have hzX0_2 := kz X0_2
      go_wp2_with fail
      refine (c_specClassCount _ _ _ _ _).mono ?_
      rintro e w3 ⟨rfl, hb3⟩
      have X0_3 := bt2 X0_2 hb3
      have kX0_3_0 : w3.cell? ⟨w1.heap.size, 0, none⟩ = some _ := kc X0_3 0
      have kX0_3_1 : w3.cell? ⟨w1.heap.size, 1, none⟩ = some _ := kc X0_3 1
      have hzX0_3 := kz X0_3
      go_wp2_with fail
      go_ret
      exact ⟨rfl, by repeat (first | exact Below.refl _ _ | assumption | refine Below.drew ?_ | refine bel_drewN ?_ _ | refine ba ?_ _ | refine bt2 ?_ (by assumption) | refine Below.setCell ?_ (by simp <;> omega) _)⟩
    · have hab' : a ≤ b := by omega
      clear hab
      obtain ⟨e1, e2⟩ := cnt_mid hin hab'
      obtain ⟨e3, e4, e7, e8⟩ := @cnt_bd r m a b m1 hab'
      obtain ⟨e9, e10, _, _⟩ := @cnt_bd r m a (a + (b - a) / 2) m1 (by omega)
      obtain ⟨e11, e12, _, _⟩ := @cnt_bd r m (a + (b - a) / 2) b m1 (by omega)
      have e13 : (cntI r m a (a + (b - a) / 2) + cntI r m (a + (b - a) / 2) b == cntI r m a b) = true := by
        rw [cnt_add m1 (by omega) (by omega)]; simp
      go_wp2_with fail
      refine (c_implClassCount _ _ _ _ _).mono ?_
      rintro e w2 ⟨rfl, hb2⟩
      have X0_2 := hb2
      have kX0_2_0 : w2.cell? ⟨w1.heap.size, 0, none⟩ = some _ := kc X0_2 0
      have kX0_2_1 : w2.cell? ⟨w1.heap.size, 1, none⟩ = some _ := kc X0_2 1
      have hzX0_2 := kz X0_2
      go_wp2_with fail
      refine (c_specClassCount _ _ _ _ _).mono ?_
      rintro e w3 ⟨rfl, hb3⟩
      have X0_3 := bt2 X0_2 hb3
      have kX0_3_0 : w3.cell? ⟨w1.heap.size, 0, none⟩ = some _ := kc X0_3 0
      have kX0_3_1 : w3.cell? ⟨w1.heap.size, 1, none⟩ = some _ := kc X0_3 1
      have hzX0_3 := kz X0_3
      go_wp2_with fail
      refine (c_implClassCount _ _ _ _ _).mono ?_
      rintro e w4 ⟨rfl, hb4⟩
      have X0_4 := bt2 X0_3 hb4
      have kX0_4_0 : w4.cell? ⟨w1.heap.size, 0, none⟩ = some _ := kc X0_4 0
      have kX0_4_1 : w4.cell? ⟨w1.heap.size, 1, none⟩ = some _ := kc X0_4 1
      have hzX0_4 := kz X0_4
      go_wp2_with fail
      refine (c_implClassCount _ _ _ _ _).mono ?_
      rintro e w5 ⟨rfl, hb5⟩
      have X0_5 := bt2 X0_4 hb5
      have kX0_5_0 : w5.cell? ⟨w1.heap.size, 0, none⟩ = some _ := kc X0_5 0
      have kX0_5_1 : w5.cell? ⟨w1.heap.size, 1, none⟩ = some _ := kc X0_5 1
      have hzX0_5 := kz X0_5
      go_wp2_with fail
      go_ret
      exact ⟨rfl, by repeat (first | exact Below.refl _ _ | assumption | refine Below.drew ?_ | refine bel_drewN ?_ _ | refine ba ?_ _ | refine bt2 ?_ (by assumption) | refine Below.setCell ?_ (by simp <;> omega) _)⟩
  · go_enter Try.func10, Try.ntmps10
    go_wp2_with fail
    go_ret
    exact ⟨rfl, Below.refl _ _⟩
end Go.Proofs.Ytenghhoofpjcaaa
