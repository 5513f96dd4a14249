/- Contracts of ClassMeet in the model, and of what the law on classes below draws. -/
import Derived.Test.YtenghhoofpjcaaaD5
import Derived.Test.YtenghhoofpjcaaaE2
import Derived.Test.YtenghhoofpjcaaaM1
namespace Go.Proofs.Ytenghhoofpjcaaa
open Go.RowKit
def DrawnCC (w : World) (e : Ending) (w' : World) : Prop :=
  ∃ r m s n : Int, e = .returned (.tuple #[.agg #[.int .i64 r, .int .i64 m], .agg #[.int .i64 s, .int .i64 n]]) ∧ Below w.heap.size w w'
set_option maxHeartbeats 1000000 in
theorem c_l91Two (s : Option Addr) (len cap : Nat) (w : World) (h : Code0 w s len cap) : Calls Try.prog 60 #[.slice s len cap] w (DrawnCC w) := by
  go_enter Try.func60, Try.ntmps60
  go_wp2_with fail
  refine (c_l6Open s len cap _ (h.below (ba (ba (Below.refl _ _) _) _))).mono ?_
  rintro e w2 ⟨B, s', len', hB, rfl, hR2, hb2⟩
  have HB := Lib.hid hB
  clear hB
  go_wp2_with fail
  refine (c_l91Class hR2 (by omega)).mono ?_
  rintro e w3 ⟨r, m, p3, m1, m2, r1, r2, rfl, hR3, hp3, hO3⟩
  have hb3 := hb2.trans (oth_below hO3 hR2)
  have hB3 := hR3.lt
  have hR3a := hR3.alloc (Obj.cells #[Value.int IntKind.i64 r, Value.int IntKind.i64 m] 24)
  have hb3a := ba hb3 (Obj.cells #[Value.int IntKind.i64 r, Value.int IntKind.i64 m] 24)
  go_wp2_with fail
  refine (c_l91Class hR3a (by omega)).mono ?_
  rintro e w4 ⟨q, n, p4, n1, n2, q1, q2, rfl, hR4, hp4, hO4⟩
  have hb4 := hb3a.trans (oth_below hO4 hR3a)
  have hB4 := hR4.lt
  have hR4a := hR4.alloc (Obj.cells #[Value.int IntKind.i64 q, Value.int IntKind.i64 n] 24)
  have hb4a := ba hb4 (Obj.cells #[Value.int IntKind.i64 q, Value.int IntKind.i64 n] 24)
  go_wp2_with fail
  refine (c_pickR 24 (by omega) (by omega) hR4a (by omega)).mono ?_
  rintro e w5 ⟨v, v1, v2, rfl, hR5, hO5⟩
  have hb5 := hb4a.trans (oth_below hO5 hR4a)
  have hO5' := (hO4.alloc (Obj.cells #[Value.int IntKind.i64 q, Value.int IntKind.i64 n] 24)).trans hO5
  have k0 : w5.cell? ⟨w3.heap.size, 0, none⟩ = some _ := oc hO5' hB3 0
  have k1 : w5.cell? ⟨w3.heap.size, 1, none⟩ = some _ := oc hO5' hB3 1
  have k2 : w5.cell? ⟨w4.heap.size, 0, none⟩ = some _ := oc hO5 hB4 0
  have k3 : w5.cell? ⟨w4.heap.size, 1, none⟩ = some _ := oc hO5 hB4 1
  have hbA := bt2 (ba (Below.refl _ (w.alloc (Obj.cells #[Value.int IntKind.i64 0, Value.int IntKind.i64 0] 24))) _) hb5
  have c0 : w5.cell? ⟨w.heap.size, 0, none⟩ = some _ := kc hbA 0
  have c1 : w5.cell? ⟨w.heap.size, 1, none⟩ = some _ := kc hbA 1
  have d0 : w5.cell? ⟨w.heap.size + 1, 0, none⟩ = some (.int .i64 0) := by simpa using kc hb5 0
  have d1 : w5.cell? ⟨w.heap.size + 1, 1, none⟩ = some (.int .i64 0) := by simpa using kc hb5 1
  have f0 := kf hbA 0
  have f1 := kf hbA 1
  have g0 : w5.frozen? ⟨w.heap.size + 1, 0, none⟩ = false := by simpa using kf hb5 0
  have g1 : w5.frozen? ⟨w.heap.size + 1, 1, none⟩ = false := by simpa using kf hb5 1
  have hw3 : w.heap.size + 1 < w3.heap.size := by have := hb3.size; simp at this; omega
  have hw4 : w.heap.size + 1 < w4.heap.size := by have := hb4.size; simp at this; omega
  have hbW := bt2 (ba (ba (Below.refl _ w) _) _) hb5
  cases hv : (v == 0)
  · go_wp2_with fail
    go_region
    go_wp2
    refine bodyPost_ret (v := .tuple #[.agg #[.int .i64 r, .int .i64 m], .agg #[.int .i64 q, .int .i64 n]]) (by simp [results, Try.results60, go_sem, c0, c1, d0, d1]) rfl ⟨r, m, q, n, rfl, ?_⟩
    repeat (first | exact Below.refl _ _ | assumption | refine Below.drew ?_ | refine bel_drewN ?_ _ | refine ba ?_ _ | refine bt2 ?_ (by assumption) | refine Below.setCell ?_ (by simp <;> omega) _)
  · go_wp2_with fail
    go_region
    go_wp2
    refine bodyPost_ret (v := .tuple #[.agg #[.int .i64 5, .int .i64 97], .agg #[.int .i64 q, .int .i64 n]]) (by simp [results, Try.results60, go_sem, c0, c1, d0, d1]) rfl ⟨5, 97, q, n, rfl, ?_⟩
    repeat (first | exact Below.refl _ _ | assumption | refine Below.drew ?_ | refine bel_drewN ?_ _ | refine ba ?_ _ | refine bt2 ?_ (by assumption) | refine Below.setCell ?_ (by simp <;> omega) _)
set_option maxHeartbeats 1000000 in
theorem c_DrawClassBelow (s : Option Addr) (len cap : Nat) (w : World) (h : Code0 w s len cap) : Calls Try.prog 23 #[.slice s len cap] w (DrawnCC w) := by
  have hlc := h.lc
  have hcm := h.cm
  unfold maxLen at hcm
  go_enter Try.func23, Try.ntmps23
  go_wp2_with fail
  refine (c_l91Two s len cap _ (h.below (ba (ba (Below.refl _ _) _) _))).mono ?_
  rintro e w2 ⟨r, m, q, n, rfl, hb2⟩
  have hX := bt2 (ba (Below.refl _ (w2.alloc (Obj.cells #[Value.int IntKind.i64 r, Value.int IntKind.i64 m] 24))) (Obj.cells #[Value.int IntKind.i64 q, Value.int IntKind.i64 n] 24)) (Below.refl _ _)
  go_wp2_with fail
  refine (c_specClassMeet r m q n _).mono ?_
  rintro e w3 ⟨rfl, hb3⟩
  have hY := bt2 (ba (Below.refl _ (w2.alloc (Obj.cells #[Value.int IntKind.i64 r, Value.int IntKind.i64 m] 24))) _) hb3
  have hbw := (ba (ba hb2 _) _).trans (hb3.mono (by have := hb2.size; simp at *; omega))
  have hw2 : w.heap.size + 1 < w2.heap.size := by have := hb2.size; simp at this; omega
  have hw3 : w2.heap.size + 1 < w3.heap.size := by have := hb3.size; simp at this; omega
  have e5 := selI_f
  cases ht : mtB r m q n
  · go_wp2_with fail
    have z := ba hbw (Obj.cells #[Value.int IntKind.i64 0, Value.int IntKind.i64 0] 24)
    have y := ba hY (Obj.cells #[Value.int IntKind.i64 0, Value.int IntKind.i64 0] 24)
    have x := ba hb3 (Obj.cells #[Value.int IntKind.i64 0, Value.int IntKind.i64 0] 24)
    have v0 := cell_new w3 #[.int .i64 0, .int .i64 0] 24 0
    have v1 := cell_new w3 #[.int .i64 0, .int .i64 0] 24 1
    have u := ba (bt2 (ba (ba (Below.refl _ w) _) _) hbw) (Obj.cells #[Value.int IntKind.i64 0, Value.int IntKind.i64 0] 24)
    clear hbw hY hb3
    generalize w3.alloc (Obj.cells #[Value.int IntKind.i64 0, Value.int IntKind.i64 0] 24) = W at *
    have zA := bt2 (ba (Below.refl _ (w.alloc (Obj.cells #[Value.int IntKind.i64 0, Value.int IntKind.i64 0] 24))) _) z
    have c0 : W.cell? ⟨w.heap.size, 0, none⟩ = some _ := kc zA 0
    have c1 : W.cell? ⟨w.heap.size, 1, none⟩ = some _ := kc zA 1
    have d0 : W.cell? ⟨w.heap.size + 1, 0, none⟩ = some (.int .i64 0) := by simpa using kc z 0
    have d1 : W.cell? ⟨w.heap.size + 1, 1, none⟩ = some (.int .i64 0) := by simpa using kc z 1
    have f0 := kf zA 0
    have f1 := kf zA 1
    have g0 : W.frozen? ⟨w.heap.size + 1, 0, none⟩ = false := by simpa using kf z 0
    have g1 : W.frozen? ⟨w.heap.size + 1, 1, none⟩ = false := by simpa using kf z 1
    have k0 : W.cell? ⟨w2.heap.size, 0, none⟩ = some _ := kc y 0
    have k1 : W.cell? ⟨w2.heap.size, 1, none⟩ = some _ := kc y 1
    have k2 : W.cell? ⟨w2.heap.size + 1, 0, none⟩ = some (.int .i64 q) := by simpa using kc x 0
    have k3 : W.cell? ⟨w2.heap.size + 1, 1, none⟩ = some (.int .i64 n) := by simpa using kc x 1
    have l0 : W.cell? ⟨w3.heap.size, 0, none⟩ = some (.int .i64 0) := v0
    have l1 : W.cell? ⟨w3.heap.size, 1, none⟩ = some (.int .i64 0) := v1
    clear v0 v1
    go_region
    go_wp2
    refine bodyPost_ret (v := .tuple #[.agg #[.int .i64 r, .int .i64 m], .agg #[.int .i64 q, .int .i64 n]]) (by simp [results, Try.results23, go_sem, c0, c1, d0, d1]) rfl ⟨r, m, q, n, rfl, ?_⟩
    repeat (first | exact Below.refl _ _ | assumption | refine Below.drew ?_ | refine bel_drewN ?_ _ | refine ba ?_ _ | refine bt2 ?_ (by assumption) | refine Below.setCell ?_ (by simp <;> omega) _)
  · cases hl : decide ((0 : Int) < (len : Int) % 3)
    · go_wp2_with fail
      have z := ba hbw (Obj.cells #[Value.int IntKind.i64 (selI true (metX m q n r)), Value.int IntKind.i64 (selI true (lcmI m n))] 24)
      have y := ba hY (Obj.cells #[Value.int IntKind.i64 (selI true (metX m q n r)), Value.int IntKind.i64 (selI true (lcmI m n))] 24)
      have x := ba hb3 (Obj.cells #[Value.int IntKind.i64 (selI true (metX m q n r)), Value.int IntKind.i64 (selI true (lcmI m n))] 24)
      have v0 := cell_new w3 #[.int .i64 (selI true (metX m q n r)), .int .i64 (selI true (lcmI m n))] 24 0
      have v1 := cell_new w3 #[.int .i64 (selI true (metX m q n r)), .int .i64 (selI true (lcmI m n))] 24 1
      have u := ba (bt2 (ba (ba (Below.refl _ w) _) _) hbw) (Obj.cells #[Value.int IntKind.i64 (selI true (metX m q n r)), Value.int IntKind.i64 (selI true (lcmI m n))] 24)
      clear hbw hY hb3
      generalize w3.alloc (Obj.cells #[Value.int IntKind.i64 (selI true (metX m q n r)), Value.int IntKind.i64 (selI true (lcmI m n))] 24) = W at *
      have zA := bt2 (ba (Below.refl _ (w.alloc (Obj.cells #[Value.int IntKind.i64 0, Value.int IntKind.i64 0] 24))) _) z
      have c0 : W.cell? ⟨w.heap.size, 0, none⟩ = some _ := kc zA 0
      have c1 : W.cell? ⟨w.heap.size, 1, none⟩ = some _ := kc zA 1
      have d0 : W.cell? ⟨w.heap.size + 1, 0, none⟩ = some (.int .i64 0) := by simpa using kc z 0
      have d1 : W.cell? ⟨w.heap.size + 1, 1, none⟩ = some (.int .i64 0) := by simpa using kc z 1
      have f0 := kf zA 0
      have f1 := kf zA 1
      have g0 : W.frozen? ⟨w.heap.size + 1, 0, none⟩ = false := by simpa using kf z 0
      have g1 : W.frozen? ⟨w.heap.size + 1, 1, none⟩ = false := by simpa using kf z 1
      have k0 : W.cell? ⟨w2.heap.size, 0, none⟩ = some _ := kc y 0
      have k1 : W.cell? ⟨w2.heap.size, 1, none⟩ = some _ := kc y 1
      have k2 : W.cell? ⟨w2.heap.size + 1, 0, none⟩ = some (.int .i64 q) := by simpa using kc x 0
      have k3 : W.cell? ⟨w2.heap.size + 1, 1, none⟩ = some (.int .i64 n) := by simpa using kc x 1
      have l0 : W.cell? ⟨w3.heap.size, 0, none⟩ = some (.int .i64 (selI true (metX m q n r))) := v0
      have l1 : W.cell? ⟨w3.heap.size, 1, none⟩ = some (.int .i64 (selI true (lcmI m n))) := v1
      clear v0 v1
      go_region
      go_wp2
      refine bodyPost_ret (v := .tuple #[.agg #[.int .i64 r, .int .i64 m], .agg #[.int .i64 q, .int .i64 n]]) (by simp [results, Try.results23, go_sem, c0, c1, d0, d1]) rfl ⟨r, m, q, n, rfl, ?_⟩
      repeat (first | exact Below.refl _ _ | assumption | refine Below.drew ?_ | refine bel_drewN ?_ _ | refine ba ?_ _ | refine bt2 ?_ (by assumption) | refine Below.setCell ?_ (by simp <;> omega) _)
    · go_wp2_with fail
      have z := ba hbw (Obj.cells #[Value.int IntKind.i64 (selI true (metX m q n r)), Value.int IntKind.i64 (selI true (lcmI m n))] 24)
      have y := ba hY (Obj.cells #[Value.int IntKind.i64 (selI true (metX m q n r)), Value.int IntKind.i64 (selI true (lcmI m n))] 24)
      have x := ba hb3 (Obj.cells #[Value.int IntKind.i64 (selI true (metX m q n r)), Value.int IntKind.i64 (selI true (lcmI m n))] 24)
      have v0 := cell_new w3 #[.int .i64 (selI true (metX m q n r)), .int .i64 (selI true (lcmI m n))] 24 0
      have v1 := cell_new w3 #[.int .i64 (selI true (metX m q n r)), .int .i64 (selI true (lcmI m n))] 24 1
      have u := ba (bt2 (ba (ba (Below.refl _ w) _) _) hbw) (Obj.cells #[Value.int IntKind.i64 (selI true (metX m q n r)), Value.int IntKind.i64 (selI true (lcmI m n))] 24)
      clear hbw hY hb3
      generalize w3.alloc (Obj.cells #[Value.int IntKind.i64 (selI true (metX m q n r)), Value.int IntKind.i64 (selI true (lcmI m n))] 24) = W at *
      have zA := bt2 (ba (Below.refl _ (w.alloc (Obj.cells #[Value.int IntKind.i64 0, Value.int IntKind.i64 0] 24))) _) z
      have c0 : W.cell? ⟨w.heap.size, 0, none⟩ = some _ := kc zA 0
      have c1 : W.cell? ⟨w.heap.size, 1, none⟩ = some _ := kc zA 1
      have d0 : W.cell? ⟨w.heap.size + 1, 0, none⟩ = some (.int .i64 0) := by simpa using kc z 0
      have d1 : W.cell? ⟨w.heap.size + 1, 1, none⟩ = some (.int .i64 0) := by simpa using kc z 1
      have f0 := kf zA 0
      have f1 := kf zA 1
      have g0 : W.frozen? ⟨w.heap.size + 1, 0, none⟩ = false := by simpa using kf z 0
      have g1 : W.frozen? ⟨w.heap.size + 1, 1, none⟩ = false := by simpa using kf z 1
      have k0 : W.cell? ⟨w2.heap.size, 0, none⟩ = some _ := kc y 0
      have k1 : W.cell? ⟨w2.heap.size, 1, none⟩ = some _ := kc y 1
      have k2 : W.cell? ⟨w2.heap.size + 1, 0, none⟩ = some (.int .i64 q) := by simpa using kc x 0
      have k3 : W.cell? ⟨w2.heap.size + 1, 1, none⟩ = some (.int .i64 n) := by simpa using kc x 1
      have l0 : W.cell? ⟨w3.heap.size, 0, none⟩ = some (.int .i64 (selI true (metX m q n r))) := v0
      have l1 : W.cell? ⟨w3.heap.size, 1, none⟩ = some (.int .i64 (selI true (lcmI m n))) := v1
      clear v0 v1
      go_region
      go_wp2
      refine bodyPost_ret (v := .tuple #[.agg #[.int .i64 (selI true (metX m q n r)), .int .i64 (selI true (lcmI m n))], .agg #[.int .i64 q, .int .i64 n]]) (by simp [results, Try.results23, go_sem, c0, c1, d0, d1]) rfl ⟨(selI true (metX m q n r)), (selI true (lcmI m n)), q, n, rfl, ?_⟩
      repeat (first | exact Below.refl _ _ | assumption | refine Below.drew ?_ | refine bel_drewN ?_ _ | refine ba ?_ _ | refine bt2 ?_ (by assumption) | refine Below.setCell ?_ (by simp <;> omega) _)
end Go.Proofs.Ytenghhoofpjcaaa
