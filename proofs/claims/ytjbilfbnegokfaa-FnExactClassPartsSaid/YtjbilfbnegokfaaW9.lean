/- The walk of the exact law of ClassParts. -/
import Derived.Test.YtjbilfbnegokfaaH2
import Derived.Test.YtjbilfbnegokfaaS4
namespace Go.Proofs.Ytjbilfbnegokfaa
open Go.RowKit
/-- what lies above an own box -/
def Abv (w : World) (r m : Int) (w' : World) : Prop := Below (w.alloc (Obj.cells #[Value.int IntKind.i64 r, Value.int IntKind.i64 m] 23)).heap.size (w.alloc (Obj.cells #[Value.int IntKind.i64 r, Value.int IntKind.i64 m] 23)) w'
theorem Abv.c0 {w w' : World} {r m : Int} (h : Abv w r m w') : w'.cell? ⟨w.heap.size, 0, none⟩ = some (.int .i64 r) := kc h 0
theorem Abv.c1 {w w' : World} {r m : Int} (h : Abv w r m w') : w'.cell? ⟨w.heap.size, 1, none⟩ = some (.int .i64 m) := kc h 1
theorem Abv.z {w w' : World} {r m : Int} (h : Abv w r m w') : w.heap.size < w'.heap.size := kz h
theorem Abv.on {w a b : World} {r m : Int} (h : Abv w r m a) (k : Below a.heap.size a b) : Abv w r m b := bt2 (w := w.alloc (Obj.cells #[Value.int IntKind.i64 r, Value.int IntKind.i64 m] 23)) h k
theorem Abv.all {w a : World} {r m : Int} (h : Abv w r m a) : Below w.heap.size w a := bt2 (ba (Below.refl _ w) _) h
set_option maxHeartbeats 2000000 in
theorem w_FnExactClassParts (r m k : Int) (w : World) : Calls Try.prog 4 #[.agg #[.int .i64 r, .int .i64 m], .int .i64 k] w fun e w' => e = .returned (.bool true) ∧ Below w.heap.size w w' := by
  have hLn : (parR r m k).length ≤ 1048576 := by have := parR_le r m k; omega
  go_enter Try.func4, Try.ntmps4
  go_wp2_with fail
  refine (c_toClass _ _ _).mono ?_
  rintro e w1 ⟨rfl, hB1⟩
  have h1 : Abv w r m w1 := hB1
  have k0 := h1.c0
  have k1 := h1.c1
  have z := h1.z
  go_wp2_with fail
  refine (c_specClassParts _ _ _ _).mono ?_
  rintro e w2 ⟨v2, rfl, hO2, hB2⟩
  have h2 := h1.on hB2
  obtain ⟨s2, cap2, rfl, hC2, hs2⟩ := hO2.spread
  clear k0 k1 z
  have k0 := h2.c0
  have k1 := h2.c1
  have z := h2.z
  go_wp2_with fail
  refine (c_toClass _ _ _).mono ?_
  rintro e w3 ⟨rfl, hB3⟩
  have h3 := h2.on hB3
  have hO23 := hO2.keep hB3
  clear k0 k1 z
  have k0 := h3.c0
  have k1 := h3.c1
  have z := h3.z
  go_wp2_with fail
  refine (c_implClassParts _ _ _ _).mono ?_
  rintro e w4 ⟨v4, rfl, hO4, hB4⟩
  have h4 := h3.on hB4
  have hO24 := hO23.keep hB4
  obtain ⟨s4, cap4, rfl, hC4, hs4⟩ := hO4.spread
  clear k0 k1 z
  have k0 := h4.c0
  have k1 := h4.c1
  have z := h4.z
  go_wp2_with fail
  refine (c_eqClassS _ _ _ _ _ (parR r m k) hLn _ hC4 (spreadC hO24)).mono ?_
  rintro e w5 ⟨rfl, hB5⟩
  have h5 := h4.on hB5
  have hO25 := hO24.keep hB5
  have hO45 := hO4.keep hB5
  clear k0 k1 z
  have k0 := h5.c0
  have k1 := h5.c1
  have z := h5.z
  go_wp2_with fail
  refine (c_markClassS _ _ _ _ _ (parR r m k) rfl hLn 1 (by omega) (by omega) _ hO45).mono ?_
  rintro e w6 ⟨rfl, hO46, hG6⟩
  have h6 : Abv w r m w6 := Below.grown h5 hG6 h5.size (fun j e => Nat.le_trans h3.size (hO45.lt j e).1)
  have hO26 := hO25.other hG6 (apart24 hs2 hO4 hB3.size)
  clear k0 k1 z
  have k0 := h6.c0
  have k1 := h6.c1
  have z := h6.z
  go_wp2_with fail
  refine (c_heldClassS _ _ _ hLn 1 (by omega) (by omega) _ (spreadM hO46)).mono ?_
  rintro e w' ⟨rfl, rfl⟩
  go_wp2_with fail
  refine (c_toClass _ _ _).mono ?_
  rintro e w7 ⟨rfl, hB7⟩
  have h7 := h6.on hB7
  have hO27 := hO26.keep hB7
  have hO47 := hO46.keep hB7
  clear k0 k1 z
  have k0 := h7.c0
  have k1 := h7.c1
  have z := h7.z
  go_wp2_with fail
  refine (c_implClassParts _ _ _ _).mono ?_
  rintro e w8 ⟨v8, rfl, hO8, hB8⟩
  have h8 := h7.on hB8
  have hO28 := hO27.keep hB8
  have hO48 := hO47.keep hB8
  obtain ⟨s8, cap8, rfl, hC8, hs8⟩ := hO8.spread
  clear k0 k1 z
  have k0 := h8.c0
  have k1 := h8.c1
  have z := h8.z
  go_wp2_with fail
  refine (c_eqClassS _ _ _ _ _ (parR r m k) hLn _ hC8 (spreadC hO28)).mono ?_
  rintro e w9 ⟨rfl, hB9⟩
  have h9 := h8.on hB9
  have hO49 := hO48.keep hB9
  go_wp2_with fail
  refine (c_heldClassS _ _ _ hLn 1 (by omega) (by omega) _ (spreadM hO49)).mono ?_
  rintro e w' ⟨rfl, rfl⟩
  go_wp2_with fail
  go_ret
  exact ⟨rfl, h9.all⟩
end Go.Proofs.Ytjbilfbnegokfaa
