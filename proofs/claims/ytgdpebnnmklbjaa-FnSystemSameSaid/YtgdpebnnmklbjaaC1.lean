/- Contracts of the small functions of chapter 1 and of their models: what each call returns, and that it changes nothing that was there. -/
import Derived.Test.YtgdpebnnmklbjaaChecked
import Derived.Test.YtgdpebnnmklbjaaMath
import Derived.WalkKit
import Derived.Below
import Derived.Deep.QuietTactic
import Derived.Deep.RegionHeld3
import Derived.BigQuiet
import Derived.Lib.Hide
import Derived.IntWalk
import Derived.Outline
import Derived.WalkLawsBesides
import Derived.WalkSpells
namespace Go.Proofs.Ytgdpebnnmklbjaa
open Go.RowKit
/-! impl: leaves -/
theorem c_inModuli (m : Int) (w : World) : Calls Try.prog 56 #[.int .i64 m] w fun e w' => e = .returned (.bool (modB m)) ∧ w = w' := by
  go_enter Try.func56, Try.ntmps56
  go_wp2
  all_goals go_ret
  all_goals first | exact ⟨bt (by omega), rfl⟩ | exact ⟨bf (by omega), rfl⟩ | exact ⟨bd (by omega), rfl⟩
theorem c_inNumbers (m : Int) (w : World) : Calls Try.prog 60 #[.int .i64 m] w fun e w' => e = .returned (.bool (numB m)) ∧ w = w' := by
  go_enter Try.func60, Try.ntmps60
  go_wp2
  all_goals go_ret
  all_goals first | exact ⟨bt (by omega), rfl⟩ | exact ⟨bf (by omega), rfl⟩ | exact ⟨bd (by omega), rfl⟩
theorem c_restOf (x m : Int) (hm : 1 ≤ m) (hm2 : m ≤ 1000) (w : World) : Calls Try.prog 82 #[.int .i64 x, .int .i64 m] w fun e w' => e = .returned (.int .i64 (x % m)) ∧ w = w' := by
  have hb := tmod_bd x m hm
  by_cases h : x.tmod m < 0
  · have he := Lib.hid (tmod_ng x m hm h)
    go_enter Try.func82, Try.ntmps82
    go_wp2
    go_ret
    exact ⟨ri he.out, rfl⟩
  · have he := Lib.hid (tmod_nn x m hm (by omega))
    go_enter Try.func82, Try.ntmps82
    go_wp2
    go_ret
    exact ⟨ri he.out, rfl⟩
theorem c_classAt (x m : Int) (hm : 1 ≤ m) (hm2 : m ≤ 1000) (w : World) : Calls Try.prog 62 #[.int .i64 x, .int .i64 m] w fun e w' => e = .returned (.agg #[.int .i64 (x % m), .int .i64 m]) ∧ w.alloc (.cells #[.int .i64 (x % m), .int .i64 m] 34) = w' := by
  go_enter Try.func62, Try.ntmps62
  go_wp2_with (go_at_call 82; refine (c_restOf _ _ hm hm2 _).mono ?_; rintro e w' ⟨rfl, rfl⟩)
  refine bodyPost_ret (v := .agg #[.int .i64 (x % m), .int .i64 m]) (by simp [results, Try.results62, go_sem]) rfl ⟨rfl, ?_⟩
  simp
/-! spec: leaves -/
theorem c_l6In (n a b : Int) (w : World) : Calls Try.prog 49 #[.int .i64 n, .int .i64 a, .int .i64 b] w fun e w' => e = .returned (.bool (l6B n a b)) ∧ w = w' := by
  go_enter Try.func49, Try.ntmps49
  go_wp2
  all_goals go_ret
  all_goals first | exact ⟨bt (by omega), rfl⟩ | exact ⟨bf (by omega), rfl⟩ | exact ⟨bd (by omega), rfl⟩
theorem c_l1Number (m : Int) (w : World) : Calls Try.prog 68 #[.int .i64 m] w fun e w' => e = .returned (.bool (numB m)) ∧ w = w' := by
  go_enter Try.func68, Try.ntmps68
  go_wp2_with (go_at_call 49; refine (c_l6In _ _ _ _).mono ?_; rintro e w' ⟨rfl, rfl⟩)
  go_ret
  exact ⟨rfl, rfl⟩
theorem c_l1Rest (x m : Int) (hm : 1 ≤ m) (hm2 : m ≤ 1000) (w : World) : Calls Try.prog 69 #[.int .i64 x, .int .i64 m] w fun e w' => e = .returned (.int .i64 (x % m)) ∧ w = w' := by
  have hb := tmod_bd x m hm
  have he := Lib.hid (tmod_add_emod x m hm)
  go_enter Try.func69, Try.ntmps69
  go_wp2
  go_ret
  exact ⟨ri he.out, rfl⟩
theorem c_l1None (w : World) : Calls Try.prog 94 #[] w fun e w' => e = .returned (.tuple #[.agg #[.int .i64 0, .int .i64 0], .bool false]) ∧ w.alloc (Obj.cells #[Value.int IntKind.i64 0, Value.int IntKind.i64 0] 34) = w' := by
  go_enter Try.func94, Try.ntmps94
  go_wp2
  exact bodyPost_ret (v := .tuple #[.agg #[.int .i64 0, .int .i64 0], .bool false]) (by simp [results, Try.results94, go_sem]) rfl ⟨rfl, rfl⟩
/-! classes by value: the worlds are written out -/
theorem c_valid (r m : Int) (w : World) : Calls Try.prog 54 #[.agg #[.int .i64 r, .int .i64 m]] w fun e w' => e = .returned (.bool (inB r m)) ∧ w.alloc (Obj.cells #[Value.int IntKind.i64 r, Value.int IntKind.i64 m] 34) = w' := by
  go_enter Try.func54, Try.ntmps54
  go_wp2_with (go_at_call 56; refine (c_inModuli _ _).mono ?_; rintro e w1 ⟨rfl, rfl⟩)
  all_goals go_ret
  all_goals simp only [modB_iff] at *
  all_goals first | exact ⟨bt (by omega), trivial⟩ | exact ⟨bf (by omega), trivial⟩ | exact ⟨bd (by omega), trivial⟩
theorem c_specClassIn (r m : Int) (w : World) : Calls Try.prog 48 #[.agg #[.int .i64 r, .int .i64 m]] w fun e w' => e = .returned (.bool (inB r m)) ∧ w.alloc (Obj.cells #[Value.int IntKind.i64 r, Value.int IntKind.i64 m] 34) = w' := by
  by_cases h : 1 ≤ m ∧ m ≤ 1000
  · obtain ⟨h1, h2⟩ := h
    have hl := l6B_t ⟨h1, h2⟩
    go_enter Try.func48, Try.ntmps48
    go_wp2_with (go_at_call 49; refine (c_l6In _ _ _ _).mono ?_; rintro e w1 ⟨rfl, rfl⟩)
    go_ret
    exact ⟨bd (by omega), rfl⟩
  · have hl := l6B_f h
    go_enter Try.func48, Try.ntmps48
    go_wp2_with (go_at_call 49; refine (c_l6In _ _ _ _).mono ?_; rintro e w1 ⟨rfl, rfl⟩)
    go_ret
    exact ⟨bf (by omega), rfl⟩
theorem c_has (r m x : Int) (hm : 1 ≤ m) (hm2 : m ≤ 1000) (w : World) : Calls Try.prog 61 #[.agg #[.int .i64 r, .int .i64 m], .int .i64 x] w fun e w' => e = .returned (.bool (x % m == r)) ∧ ((w.alloc (Obj.cells #[Value.int IntKind.i64 r, Value.int IntKind.i64 m] 34)).alloc (Obj.cells #[Value.int IntKind.i64 (x % m), Value.int IntKind.i64 m] 34)).drew = w' := by
  cases hx : (x % m == r)
  all_goals
    go_enter Try.func61, Try.ntmps61
    go_wp2
    go_region_held3 (fun w' => w'.cell? ⟨w.heap.size, 0, none⟩ = some (.int .i64 r) ∧ w'.cell? ⟨w.heap.size, 1, none⟩ = some (.int .i64 m)) (go_keep) (first | (go_at_call 62; refine (c_classAt _ _ hm hm2 _).mono ?_; rintro e w1 ⟨rfl, rfl⟩))
    go_wp2
    go_ret
    exact ⟨rfl, rfl⟩
theorem c_l1Has (r m x : Int) (hm : 1 ≤ m) (hm2 : m ≤ 1000) (w : World) : Calls Try.prog 81 #[.agg #[.int .i64 r, .int .i64 m], .int .i64 x] w fun e w' => e = .returned (.bool (x % m == r)) ∧ Below w.heap.size w w' := by
  go_enter Try.func81, Try.ntmps81
  go_wp2
  go_quiet ((go_at_call 69; exact Calls.quiet_of_same ((c_l1Rest _ _ hm hm2 _).mono fun e w' h => ⟨h.1, h.2.symm⟩)))
  go_wp2
  go_ret
  exact ⟨rfl, by repeat (first | exact Below.refl _ _ | assumption | refine Below.drew ?_ | refine bel_drewN ?_ _ | refine ba ?_ _ | refine bt2 ?_ (by assumption) | refine Below.setCell ?_ (by simp <;> omega) _)⟩
theorem c_first (r m x : Int) (hm : 1 ≤ m) (hm2 : m ≤ 1000) (hr : 0 ≤ r) (hr2 : r < m) (hx : -1000000 ≤ x) (hx2 : x ≤ 1000000) (w : World) : Calls Try.prog 80 #[.agg #[.int .i64 r, .int .i64 m], .int .i64 x] w fun e w' => e = .returned (.int .i64 (firI r m x)) ∧ w.alloc (Obj.cells #[Value.int IntKind.i64 r, Value.int IntKind.i64 m] 34) = w' := by
  have hb := emod_bd (r - x) m hm
  go_enter Try.func80, Try.ntmps80
  go_wp2_with (go_at_call 82; refine (c_restOf _ _ hm hm2 _).mono ?_; rintro e w1 ⟨rfl, rfl⟩)
  go_ret
  exact ⟨rfl, rfl⟩
end Go.Proofs.Ytgdpebnnmklbjaa
