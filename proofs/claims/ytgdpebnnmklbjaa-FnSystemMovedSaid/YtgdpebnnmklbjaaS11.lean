/- How the program compares classes. -/
import Derived.Test.YtgdpebnnmklbjaaS10
import Derived.Deep.RegionHeld3
namespace Go.Proofs.Ytgdpebnnmklbjaa
open Go.RowKit
def cmpI (a b : Int) : Int := if a < b then -1 else if b < a then 1 else 0
theorem c_isNaN (x : Int) (w : World) : Calls Try.prog 99 #[.int .i64 x] w fun e w' => e = .returned (.bool false) ∧ w = w' := by
  go_enter Try.func99, Try.ntmps99
  go_wp2_with fail
  go_ret
  exact ⟨by simp, rfl⟩
theorem c_compare (a b : Int) (w : World) : Calls Try.prog 90 #[.int .i64 a, .int .i64 b] w fun e w' => e = .returned (.int .i64 (cmpI a b)) ∧ w = w' := by
  by_cases h1 : a < b
  · have HE := Lib.hid (show cmpI a b = -1 by simp [cmpI, h1])
    go_enter Try.func90, Try.ntmps90
    go_wp2_with (go_at_call 99; refine (c_isNaN _ _).mono ?_; rintro e w1 ⟨rfl, rfl⟩)
    go_ret
    exact ⟨ri HE.out.symm, rfl⟩
  · by_cases h2 : b < a
    · have HE := Lib.hid (show cmpI a b = 1 by simp [cmpI, h1, h2])
      go_enter Try.func90, Try.ntmps90
      go_wp2_with (go_at_call 99; refine (c_isNaN _ _).mono ?_; rintro e w1 ⟨rfl, rfl⟩)
      go_ret
      exact ⟨ri HE.out.symm, rfl⟩
    · have HE := Lib.hid (show cmpI a b = 0 by simp [cmpI, h1, h2])
      go_enter Try.func90, Try.ntmps90
      go_wp2_with (go_at_call 99; refine (c_isNaN _ _).mono ?_; rintro e w1 ⟨rfl, rfl⟩)
      go_ret
      exact ⟨ri HE.out.symm, rfl⟩
def orI (a b : Int) : Int := if a = 0 then b else a
set_option maxHeartbeats 400000 in
theorem c_or (a b : Int) (B : Nat) (w : World) (h0 : w.cell? ⟨B, 0, none⟩ = some (.int .i64 a)) (h1 : w.cell? ⟨B, 1, none⟩ = some (.int .i64 b)) : Calls Try.prog 89 #[.slice (some ⟨B, 0, none⟩) 2 2] w fun e w' => e = .returned (.int .i64 (orI a b)) ∧ w = w' := by
  go_enter Try.func89, Try.ntmps89
  go_wp2_with fail
  go_loopw [8] (fun i wr => ∃ (k : Nat), k ≤ 2 ∧ i = .int .i64 k ∧ (1 ≤ k → a = 0) ∧ (2 ≤ k → b = 0) ∧ wr = w) (fun i _ => 2 - (intOf i).toNat)
  case atStart => exact ⟨0, by omega, rfl, by omega, by omega, rfl⟩
  case round =>
    obtain ⟨k, hk, rfl, ha, hb, rfl⟩ := hrel
    have hc : k = 0 ∨ k = 1 ∨ k = 2 := by omega
    rcases hc with rfl | rfl | rfl
    · clear ha hb
      by_cases hz : a = 0
      · subst hz
        go_wp2_with fail
        go_roundw
        case rel =>
          refine ⟨1, by omega, by go_num, by simp, ?_⟩
          simp
        case measure => simp [intOf]
      · have HE := Lib.hid (show orI a b = a by simp [orI, hz])
        go_wp2_with fail
        go_ret
        exact ⟨ri HE.out.symm, rfl⟩
    · obtain rfl := ha (by omega)
      clear ha hb
      have HE := Lib.hid (show orI 0 b = b by simp [orI])
      by_cases hz : b = 0
      · subst hz
        go_wp2_with fail
        go_roundw
        case rel =>
          refine ⟨2, by omega, by go_num, by simp, ?_⟩
          simp
        case measure => simp [intOf]
      · go_wp2_with fail
        go_ret
        exact ⟨ri HE.out.symm, rfl⟩
    · obtain rfl := ha (by omega)
      obtain rfl := hb (by omega)
      clear ha hb
      have HE := Lib.hid (show orI 0 0 = 0 by simp [orI])
      go_wp2_with fail
      go_ret
      exact ⟨ri HE.out.symm, rfl⟩
theorem newbox3 {X w1 : World} {a b : Value} {t : TypeId} (hb : Below (X.alloc (.cells #[a, b] t)).heap.size (X.alloc (.cells #[a, b] t)) w1) :
    w1.cell? ⟨X.heap.size, 0, none⟩ = some a ∧ w1.cell? ⟨X.heap.size, 1, none⟩ = some b := ⟨kc hb 0, kc hb 1⟩
theorem new_pair (w : World) (A B : Obj) (a b : Value) (t : TypeId) :
    ((((w.alloc A).alloc B).alloc (.cells #[a, b] t)).drew).cell? ⟨w.heap.size + 1 + 1, 0, none⟩ = some a ∧ ((((w.alloc A).alloc B).alloc (.cells #[a, b] t)).drew).cell? ⟨w.heap.size + 1 + 1, 1, none⟩ = some b := by
  have nb := newbox3 (X := (w.alloc A).alloc B) (a := a) (b := b) (t := t) (Below.refl _ _)
  simp only [World.size_alloc] at nb
  exact ⟨keep_drew nb.1, keep_drew nb.2⟩
def modI (c d : Cl) : Int := orI (cmpI c.2 d.2) (cmpI c.1 d.1)
def modW (c d : Cl) (w : World) : World := (((w.alloc (Obj.cells #[Value.int IntKind.i64 c.1, Value.int IntKind.i64 c.2] 34)).alloc (Obj.cells #[Value.int IntKind.i64 d.1, Value.int IntKind.i64 d.2] 34)).alloc (.cells #[.int .i64 (cmpI c.2 d.2), .int .i64 (cmpI c.1 d.1)] 3)).drew
set_option maxHeartbeats 1000000 in
theorem c_byModulus (r m s n : Int) (w : World) : Calls Try.prog 74 #[.agg #[.int .i64 r, .int .i64 m], .agg #[.int .i64 s, .int .i64 n]] w fun e w' => e = .returned (.int .i64 (modI (r, m) (s, n))) ∧ modW (r, m) (s, n) w = w' := by
  go_enter Try.func74, Try.ntmps74
  go_wp2_with fail
  generalize hx : cmpI m n = x
  generalize hy : cmpI r s = y
  go_region_held3 (fun w' => w'.cell? ⟨w.heap.size, 0, none⟩ = some (.int .i64 r) ∧ w'.cell? ⟨w.heap.size, 1, none⟩ = some (.int .i64 m) ∧ w'.cell? ⟨w.heap.size + 1, 0, none⟩ = some (.int .i64 s) ∧ w'.cell? ⟨w.heap.size + 1, 1, none⟩ = some (.int .i64 n)) (go_keep) (first | (go_at_call 90; refine (c_compare _ _ _).mono ?_; rintro e w1 ⟨rfl, rfl⟩) | (go_at_call 89; refine (c_or _ _ _ _ (new_pair _ _ _ _ _ _).1 (new_pair _ _ _ _ _ _).2).mono ?_; rintro e w1 ⟨rfl, rfl⟩) | fail)
  all_goals
    go_wp2_with fail
    go_ret
    subst hx
    subst hy
    exact ⟨rfl, rfl⟩
end Go.Proofs.Ytgdpebnnmklbjaa
