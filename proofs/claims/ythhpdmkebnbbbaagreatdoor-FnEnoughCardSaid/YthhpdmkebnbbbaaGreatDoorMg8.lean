/- What the program's covers answers. -/
import Derived.Test.YthhpdmkebnbbbaaGreatDoorS9
import Derived.Deep.RegionHeld3
import Derived.Shelf.SlSortCmp.SmallK
namespace Go.Proofs.YthhpdmkebnbbbaaGreatDoor
open Go.RowKit
/-- one of the first k classes has x -/
def covK (zs : List Cl) (x : Int) : Nat → Bool
  | 0 => false
  | k + 1 => covK zs x k || (x % mAt zs k == rAt zs k)
def covB (zs : List Cl) (x : Int) : Bool := covK zs x zs.length
theorem covK_cnt (zs : List Cl) (x : Int) (k : Nat) : covK zs x k = !(cntK zs x k == 0) := by
  induction k with
  | zero => rfl
  | succ k ih =>
    have := cntK_bd zs x k
    simp only [covK, cntK, ih]
    by_cases h2 : x % mAt zs k = rAt zs k
    · have h3 : ¬ cntK zs x k + 1 = 0 := by omega
      simp [h2, h3]
    · simp [h2]
theorem covB_cnt (zs : List Cl) (x : Int) : covB zs x = !(cntN zs x == 0) := covK_cnt zs x _
theorem covK_mono (zs : List Cl) (x : Int) {k n : Nat} (h : k ≤ n) (hk : covK zs x k = true) : covK zs x n = true := by
  induction n with
  | zero =>
    obtain rfl : k = 0 := by omega
    exact hk
  | succ n ih =>
    by_cases he : k = n + 1
    · exact he ▸ hk
    · simp only [covK, ih (by omega), Bool.true_or]
set_option maxHeartbeats 400000 in
theorem c_covers (s : Option Addr) (n cap : Nat) (zs : List Cl) (x : Int) (hn : n ≤ 1048576) (ha : allB zs = true) (w : World) (hc : Cls w s n zs) : Calls Tryz.prog 89 #[.slice s n cap, .int .i64 x] w fun e w' => e = .returned (.bool (covB zs x)) ∧ Below w.heap.size w w' := by
  have hlen := hc.len
  have HL := Lib.hid hlen
  have HR := Lib.hid (show covB zs x = covK zs x n by rw [← hlen]; rfl)
  clear hlen
  go_enter Tryz.func89, Tryz.ntmps89
  go_wp2_with fail
  go_loopw [9] (fun i wr => ∃ (k : Nat), k ≤ n ∧ i = .int .i64 k ∧ covK zs x k = false ∧ Below w.heap.size w wr) (fun i _ => n - (intOf i).toNat)
  case atStart => exact ⟨0, Nat.zero_le _, rfl, rfl, Below.refl _ _⟩
  case round =>
    obtain ⟨k, hk, rfl, hq, hB⟩ := hrel
    have HQ := Lib.hid hq
    clear hq
    by_cases hlt : k < n
    · obtain ⟨m1, m2, _, _⟩ := inB_iff.1 (allB_at ha k (by rw [HL.out]; exact hlt))
      rcases (hc.keep hB).lies with h0 | ⟨b, off, rfl, hb', hcells⟩
      · omega
      obtain ⟨hx, hy⟩ := hcells k hlt
      clear hcells
      cases he : (x % mAt zs k == rAt zs k)
      · have HE := Lib.hid (show covK zs x (k + 1) = false by simp only [covK, HQ.out, he, Bool.false_or])
        go_wp2_with fail
        refine (c_has _ _ _ m1 m2 _).mono ?_
        rintro e w5 ⟨rfl, rfl⟩
        rw [he]
        go_wp2_with fail
        go_roundw
        case rel => exact ⟨k + 1, by omega, by go_num, HE.out, (ba (ba (ba hB _) _) _).drew⟩
        case measure => simp [intOf]; omega
      · have HE := Lib.hid (show covB zs x = true by rw [HR.out]; exact covK_mono zs x (show k + 1 ≤ n by omega) (by simp only [covK, he, Bool.or_true]))
        go_wp2_with fail
        refine (c_has _ _ _ m1 m2 _).mono ?_
        rintro e w5 ⟨rfl, rfl⟩
        rw [he]
        go_wp2_with fail
        go_ret
        exact ⟨congrArg (fun b => Ending.returned (.bool b)) HE.out.symm, (ba (ba (ba hB _) _) _).drew⟩
    · have hk' : k = n := by omega
      subst hk'
      go_wp2_with fail
      go_ret
      exact ⟨congrArg (fun b => Ending.returned (.bool b)) (HR.out.trans HQ.out).symm, hB⟩
end Go.Proofs.YthhpdmkebnbbbaaGreatDoor
namespace Go.Proofs.YthhpdmkebnbbbaaGreatDoor
open Go.RowKit
def cmpI (a b : Int) : Int := if a < b then -1 else if b < a then 1 else 0
theorem c_isNaN (x : Int) (w : World) : Calls Tryz.prog 72 #[.int .i64 x] w fun e w' => e = .returned (.bool false) ∧ w = w' := by
  go_enter Tryz.func72, Tryz.ntmps72
  go_wp2_with fail
  go_ret
  exact ⟨by simp, rfl⟩
theorem c_compare (a b : Int) (w : World) : Calls Tryz.prog 57 #[.int .i64 a, .int .i64 b] w fun e w' => e = .returned (.int .i64 (cmpI a b)) ∧ w = w' := by
  by_cases h1 : a < b
  · have HE := Lib.hid (show cmpI a b = -1 by simp [cmpI, h1])
    go_enter Tryz.func57, Tryz.ntmps57
    go_wp2_with (go_at_call 72; refine (c_isNaN _ _).mono ?_; rintro e w1 ⟨rfl, rfl⟩)
    go_ret
    exact ⟨ri HE.out.symm, rfl⟩
  · by_cases h2 : b < a
    · have HE := Lib.hid (show cmpI a b = 1 by simp [cmpI, h1, h2])
      go_enter Tryz.func57, Tryz.ntmps57
      go_wp2_with (go_at_call 72; refine (c_isNaN _ _).mono ?_; rintro e w1 ⟨rfl, rfl⟩)
      go_ret
      exact ⟨ri HE.out.symm, rfl⟩
    · have HE := Lib.hid (show cmpI a b = 0 by simp [cmpI, h1, h2])
      go_enter Tryz.func57, Tryz.ntmps57
      go_wp2_with (go_at_call 72; refine (c_isNaN _ _).mono ?_; rintro e w1 ⟨rfl, rfl⟩)
      go_ret
      exact ⟨ri HE.out.symm, rfl⟩
def orI (a b : Int) : Int := if a = 0 then b else a
set_option maxHeartbeats 400000 in
theorem c_or (a b : Int) (B : Nat) (w : World) (h0 : w.cell? ⟨B, 0, none⟩ = some (.int .i64 a)) (h1 : w.cell? ⟨B, 1, none⟩ = some (.int .i64 b)) : Calls Tryz.prog 56 #[.slice (some ⟨B, 0, none⟩) 2 2] w fun e w' => e = .returned (.int .i64 (orI a b)) ∧ w = w' := by
  go_enter Tryz.func56, Tryz.ntmps56
  go_wp2_with fail
  go_loopw [8] (fun i wr => ∃ (k : Nat), k ≤ 2 ∧ i = .int .i64 k ∧ (1 ≤ k → a = 0) ∧ (2 ≤ k → b = 0) ∧ wr = w) (fun i _ => 2 - (intOf i).toNat)
  case atStart => exact ⟨0, by omega, rfl, by omega, by omega, rfl⟩
  case round =>
    obtain ⟨k, hk, rfl, ha, hb, rfl⟩ := hrel
    have hc : k = 0 ∨ k = 1 ∨ k = 2 := by omega
    rcases hc with rfl | rfl | rfl
    · clear ha hb
      by_cases hz : a = 0
      · subst hz
        go_wp2_with fail
        go_roundw
        case rel =>
          refine ⟨1, by omega, by go_num, by simp, ?_⟩
          simp
        case measure => simp [intOf]
      · have HE := Lib.hid (show orI a b = a by simp [orI, hz])
        go_wp2_with fail
        go_ret
        exact ⟨ri HE.out.symm, rfl⟩
    · obtain rfl := ha (by omega)
      clear ha hb
      have HE := Lib.hid (show orI 0 b = b by simp [orI])
      by_cases hz : b = 0
      · subst hz
        go_wp2_with fail
        go_roundw
        case rel =>
          refine ⟨2, by omega, by go_num, by simp, ?_⟩
          simp
        case measure => simp [intOf]
      · go_wp2_with fail
        go_ret
        exact ⟨ri HE.out.symm, rfl⟩
    · obtain rfl := ha (by omega)
      obtain rfl := hb (by omega)
      clear ha hb
      have HE := Lib.hid (show orI 0 0 = 0 by simp [orI])
      go_wp2_with fail
      go_ret
      exact ⟨ri HE.out.symm, rfl⟩
theorem newbox3 {X w1 : World} {a b : Value} {t : TypeId} (hb : Below (X.alloc (.cells #[a, b] t)).heap.size (X.alloc (.cells #[a, b] t)) w1) :
    w1.cell? ⟨X.heap.size, 0, none⟩ = some a ∧ w1.cell? ⟨X.heap.size, 1, none⟩ = some b := ⟨kc hb 0, kc hb 1⟩
theorem new_pair (w : World) (A B : Obj) (a b : Value) (t : TypeId) :
    ((((w.alloc A).alloc B).alloc (.cells #[a, b] t)).drew).cell? ⟨w.heap.size + 1 + 1, 0, none⟩ = some a ∧ ((((w.alloc A).alloc B).alloc (.cells #[a, b] t)).drew).cell? ⟨w.heap.size + 1 + 1, 1, none⟩ = some b := by
  have nb := newbox3 (X := (w.alloc A).alloc B) (a := a) (b := b) (t := t) (Below.refl _ _)
  simp only [World.size_alloc] at nb
  exact ⟨keep_drew nb.1, keep_drew nb.2⟩
def modI (c d : Cl) : Int := orI (cmpI c.2 d.2) (cmpI c.1 d.1)
def modW (c d : Cl) (w : World) : World := (((w.alloc (Obj.cells #[Value.int IntKind.i64 c.1, Value.int IntKind.i64 c.2] 43)).alloc (Obj.cells #[Value.int IntKind.i64 d.1, Value.int IntKind.i64 d.2] 43)).alloc (.cells #[.int .i64 (cmpI c.2 d.2), .int .i64 (cmpI c.1 d.1)] 3)).drew
set_option maxHeartbeats 1000000 in
theorem c_byModulus (r m s n : Int) (w : World) : Calls Tryz.prog 32 #[.agg #[.int .i64 r, .int .i64 m], .agg #[.int .i64 s, .int .i64 n]] w fun e w' => e = .returned (.int .i64 (modI (r, m) (s, n))) ∧ modW (r, m) (s, n) w = w' := by
  go_enter Tryz.func32, Tryz.ntmps32
  go_wp2_with fail
  generalize hx : cmpI m n = x
  generalize hy : cmpI r s = y
  go_region_held3 (fun w' => w'.cell? ⟨w.heap.size, 0, none⟩ = some (.int .i64 r) ∧ w'.cell? ⟨w.heap.size, 1, none⟩ = some (.int .i64 m) ∧ w'.cell? ⟨w.heap.size + 1, 0, none⟩ = some (.int .i64 s) ∧ w'.cell? ⟨w.heap.size + 1, 1, none⟩ = some (.int .i64 n)) (go_keep) (first | (go_at_call 57; refine (c_compare _ _ _).mono ?_; rintro e w1 ⟨rfl, rfl⟩) | (go_at_call 56; refine (c_or _ _ _ _ (new_pair _ _ _ _ _ _).1 (new_pair _ _ _ _ _ _).2).mono ?_; rintro e w1 ⟨rfl, rfl⟩) | fail)
  all_goals
    go_wp2_with fail
    go_ret
    subst hx
    subst hy
    exact ⟨rfl, rfl⟩
end Go.Proofs.YthhpdmkebnbbbaaGreatDoor
namespace Go.Proofs.YthhpdmkebnbbbaaGreatDoor
open Go.RowKit
open Go.Sort
def encC (c : Cl) : List Value := [.int .i64 c.1, .int .i64 c.2]
theorem modW_grow (c d : Cl) (w : World) : ∃ os, modW c d w = grow (w.drewN 1) os := by
  refine ⟨((#[(Obj.cells #[Value.int IntKind.i64 c.1, Value.int IntKind.i64 c.2] 43)] ++ #[(Obj.cells #[Value.int IntKind.i64 d.1, Value.int IntKind.i64 d.2] 43)]) ++ #[.cells #[.int .i64 (cmpI c.2 d.2), .int .i64 (cmpI c.1 d.1)] 3] : Array Obj), ?_⟩
  unfold modW
  rw [alloc_eq_grow, alloc_eq_grow, alloc_eq_grow, grow_grow, grow_grow, drew_grow]
  rfl
theorem cmp_lays (blk off size : Nat) (w : World) : CmpLays (α := Cl) Tryz.prog 32 #[] encC 2 modI blk off size w := by
  intro m os dk _ x y
  refine (c_byModulus x.1 x.2 y.1 y.2 _).mono ?_
  rintro e w' ⟨rfl, rfl⟩
  obtain ⟨os', h⟩ := modW_grow x y (sortWorldK encC 2 w blk off m dk os)
  exact ⟨rfl, 1, os', h⟩
end Go.Proofs.YthhpdmkebnbbbaaGreatDoor
