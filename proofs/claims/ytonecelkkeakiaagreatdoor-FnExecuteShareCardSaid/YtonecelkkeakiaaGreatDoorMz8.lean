/- How the program compares classes. -/
import Derived.Test.YtonecelkkeakiaaGreatDoorMz7
import Derived.Deep.RegionHeld3
import Derived.Test.YtonecelkkeakiaaGreatDoorS5
import Derived.Test.YtonecelkkeakiaaGreatDoorR4
import Derived.Test.YtonecelkkeakiaaGreatDoorMz5
namespace Go.Proofs.YtonecelkkeakiaaGreatDoor
open Go.RowKit
def cmpI (a b : Int) : Int := if a < b then -1 else if b < a then 1 else 0
theorem c_isNaN (x : Int) (w : World) : Calls Tryz.prog 269 #[.int .i64 x] w fun e w' => e = .returned (.bool false) ∧ w = w' := by
  go_enter Tryz.func269, Tryz.ntmps269
  go_wp2_with fail
  go_ret
  exact ⟨by simp, rfl⟩
theorem c_compare (a b : Int) (w : World) : Calls Tryz.prog 222 #[.int .i64 a, .int .i64 b] w fun e w' => e = .returned (.int .i64 (cmpI a b)) ∧ w = w' := by
  by_cases h1 : a < b
  · have HE := Lib.hid (show cmpI a b = -1 by simp [cmpI, h1])
    go_enter Tryz.func222, Tryz.ntmps222
    go_wp2_with (go_at_call 269; refine (c_isNaN _ _).mono ?_; rintro e w1 ⟨rfl, rfl⟩)
    go_ret
    exact ⟨ri HE.out.symm, rfl⟩
  · by_cases h2 : b < a
    · have HE := Lib.hid (show cmpI a b = 1 by simp [cmpI, h1, h2])
      go_enter Tryz.func222, Tryz.ntmps222
      go_wp2_with (go_at_call 269; refine (c_isNaN _ _).mono ?_; rintro e w1 ⟨rfl, rfl⟩)
      go_ret
      exact ⟨ri HE.out.symm, rfl⟩
    · have HE := Lib.hid (show cmpI a b = 0 by simp [cmpI, h1, h2])
      go_enter Tryz.func222, Tryz.ntmps222
      go_wp2_with (go_at_call 269; refine (c_isNaN _ _).mono ?_; rintro e w1 ⟨rfl, rfl⟩)
      go_ret
      exact ⟨ri HE.out.symm, rfl⟩
def orI (a b : Int) : Int := if a = 0 then b else a
set_option maxHeartbeats 400000 in
theorem c_or (a b : Int) (B : Nat) (w : World) (h0 : w.cell? ⟨B, 0, none⟩ = some (.int .i64 a)) (h1 : w.cell? ⟨B, 1, none⟩ = some (.int .i64 b)) : Calls Tryz.prog 221 #[.slice (some ⟨B, 0, none⟩) 2 2] w fun e w' => e = .returned (.int .i64 (orI a b)) ∧ w = w' := by
  go_enter Tryz.func221, Tryz.ntmps221
  go_wp2_with fail
  go_loopw [8] (fun i wr => ∃ (k : Nat), k ≤ 2 ∧ i = .int .i64 k ∧ (1 ≤ k → a = 0) ∧ (2 ≤ k → b = 0) ∧ wr = w) (fun i _ => 2 - (intOf i).toNat)
  case atStart => exact ⟨0, by omega, rfl, by omega, by omega, rfl⟩
  case round =>
    obtain ⟨k, hk, rfl, ha, hb, rfl⟩ := hrel
    have hc : k = 0 ∨ k = 1 ∨ k = 2 := by omega
    rcases hc with rfl | rfl | rfl
    · clear ha hb
      by_cases hz : a = 0
      · subst hz
        go_wp2_with fail
        go_roundw
        case rel =>
          refine ⟨1, by omega, by go_num, by simp, ?_⟩
          simp
        case measure => simp [intOf]
      · have HE := Lib.hid (show orI a b = a by simp [orI, hz])
        go_wp2_with fail
        go_ret
        exact ⟨ri HE.out.symm, rfl⟩
    · obtain rfl := ha (by omega)
      clear ha hb
      have HE := Lib.hid (show orI 0 b = b by simp [orI])
      by_cases hz : b = 0
      · subst hz
        go_wp2_with fail
        go_roundw
        case rel =>
          refine ⟨2, by omega, by go_num, by simp, ?_⟩
          simp
        case measure => simp [intOf]
      · go_wp2_with fail
        go_ret
        exact ⟨ri HE.out.symm, rfl⟩
    · obtain rfl := ha (by omega)
      obtain rfl := hb (by omega)
      clear ha hb
      have HE := Lib.hid (show orI 0 0 = 0 by simp [orI])
      go_wp2_with fail
      go_ret
      exact ⟨ri HE.out.symm, rfl⟩
theorem newbox3 {X w1 : World} {a b : Value} {t : TypeId} (hb : Below (X.alloc (.cells #[a, b] t)).heap.size (X.alloc (.cells #[a, b] t)) w1) :
    w1.cell? ⟨X.heap.size, 0, none⟩ = some a ∧ w1.cell? ⟨X.heap.size, 1, none⟩ = some b := ⟨kc hb 0, kc hb 1⟩
theorem new_pair (w : World) (A B : Obj) (a b : Value) (t : TypeId) :
    ((((w.alloc A).alloc B).alloc (.cells #[a, b] t)).drew).cell? ⟨w.heap.size + 1 + 1, 0, none⟩ = some a ∧ ((((w.alloc A).alloc B).alloc (.cells #[a, b] t)).drew).cell? ⟨w.heap.size + 1 + 1, 1, none⟩ = some b := by
  have nb := newbox3 (X := (w.alloc A).alloc B) (a := a) (b := b) (t := t) (Below.refl _ _)
  simp only [World.size_alloc] at nb
  exact ⟨keep_drew nb.1, keep_drew nb.2⟩
def modI (c d : Cl) : Int := orI (cmpI c.2 d.2) (cmpI c.1 d.1)
def modW (c d : Cl) (w : World) : World := (((w.alloc (Obj.cells #[Value.int IntKind.i64 c.1, Value.int IntKind.i64 c.2] 41)).alloc (Obj.cells #[Value.int IntKind.i64 d.1, Value.int IntKind.i64 d.2] 41)).alloc (.cells #[.int .i64 (cmpI c.2 d.2), .int .i64 (cmpI c.1 d.1)] 3)).drew
set_option maxHeartbeats 1000000 in
theorem c_byModulus (r m s n : Int) (w : World) : Calls Tryz.prog 172 #[.agg #[.int .i64 r, .int .i64 m], .agg #[.int .i64 s, .int .i64 n]] w fun e w' => e = .returned (.int .i64 (modI (r, m) (s, n))) ∧ modW (r, m) (s, n) w = w' := by
  go_enter Tryz.func172, Tryz.ntmps172
  go_wp2_with fail
  generalize hx : cmpI m n = x
  generalize hy : cmpI r s = y
  go_region_held3 (fun w' => w'.cell? ⟨w.heap.size, 0, none⟩ = some (.int .i64 r) ∧ w'.cell? ⟨w.heap.size, 1, none⟩ = some (.int .i64 m) ∧ w'.cell? ⟨w.heap.size + 1, 0, none⟩ = some (.int .i64 s) ∧ w'.cell? ⟨w.heap.size + 1, 1, none⟩ = some (.int .i64 n)) (go_keep) (first | (go_at_call 222; refine (c_compare _ _ _).mono ?_; rintro e w1 ⟨rfl, rfl⟩) | (go_at_call 221; refine (c_or _ _ _ _ (new_pair _ _ _ _ _ _).1 (new_pair _ _ _ _ _ _).2).mono ?_; rintro e w1 ⟨rfl, rfl⟩) | fail)
  all_goals
    go_wp2_with fail
    go_ret
    subst hx
    subst hy
    exact ⟨rfl, rfl⟩
end Go.Proofs.YtonecelkkeakiaaGreatDoor
namespace Go.Proofs.YtonecelkkeakiaaGreatDoor
open Go.RowKit Go.Shelf
attribute [local go_sem] Oper.semAt_some
/-- how often x stands in a list -/
def occ (ys : List Int) (x : Int) : Int := match ys with
  | [] => 0
  | y :: t => (if y = x then 1 else 0) + occ t x
theorem occ_append (a b : List Int) (x : Int) : occ (a ++ b) x = occ a x + occ b x := by
  induction a with
  | nil => simp [occ]
  | cons y t ih => simp only [List.cons_append, occ, ih]; omega
theorem occ_one (y x : Int) : occ [y] x = if y = x then 1 else 0 := by simp [occ]
theorem occ_bd (ys : List Int) (x : Int) : 0 ≤ occ ys x ∧ occ ys x ≤ ys.length := by
  induction ys with
  | nil => simp [occ]
  | cons y t ih => simp only [occ, List.length_cons]; split <;> omega
theorem numK_0 {r m : Int} (h0 : 0 ≤ r) (h1 : r < m) (i : Nat) : numK r m 0 i = r + (i : Int) * m := by
  unfold numK firI; rw [Int.sub_zero, Int.emod_eq_of_lt h0 h1, Int.zero_add]
theorem occ_seq {r m : Int} (m1 : 1 ≤ m) (h0 : 0 ≤ r) (h1 : r < m) (x : Int) (hx : 0 ≤ x) (K : Nat) : occ (seqTo (numK r m 0) K) x = if x % m = r ∧ x < numK r m 0 K then 1 else 0 := by
  have hdiv := Int.mul_ediv_add_emod x m
  have hmb := emod_bd x m m1
  induction K with
  | zero =>
    have hlt : ¬ (x % m = r ∧ x < numK r m 0 0) := by
      rw [numK_0 h0 h1]
      rintro ⟨e1, e2⟩
      simp at e2
      have := Int.emod_eq_of_lt hx (show x < m by omega)
      omega
    rw [if_neg hlt]; rfl
  | succ K ih =>
    rw [seqTo_succ, occ_append, ih, occ_one, numK_0 h0 h1 (K + 1), numK_0 h0 h1 K]
    have hK : ((K + 1 : Nat) : Int) * m = (K : Int) * m + m := by rw [Int.natCast_add, Int.add_mul]; simp
    rw [hK]
    by_cases he : x % m = r
    · by_cases h2 : x < r + (K : Int) * m
      · rw [if_pos ⟨he, h2⟩, if_neg (by omega), if_pos ⟨he, by omega⟩]; rfl
      · rw [if_neg (fun h => h2 h.2)]
        by_cases h3 : x < r + ((K : Int) * m + m)
        · have hq : x / m = (K : Int) := by
            have e1 : m * (x / m) < m * ((K : Int) + 1) := by rw [Int.mul_add, Int.mul_one, Int.mul_comm m (K : Int)]; omega
            have e2 : m * ((K : Int) - 1) < m * (x / m) := by rw [Int.mul_sub, Int.mul_one, Int.mul_comm m (K : Int)]; omega
            have e3 := Int.lt_of_mul_lt_mul_left e1 (by omega)
            have e4 := Int.lt_of_mul_lt_mul_left e2 (by omega)
            omega
          rw [hq, Int.mul_comm m (K : Int)] at hdiv
          rw [if_pos (by omega), if_pos ⟨he, by omega⟩]; rfl
        · rw [if_neg (by omega), if_neg (fun h => h3 h.2)]; rfl
    · have hne : ¬ (r + (K : Int) * m = x) := by
        intro e
        apply he
        rw [← e, Int.add_mul_emod_self_right]
        exact Int.emod_eq_of_lt h0 h1
      rw [if_neg (fun h => he h.1), if_neg hne, if_neg (fun h => he h.1)]; rfl
theorem occ_all {r m P : Int} (m1 : 1 ≤ m) (h0 : 0 ≤ r) (h1 : r < m) {ys : List Int} (hS : NumAll r m 0 P ys) (x : Int) (hx : 0 ≤ x) (hP : x < P) : occ ys x = if x % m = r then 1 else 0 := by
  obtain ⟨K, rfl, hb, _⟩ := hS
  rw [occ_seq m1 h0 h1 x hx]
  by_cases he : x % m = r
  · rw [if_pos ⟨he, by omega⟩, if_pos he]
  · rw [if_neg (fun h => he h.1), if_neg he]
/-- the counts when k classes are done, and of the next one the numbers ys -/
def tmpL (zs : List Cl) (P k : Nat) (ys : List Int) : List Int := (List.range P).map fun (x : Nat) => cntK zs x k + occ ys x
theorem tmpL_length (zs : List Cl) (P k : Nat) (ys : List Int) : (tmpL zs P k ys).length = P := by simp [tmpL]
theorem tmpL_at (zs : List Cl) (P k : Nat) (ys : List Int) (j : Nat) (h : j < P) : (tmpL zs P k ys)[j]?.getD 0 = cntK zs j k + occ ys j := by simp [tmpL, h]
theorem tmpL_set (zs : List Cl) (P k : Nat) (ys : List Int) (j : Nat) (h : j < P) : (tmpL zs P k ys).set j (cntK zs j k + occ ys j + 1) = tmpL zs P k (ys ++ [(j : Int)]) := by
  apply List.ext_getElem?
  intro i
  by_cases hi : i < P
  · rw [List.getElem?_set]
    by_cases e : j = i
    · subst e
      simp [tmpL, h, occ_append, occ_one]; omega
    · rw [if_neg e]
      have hne : ¬ ((j : Int) = (i : Int)) := by omega
      simp [tmpL, hi, occ_append, occ_one, hne]
  · rw [List.getElem?_eq_none (by rw [List.length_set, tmpL_length]; omega), List.getElem?_eq_none (by rw [tmpL_length]; omega)]
theorem tmpL_next {zs : List Cl} {P k : Nat} {ys : List Int} (hi : inB (rAt zs k) (mAt zs k) = true) (hS : NumAll (rAt zs k) (mAt zs k) 0 P ys) : tmpL zs P k ys = tmpL zs P (k + 1) [] := by
  obtain ⟨m1, _, r1, r2⟩ := inB_iff.1 hi
  apply List.ext_getElem?
  intro i
  by_cases h : i < P
  · simp [tmpL, h, cntK, occ, occ_all m1 r1 r2 hS i (by omega) (by omega)]
  · rw [List.getElem?_eq_none (by rw [tmpL_length]; omega), List.getElem?_eq_none (by rw [tmpL_length]; omega)]
theorem tmpL_zero (zs : List Cl) (P : Nat) : tmpL zs P 0 [] = List.replicate P 0 := by
  apply List.ext_getElem?
  intro i
  by_cases h : i < P <;> simp [tmpL, cntK, occ, h]
theorem tmpL_all {zs : List Cl} {P : Nat} (hP : perI zs = (P : Int)) : tmpL zs P zs.length [] = timL zs := by
  simp [tmpL, timL, hP, cntN, occ]
end Go.Proofs.YtonecelkkeakiaaGreatDoor
