/- Contract of SystemTimes in the program: each class counts up its numbers, handed out by an iterator. -/
import Derived.Test.YtgdpebnnmklbjaaS5
import Derived.Test.YtgdpebnnmklbjaaR4
import Derived.Test.YtgdpebnnmklbjaaMarks
namespace Go.Proofs.Ytgdpebnnmklbjaa
open Go.RowKit Go.Shelf
attribute [local go_sem] Oper.semAt_some
/-- how often x stands in a list -/
def occ (ys : List Int) (x : Int) : Int := match ys with
  | [] => 0
  | y :: t => (if y = x then 1 else 0) + occ t x
theorem occ_append (a b : List Int) (x : Int) : occ (a ++ b) x = occ a x + occ b x := by
  induction a with
  | nil => simp [occ]
  | cons y t ih => simp only [List.cons_append, occ, ih]; omega
theorem occ_one (y x : Int) : occ [y] x = if y = x then 1 else 0 := by simp [occ]
theorem occ_bd (ys : List Int) (x : Int) : 0 ≤ occ ys x ∧ occ ys x ≤ ys.length := by
  induction ys with
  | nil => simp [occ]
  | cons y t ih => simp only [occ, List.length_cons]; split <;> omega
theorem numK_0 {r m : Int} (h0 : 0 ≤ r) (h1 : r < m) (i : Nat) : numK r m 0 i = r + (i : Int) * m := by
  unfold numK firI; rw [Int.sub_zero, Int.emod_eq_of_lt h0 h1, Int.zero_add]
theorem occ_seq {r m : Int} (m1 : 1 ≤ m) (h0 : 0 ≤ r) (h1 : r < m) (x : Int) (hx : 0 ≤ x) (K : Nat) : occ (seqTo (numK r m 0) K) x = if x % m = r ∧ x < numK r m 0 K then 1 else 0 := by
  have hdiv := Int.mul_ediv_add_emod x m
  have hmb := emod_bd x m m1
  induction K with
  | zero =>
    have hlt : ¬ (x % m = r ∧ x < numK r m 0 0) := by
      rw [numK_0 h0 h1]
      rintro ⟨e1, e2⟩
      simp at e2
      have := Int.emod_eq_of_lt hx (show x < m by omega)
      omega
    rw [if_neg hlt]; rfl
  | succ K ih =>
    rw [seqTo_succ, occ_append, ih, occ_one, numK_0 h0 h1 (K + 1), numK_0 h0 h1 K]
    have hK : ((K + 1 : Nat) : Int) * m = (K : Int) * m + m := by rw [Int.natCast_add, Int.add_mul]; simp
    rw [hK]
    by_cases he : x % m = r
    · by_cases h2 : x < r + (K : Int) * m
      · rw [if_pos ⟨he, h2⟩, if_neg (by omega), if_pos ⟨he, by omega⟩]; rfl
      · rw [if_neg (fun h => h2 h.2)]
        by_cases h3 : x < r + ((K : Int) * m + m)
        · have hq : x / m = (K : Int) := by
            have e1 : m * (x / m) < m * ((K : Int) + 1) := by rw [Int.mul_add, Int.mul_one, Int.mul_comm m (K : Int)]; omega
            have e2 : m * ((K : Int) - 1) < m * (x / m) := by rw [Int.mul_sub, Int.mul_one, Int.mul_comm m (K : Int)]; omega
            have e3 := Int.lt_of_mul_lt_mul_left e1 (by omega)
            have e4 := Int.lt_of_mul_lt_mul_left e2 (by omega)
            omega
          rw [hq, Int.mul_comm m (K : Int)] at hdiv
          rw [if_pos (by omega), if_pos ⟨he, by omega⟩]; rfl
        · rw [if_neg (by omega), if_neg (fun h => h3 h.2)]; rfl
    · have hne : ¬ (r + (K : Int) * m = x) := by
        intro e
        apply he
        rw [← e, Int.add_mul_emod_self_right]
        exact Int.emod_eq_of_lt h0 h1
      rw [if_neg (fun h => he h.1), if_neg hne, if_neg (fun h => he h.1)]; rfl
theorem occ_all {r m P : Int} (m1 : 1 ≤ m) (h0 : 0 ≤ r) (h1 : r < m) {ys : List Int} (hS : NumAll r m 0 P ys) (x : Int) (hx : 0 ≤ x) (hP : x < P) : occ ys x = if x % m = r then 1 else 0 := by
  obtain ⟨K, rfl, hb, _⟩ := hS
  rw [occ_seq m1 h0 h1 x hx]
  by_cases he : x % m = r
  · rw [if_pos ⟨he, by omega⟩, if_pos he]
  · rw [if_neg (fun h => he h.1), if_neg he]
/-- the counts when k classes are done, and of the next one the numbers ys -/
def tmpL (zs : List Cl) (P k : Nat) (ys : List Int) : List Int := (List.range P).map fun (x : Nat) => cntK zs x k + occ ys x
theorem tmpL_length (zs : List Cl) (P k : Nat) (ys : List Int) : (tmpL zs P k ys).length = P := by simp [tmpL]
theorem tmpL_at (zs : List Cl) (P k : Nat) (ys : List Int) (j : Nat) (h : j < P) : (tmpL zs P k ys)[j]?.getD 0 = cntK zs j k + occ ys j := by simp [tmpL, h]
theorem tmpL_set (zs : List Cl) (P k : Nat) (ys : List Int) (j : Nat) (h : j < P) : (tmpL zs P k ys).set j (cntK zs j k + occ ys j + 1) = tmpL zs P k (ys ++ [(j : Int)]) := by
  apply List.ext_getElem?
  intro i
  by_cases hi : i < P
  · rw [List.getElem?_set]
    by_cases e : j = i
    · subst e
      simp [tmpL, h, occ_append, occ_one]; omega
    · rw [if_neg e]
      have hne : ¬ ((j : Int) = (i : Int)) := by omega
      simp [tmpL, hi, occ_append, occ_one, hne]
  · rw [List.getElem?_eq_none (by rw [List.length_set, tmpL_length]; omega), List.getElem?_eq_none (by rw [tmpL_length]; omega)]
theorem tmpL_next {zs : List Cl} {P k : Nat} {ys : List Int} (hi : inB (rAt zs k) (mAt zs k) = true) (hS : NumAll (rAt zs k) (mAt zs k) 0 P ys) : tmpL zs P k ys = tmpL zs P (k + 1) [] := by
  obtain ⟨m1, _, r1, r2⟩ := inB_iff.1 hi
  apply List.ext_getElem?
  intro i
  by_cases h : i < P
  · simp [tmpL, h, cntK, occ, occ_all m1 r1 r2 hS i (by omega) (by omega)]
  · rw [List.getElem?_eq_none (by rw [tmpL_length]; omega), List.getElem?_eq_none (by rw [tmpL_length]; omega)]
theorem tmpL_zero (zs : List Cl) (P : Nat) : tmpL zs P 0 [] = List.replicate P 0 := by
  apply List.ext_getElem?
  intro i
  by_cases h : i < P <;> simp [tmpL, cntK, occ, h]
theorem tmpL_all {zs : List Cl} {P : Nat} (hP : perI zs = (P : Int)) : tmpL zs P zs.length [] = timL zs := by
  simp [tmpL, timL, hP, cntN, occ]
end Go.Proofs.Ytgdpebnnmklbjaa
