/- How many classes of a system have a number; the model's SystemTimes. -/
import Derived.Test.YtnmlljhgilpocaaDoorS1
import Derived.Test.YtnmlljhgilpocaaDoorStepA
import Derived.Test.YtnmlljhgilpocaaDoorR4
import Derived.Test.YtnmlljhgilpocaaDoorMarks
namespace Go.Proofs.YtnmlljhgilpocaaDoor
open Go.RowKit
/-- how many of the first k classes have x -/
def cntK (zs : List Cl) (x : Int) : Nat → Int
  | 0 => 0
  | k + 1 => cntK zs x k + (if x % mAt zs k = rAt zs k then 1 else 0)
def cntN (zs : List Cl) (x : Int) : Int := cntK zs x zs.length
theorem cntK_bd (zs : List Cl) (x : Int) (k : Nat) : 0 ≤ cntK zs x k ∧ cntK zs x k ≤ k := by
  induction k with
  | zero => simp [cntK]
  | succ k ih => simp only [cntK]; split <;> omega
def timL (zs : List Cl) : List Int := (List.range (perI zs).toNat).map fun (x : Nat) => cntN zs x
def timR (zs : List Cl) : List Int := bif sysB zs then timL zs else []
theorem timL_length (zs : List Cl) : (timL zs).length = (perI zs).toNat := by simp [timL]
theorem timL_take (zs : List Cl) (k : Nat) (h : k < (perI zs).toNat) : (timL zs).take (k + 1) = (timL zs).take k ++ [cntN zs k] := by
  rw [List.take_succ_eq_append_getElem (by simp [timL, h])]
  simp [timL]
theorem timR_t {zs : List Cl} (h : sysB zs = true) : timR zs = timL zs := by simp [timR, h]
theorem timR_f {zs : List Cl} (h : sysB zs = false) : timR zs = [] := by simp [timR, h]
theorem timR_le (zs : List Cl) : (timR zs).length ≤ 1000 := by
  cases h : sysB zs
  · simp [timR_f h]
  · rw [timR_t h, timL_length]
    obtain ⟨_, _, _, _, _, h2⟩ := sysB_facts h
    omega
theorem infoI : (Tryd.prog.info? 3).map (fun i => (i.zero, i.size, i.bytes)) = some (some (.int .i64 0), 1, 8) := by kernel_rfl
theorem OwnI.nil (w : World) (base : Nat) (e : TypeId) : OwnI w base e (.slice none 0 0) [] := World.ownsRow_nil w base e 1
theorem one_new (w : World) (x : Value) (t : TypeId) : ∀ j u, [x][j]? = some u → (w.alloc (.cells #[x] t)).cell? ((⟨w.heap.size, 0, none⟩ : Addr).add j) = some u := by
  intro j u h
  match j, h with
  | 0, h => simpa [Addr.add] using h
/-- it returns a list of numbers of its own, and whether it succeeded -/
def RetI (w : World) (zs : List Int) (ok : Bool) (e : Ending) (w' : World) : Prop := ∃ v, e = .returned (.tuple #[v, .bool ok]) ∧ OwnI w' w.heap.size 3 v zs ∧ Below w.heap.size w w'
end Go.Proofs.YtnmlljhgilpocaaDoor
namespace Go.Proofs.YtnmlljhgilpocaaDoor
open Go.RowKit Go.Shelf
attribute [local go_sem] Oper.semAt_some
/-- how often x stands in a list -/
def occ (ys : List Int) (x : Int) : Int := match ys with
  | [] => 0
  | y :: t => (if y = x then 1 else 0) + occ t x
theorem occ_append (a b : List Int) (x : Int) : occ (a ++ b) x = occ a x + occ b x := by
  induction a with
  | nil => simp [occ]
  | cons y t ih => simp only [List.cons_append, occ, ih]; omega
theorem occ_one (y x : Int) : occ [y] x = if y = x then 1 else 0 := by simp [occ]
theorem occ_bd (ys : List Int) (x : Int) : 0 ≤ occ ys x ∧ occ ys x ≤ ys.length := by
  induction ys with
  | nil => simp [occ]
  | cons y t ih => simp only [occ, List.length_cons]; split <;> omega
theorem numK_0 {r m : Int} (h0 : 0 ≤ r) (h1 : r < m) (i : Nat) : numK r m 0 i = r + (i : Int) * m := by
  unfold numK firI; rw [Int.sub_zero, Int.emod_eq_of_lt h0 h1, Int.zero_add]
theorem occ_seq {r m : Int} (m1 : 1 ≤ m) (h0 : 0 ≤ r) (h1 : r < m) (x : Int) (hx : 0 ≤ x) (K : Nat) : occ (seqTo (numK r m 0) K) x = if x % m = r ∧ x < numK r m 0 K then 1 else 0 := by
  have hdiv := Int.mul_ediv_add_emod x m
  have hmb := emod_bd x m m1
  induction K with
  | zero =>
    have hlt : ¬ (x % m = r ∧ x < numK r m 0 0) := by
      rw [numK_0 h0 h1]
      rintro ⟨e1, e2⟩
      simp at e2
      have := Int.emod_eq_of_lt hx (show x < m by omega)
      omega
    rw [if_neg hlt]; rfl
  | succ K ih =>
    rw [seqTo_succ, occ_append, ih, occ_one, numK_0 h0 h1 (K + 1), numK_0 h0 h1 K]
    have hK : ((K + 1 : Nat) : Int) * m = (K : Int) * m + m := by rw [Int.natCast_add, Int.add_mul]; simp
    rw [hK]
    by_cases he : x % m = r
    · by_cases h2 : x < r + (K : Int) * m
      · rw [if_pos ⟨he, h2⟩, if_neg (by omega), if_pos ⟨he, by omega⟩]; rfl
      · rw [if_neg (fun h => h2 h.2)]
        by_cases h3 : x < r + ((K : Int) * m + m)
        · have hq : x / m = (K : Int) := by
            have e1 : m * (x / m) < m * ((K : Int) + 1) := by rw [Int.mul_add, Int.mul_one, Int.mul_comm m (K : Int)]; omega
            have e2 : m * ((K : Int) - 1) < m * (x / m) := by rw [Int.mul_sub, Int.mul_one, Int.mul_comm m (K : Int)]; omega
            have e3 := Int.lt_of_mul_lt_mul_left e1 (by omega)
            have e4 := Int.lt_of_mul_lt_mul_left e2 (by omega)
            omega
          rw [hq, Int.mul_comm m (K : Int)] at hdiv
          rw [if_pos (by omega), if_pos ⟨he, by omega⟩]; rfl
        · rw [if_neg (by omega), if_neg (fun h => h3 h.2)]; rfl
    · have hne : ¬ (r + (K : Int) * m = x) := by
        intro e
        apply he
        rw [← e, Int.add_mul_emod_self_right]
        exact Int.emod_eq_of_lt h0 h1
      rw [if_neg (fun h => he h.1), if_neg hne, if_neg (fun h => he h.1)]; rfl
theorem occ_all {r m P : Int} (m1 : 1 ≤ m) (h0 : 0 ≤ r) (h1 : r < m) {ys : List Int} (hS : NumAll r m 0 P ys) (x : Int) (hx : 0 ≤ x) (hP : x < P) : occ ys x = if x % m = r then 1 else 0 := by
  obtain ⟨K, rfl, hb, _⟩ := hS
  rw [occ_seq m1 h0 h1 x hx]
  by_cases he : x % m = r
  · rw [if_pos ⟨he, by omega⟩, if_pos he]
  · rw [if_neg (fun h => he h.1), if_neg he]
/-- the counts when k classes are done, and of the next one the numbers ys -/
def tmpL (zs : List Cl) (P k : Nat) (ys : List Int) : List Int := (List.range P).map fun (x : Nat) => cntK zs x k + occ ys x
theorem tmpL_length (zs : List Cl) (P k : Nat) (ys : List Int) : (tmpL zs P k ys).length = P := by simp [tmpL]
theorem tmpL_at (zs : List Cl) (P k : Nat) (ys : List Int) (j : Nat) (h : j < P) : (tmpL zs P k ys)[j]?.getD 0 = cntK zs j k + occ ys j := by simp [tmpL, h]
theorem tmpL_set (zs : List Cl) (P k : Nat) (ys : List Int) (j : Nat) (h : j < P) : (tmpL zs P k ys).set j (cntK zs j k + occ ys j + 1) = tmpL zs P k (ys ++ [(j : Int)]) := by
  apply List.ext_getElem?
  intro i
  by_cases hi : i < P
  · rw [List.getElem?_set]
    by_cases e : j = i
    · subst e
      simp [tmpL, h, occ_append, occ_one]; omega
    · rw [if_neg e]
      have hne : ¬ ((j : Int) = (i : Int)) := by omega
      simp [tmpL, hi, occ_append, occ_one, hne]
  · rw [List.getElem?_eq_none (by rw [List.length_set, tmpL_length]; omega), List.getElem?_eq_none (by rw [tmpL_length]; omega)]
theorem tmpL_next {zs : List Cl} {P k : Nat} {ys : List Int} (hi : inB (rAt zs k) (mAt zs k) = true) (hS : NumAll (rAt zs k) (mAt zs k) 0 P ys) : tmpL zs P k ys = tmpL zs P (k + 1) [] := by
  obtain ⟨m1, _, r1, r2⟩ := inB_iff.1 hi
  apply List.ext_getElem?
  intro i
  by_cases h : i < P
  · simp [tmpL, h, cntK, occ, occ_all m1 r1 r2 hS i (by omega) (by omega)]
  · rw [List.getElem?_eq_none (by rw [tmpL_length]; omega), List.getElem?_eq_none (by rw [tmpL_length]; omega)]
theorem tmpL_zero (zs : List Cl) (P : Nat) : tmpL zs P 0 [] = List.replicate P 0 := by
  apply List.ext_getElem?
  intro i
  by_cases h : i < P <;> simp [tmpL, cntK, occ, h]
theorem tmpL_all {zs : List Cl} {P : Nat} (hP : perI zs = (P : Int)) : tmpL zs P zs.length [] = timL zs := by
  simp [tmpL, timL, hP, cntN, occ]
end Go.Proofs.YtnmlljhgilpocaaDoor
namespace Go.Proofs.YtnmlljhgilpocaaDoor
open Go.RowKit Go.Shelf
attribute [local go_sem] Oper.semAt_some
theorem madeCells1 (n : Nat) : (madeCells #[.int .i64 0] (n * 1)).toList = (List.replicate n (0 : Int)).map (Value.int .i64) := by
  rw [Nat.mul_one, toList_madeCells_one, List.map_replicate]
end Go.Proofs.YtnmlljhgilpocaaDoor
