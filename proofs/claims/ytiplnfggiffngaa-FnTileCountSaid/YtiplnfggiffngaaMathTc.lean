/- Chapter 7 in plain: places as bits, tilings one after another. -/
import Derived.Test.YtiplnfggiffngaaMathTa
import Derived.Laws.BitsLemmas
namespace Go.Proofs.Ytiplnfggiffngaa
open Go.RowKit
theorem bits_nat (x y z : Nat) (op : BinOp) (h : ∀ k : IntKind, k = .i64 → bits op k x y = k.wrap ((z : Nat) : Int)) (hz : z < 2 ^ 62) : bits op .i64 x y = (z : Int) := by
  rw [h .i64 rfl]
  exact IntWalk.i64_in _ (by omega)
theorem or_nat (x y : Nat) (hx : x < 2 ^ 62) (hy : y < 2 ^ 62) : bits .or .i64 (x : Int) (y : Int) = ((x ||| y : Nat) : Int) := by
  have hx' : x % 2 ^ 64 = x := Nat.mod_eq_of_lt (by omega)
  have hy' : y % 2 ^ 64 = y := Nat.mod_eq_of_lt (by omega)
  have hz : x ||| y < 2 ^ 62 := Nat.or_lt_two_pow hx hy
  simp only [bits, BitVec.ofInt_natCast, BitVec.toNat_or, BitVec.toNat_ofNat]
  simp only [IntKind.bits, hx', hy']
  exact IntWalk.i64_in _ (by omega)
theorem and_nat (x y : Nat) (hx : x < 2 ^ 62) (hy : y < 2 ^ 62) : bits .and .i64 (x : Int) (y : Int) = ((x &&& y : Nat) : Int) := by
  have hx' : x % 2 ^ 64 = x := Nat.mod_eq_of_lt (by omega)
  have hy' : y % 2 ^ 64 = y := Nat.mod_eq_of_lt (by omega)
  have hz : x &&& y < 2 ^ 62 := Nat.and_lt_two_pow x hy
  simp only [bits, BitVec.ofInt_natCast, BitVec.toNat_and, BitVec.toNat_ofNat]
  simp only [IntKind.bits, hx', hy']
  exact IntWalk.i64_in _ (by omega)
theorem pow_le24 {k : Nat} (h : k ≤ 24) : 2 ^ k ≤ 16777216 := Nat.pow_le_pow_right (by omega) h
theorem pow_cast (k : Nat) : ((2 ^ k : Nat) : Int) = (2 : Int) ^ k := by simp
/-- the bits of a list of places -/
def mskL : List Int → Nat
  | [] => 0
  | x :: t => 2 ^ x.toNat ||| mskL t
theorem mskL_snoc (l : List Int) (x : Int) : mskL (l ++ [x]) = mskL l ||| 2 ^ x.toNat := by
  induction l with
  | nil => simp [mskL]
  | cons y t ih => rw [List.cons_append, mskL, ih, mskL, Nat.or_assoc]
theorem mskL_bit (l : List Int) (h : ∀ x ∈ l, 0 ≤ x) (k : Nat) : (mskL l).testBit k = decide ((k : Int) ∈ l) := by
  induction l with
  | nil => simp [mskL]
  | cons y t ih =>
    rw [mskL, Nat.testBit_or, ih (fun x hx => h x (by simp [hx])), Nat.testBit_two_pow]
    have hy := h y (by simp)
    apply Bool.eq_iff_iff.2
    simp only [Bool.or_eq_true, decide_eq_true_eq, List.mem_cons]
    constructor
    · rintro (e | e)
      · exact .inl (by omega)
      · exact .inr e
    · rintro (e | e)
      · exact .inl (by omega)
      · exact .inr e
theorem mskL_lt {n : Nat} (l : List Int) (h : ∀ x ∈ l, 0 ≤ x ∧ x < n) : mskL l < 2 ^ n := by
  induction l with
  | nil => exact Nat.two_pow_pos n
  | cons y t ih =>
    have hy := h y (by simp)
    exact Nat.or_lt_two_pow (Nat.pow_lt_pow_right (by omega) (by omega)) (ih fun x hx => h x (by simp [hx]))
theorem mskL_pos {l : List Int} (h : l ≠ []) : 0 < mskL l := by
  cases l with
  | nil => exact absurd rfl h
  | cons y t =>
    rw [mskL]
    have := Nat.left_le_or (n := 2 ^ y.toNat) (m := mskL t)
    have := Nat.two_pow_pos y.toNat
    omega
/-- the least free place from x on -/
def freK (used : Nat) : Nat → Nat → Nat
  | 0, x => x
  | f + 1, x => bif used.testBit x then freK used f (x + 1) else x
def freX (n used : Nat) : Nat := freK used n 0
theorem freK_facts (used n : Nat) : ∀ (f x : Nat), x + f = n → (∀ j, j < x → used.testBit j = true) → (∃ j, j < n ∧ used.testBit j = false) →
    freK used f x < n ∧ used.testBit (freK used f x) = false ∧ x ≤ freK used f x ∧ ∀ j, j < freK used f x → used.testBit j = true
  | 0, x, hx, hb, hex => by
    obtain ⟨j, hj, hf⟩ := hex
    have := hb j (by omega)
    rw [this] at hf
    cases hf
  | f + 1, x, hx, hb, hex => by
    unfold freK
    cases hxb : used.testBit x
    · simp only [cond_false]
      exact ⟨by omega, hxb, Nat.le_refl _, hb⟩
    · simp only [cond_true]
      have := freK_facts used n f (x + 1) (by omega) (fun j hj => by
        by_cases e : j = x
        · subst e; exact hxb
        · exact hb j (by omega)) hex
      exact ⟨this.1, this.2.1, by omega, this.2.2.2⟩
theorem full_of {n used : Nat} (h : used < 2 ^ n) (hall : ∀ j, j < n → used.testBit j = true) : used = 2 ^ n - 1 := by
  apply Nat.eq_of_testBit_eq
  intro j
  rw [Nat.testBit_two_pow_sub_one]
  by_cases hj : j < n
  · rw [hall j hj, decide_eq_true hj]
  · rw [decide_eq_false hj]
    exact Nat.testBit_lt_two_pow (Nat.lt_of_lt_of_le h (Nat.pow_le_pow_right (by omega) (by omega)))
theorem freX_facts {n used : Nat} (h : used < 2 ^ n) (hne : used ≠ 2 ^ n - 1) : freX n used < n ∧ used.testBit (freX n used) = false ∧ ∀ j, j < freX n used → used.testBit j = true := by
  have hex : ∃ j, j < n ∧ used.testBit j = false := by
    refine Classical.byContradiction fun hn => hne (full_of h fun j hj => ?_)
    cases hb : used.testBit j
    · exact absurd ⟨j, hj, hb⟩ hn
    · rfl
  have := freK_facts used n n 0 (by omega) (fun j hj => by omega) hex
  exact ⟨this.1, this.2.1, this.2.2.2⟩
theorem bit_shr (used k : Nat) : (used / 2 ^ k) &&& 1 = (used.testBit k).toNat := by
  rw [Nat.and_one_is_mod, Nat.testBit_eq_decide_div_mod_eq]
  have := Nat.mod_two_eq_zero_or_one (used / 2 ^ k)
  rcases this with e | e <;> simp [e]
/-- the places of a tile moved by t, as bits -/
def setM (n : Int) (a : List Int) (t : Int) : Nat := mskL (tmvL n a t)
def filT (n : Nat) (used : Nat) (x : Int) : Int := ((freX n used : Int) - x) % n
def fil (n : Nat) (a : List Int) : Nat → Nat → List Int → List (List Int)
  | 0, _, _ => []
  | f + 1, used, b =>
    bif used == 2 ^ n - 1 then [b]
    else a.flatMap fun x => bif setM n a (filT n used x) &&& used == 0 then fil n a f (used ||| setM n a (filT n used x)) (b ++ [filT n used x]) else []
/-- the first i tried -/
def filI (n : Nat) (a : List Int) (f used : Nat) (b : List Int) (i : Nat) : List (List Int) :=
  (a.take i).flatMap fun x => bif setM n a (filT n used x) &&& used == 0 then fil n a f (used ||| setM n a (filT n used x)) (b ++ [filT n used x]) else []
theorem fil_full (n : Nat) (a : List Int) (f : Nat) (b : List Int) : fil n a (f + 1) (2 ^ n - 1) b = [b] := by simp [fil]
theorem fil_more {n : Nat} {a : List Int} {f used : Nat} {b : List Int} (h : used ≠ 2 ^ n - 1) : fil n a (f + 1) used b = filI n a f used b a.length := by
  unfold fil filI
  rw [show (used == 2 ^ n - 1) = false by simpa using h, List.take_length]
  rfl
theorem filI_zero (n : Nat) (a : List Int) (f used : Nat) (b : List Int) : filI n a f used b 0 = [] := rfl
theorem filI_succ {n : Nat} {a : List Int} {f used : Nat} {b : List Int} {i : Nat} (h : i < a.length) : filI n a f used b (i + 1) = filI n a f used b i ++
    (bif setM n a (filT n used (gZ a i)) &&& used == 0 then fil n a f (used ||| setM n a (filT n used (gZ a i))) (b ++ [filT n used (gZ a i)]) else []) := by
  unfold filI
  rw [List.take_succ_eq_append_getElem h, List.flatMap_append, gZ_get a i h]
  simp
theorem flat_len (F : Int → List (List Int)) (a : List Int) (i : Nat) : ((a.take i).flatMap F).length ≤ (a.flatMap F).length := by
  conv => rhs; rw [← List.take_append_drop i a, List.flatMap_append, List.length_append]
  exact Nat.le_add_right _ _
theorem filI_len {n : Nat} {a : List Int} {f used : Nat} {b : List Int} (i : Nat) : (filI n a f used b i).length ≤ (filI n a f used b a.length).length := by
  unfold filI
  rw [List.take_length]
  exact flat_len _ a i
theorem or_gt {x y : Nat} (h : x &&& y = 0) (hx : 0 < x) : y < y ||| x := by
  rcases Nat.lt_or_eq_of_le (Nat.left_le_or (n := y) (m := x)) with h1 | h1
  · exact h1
  · exfalso
    have h2 : x &&& (y ||| x) = x := by
      apply Nat.eq_of_testBit_eq
      intro j
      rw [Nat.testBit_and, Nat.testBit_or]
      cases x.testBit j <;> simp
    rw [← h1, h] at h2
    omega
end Go.Proofs.Ytiplnfggiffngaa
