/- Chapter 7 in plain: the steps of the program's search; what is still to come. -/
import Derived.Test.YtiplnfggiffngaaMathTi
namespace Go.Proofs.Ytiplnfggiffngaa
/-- what is to come when the last place goes out; the argument is what is taken, the last one first -/
def bckE (N : Nat) (a : List Int) : List Int → List (List Int)
  | [] => []
  | [_] => []
  | y :: c :: r => secE N a (N - (y.toNat + 1)) (c :: r).reverse ++ bckE N a (c :: r)
/-- what is to come at the place x -/
def comE (N : Nat) (a b : List Int) (x : Nat) : List (List Int) := secE N a (N - x) b ++ bckE N a b.reverse
theorem bckE_end (N : Nat) (a : List Int) (y : Int) : bckE N a [y].reverse = [] := rfl
theorem bckE_back (N : Nat) (a b : List Int) (y : Int) (hb : b ≠ []) : bckE N a (b ++ [y]).reverse = comE N a b (y.toNat + 1) := by
  rw [List.reverse_append, List.reverse_singleton, List.singleton_append]
  have h : b.reverse ≠ [] := by simpa using hb
  unfold comE
  cases hr : b.reverse with
  | nil => exact absurd hr h
  | cons c r =>
    show secE N a _ (c :: r).reverse ++ bckE N a (c :: r) = _
    rw [← hr, List.reverse_reverse]
theorem comE_full {N : Nat} {a b : List Int} {x : Nat} (h : tkn N a b = 2 ^ N - 1) : comE N a b x = b :: bckE N a b.reverse := by
  unfold comE
  cases hk : N - x with
  | zero => simp [secE, h]
  | succ k => simp [secE, h]
theorem comE_none {N : Nat} {a b : List Int} {x : Nat} (h : tkn N a b ≠ 2 ^ N - 1) (hf : (tkn N a b ||| frmM N a (N - x)) ≠ 2 ^ N - 1) : comE N a b x = bckE N a b.reverse := by
  unfold comE
  have h1 : (tkn N a b == 2 ^ N - 1) = false := by simpa using h
  cases hk : N - x with
  | zero => simp [secE, h1]
  | succ k =>
    rw [hk] at hf
    have h2 : ((tkn N a b ||| frmM N a (k + 1)) == 2 ^ N - 1) = false := by simpa using hf
    simp [secE, h1, h2]
theorem comE_take {N : Nat} {a b : List Int} {x : Nat} (hx : x < N) (h : tkn N a b ≠ 2 ^ N - 1) (hf : (tkn N a b ||| frmM N a (N - x)) = 2 ^ N - 1) (hd : tkn N a b &&& setM N a (x : Int) = 0) (hb : b ≠ []) :
    comE N a b x = comE N a (b ++ [(x : Int)]) (x + 1) := by

  unfold comE
  obtain ⟨k, hk⟩ : ∃ k, N - x = k + 1 := ⟨N - x - 1, by omega⟩
  rw [hk] at hf
  have h1 : (tkn N a b == 2 ^ N - 1) = false := by simpa using h
  have h2 : ((tkn N a b ||| frmM N a (k + 1)) == 2 ^ N - 1) = true := by simpa using hf
  have e : ((N : Int) - (k + 1 : Nat)) = (x : Int) := by omega
  have h3 : (tkn N a b &&& setM N a (x : Int) == 0) = true := by simpa using hd
  rw [hk, secE, h1, cond_false, h2, cond_true, e, h3, cond_true, show N - (x + 1) = k by omega]
  rw [List.append_assoc]
  congr 1
  rw [List.reverse_append, List.reverse_singleton, List.singleton_append]
  cases hr : b.reverse with
  | nil =>
    exact absurd (by simpa using hr) hb
  | cons c r =>
    show _ = secE N a _ (c :: r).reverse ++ bckE N a (c :: r)
    rw [← hr, List.reverse_reverse, show N - ((x : Int).toNat + 1) = k by omega]
theorem comE_skip {N : Nat} {a b : List Int} {x : Nat} (hx : x < N) (h : tkn N a b ≠ 2 ^ N - 1) (hf : (tkn N a b ||| frmM N a (N - x)) = 2 ^ N - 1) (hd : tkn N a b &&& setM N a (x : Int) ≠ 0) :
    comE N a b x = comE N a b (x + 1) := by
  unfold comE
  obtain ⟨k, hk⟩ : ∃ k, N - x = k + 1 := ⟨N - x - 1, by omega⟩
  rw [hk] at hf
  have h1 : (tkn N a b == 2 ^ N - 1) = false := by simpa using h
  have h2 : ((tkn N a b ||| frmM N a (k + 1)) == 2 ^ N - 1) = true := by simpa using hf
  have e : ((N : Int) - (k + 1 : Nat)) = (x : Int) := by omega
  have h3 : (tkn N a b &&& setM N a (x : Int) == 0) = false := by simpa using hd
  rw [hk, secE, h1, cond_false, h2, cond_true, e, h3, cond_false, show N - (x + 1) = k by omega, List.nil_append]
/-- at the start all is to come -/
theorem comE_first {N : Nat} {a : List Int} (hT : Til (N : Int) a) : comE N a [0] 1 = allS N a := by
  unfold comE
  rw [← secE_all hT, bckE_end, List.append_nil]
/-! the measure by which the search ends -/
def wgt (N x : Nat) : Nat := 2 ^ (N + 2 - x) - 1
def msr (N : Nat) (b : List Int) (x : Nat) : Nat := wgt N x + ((b.drop 1).map fun y : Int => wgt N (y.toNat + 1)).sum
theorem wgt_next {N x : Nat} (h : x ≤ N) : 2 * wgt N (x + 1) < wgt N x := by
  unfold wgt
  rw [show N + 2 - x = (N + 2 - (x + 1)) + 1 by omega, Nat.pow_succ]
  have := Nat.two_pow_pos (N + 2 - (x + 1))
  omega
theorem wgt_pos {N x : Nat} (h : x ≤ N) : 0 < wgt N x := by
  have := wgt_next h
  omega
theorem msr_skip {N x : Nat} (b : List Int) (h : x ≤ N) : msr N b (x + 1) < msr N b x := by
  have := wgt_next h
  unfold msr
  omega
theorem msr_snoc {N x : Nat} {b : List Int} (hb : b ≠ []) (y : Int) : msr N (b ++ [y]) x = msr N b x + wgt N (y.toNat + 1) := by
  unfold msr
  have hl : 0 < b.length := List.length_pos_iff.2 hb
  rw [List.drop_append_of_le_length (by omega), List.map_append, List.sum_append]
  simp
  omega
theorem msr_take {N x : Nat} {b : List Int} (hb : b ≠ []) (h : x ≤ N) : msr N (b ++ [(x : Int)]) (x + 1) < msr N b x := by
  have h1 := wgt_next h
  rw [msr_snoc hb, Int.toNat_natCast]
  unfold msr
  omega
theorem msr_back {N x : Nat} {b : List Int} (hb : b ≠ []) (y : Int) (h : x ≤ N) : msr N b (y.toNat + 1) < msr N (b ++ [y]) x := by
  have h1 := wgt_pos h
  rw [msr_snoc hb]
  unfold msr
  omega
/-! what is taken, in bits -/
theorem tkn_snoc (N : Nat) (a b : List Int) (t : Int) : tkn N a (b ++ [t]) = tkn N a b ||| setM N a t := by
  unfold tkn
  rw [sms_snoc, mskL_append]
  rfl
/-- bits that are disjoint go out again -/
theorem bits_out (k x y : Nat) (hd : x &&& y = 0) : BitVec.ofNat k (x ||| y) &&& ~~~ BitVec.ofNat k y = BitVec.ofNat k x := by
  apply BitVec.eq_of_getLsbD_eq
  intro i hi
  have h1 : (x &&& y).testBit i = false := by rw [hd]; simp
  rw [Nat.testBit_and] at h1
  rw [BitVec.getLsbD_and, BitVec.getLsbD_not, BitVec.getLsbD_ofNat, BitVec.getLsbD_ofNat, BitVec.getLsbD_ofNat, Nat.testBit_or]
  cases hx : x.testBit i <;> cases hy : y.testBit i <;> simp_all
end Go.Proofs.Ytiplnfggiffngaa
