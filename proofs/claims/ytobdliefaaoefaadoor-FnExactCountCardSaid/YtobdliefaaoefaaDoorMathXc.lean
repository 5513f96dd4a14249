/- Chapter 4: natural systems, grown by splits: what the program's and the model's ExactCount both list. -/
import Derived.Test.YtobdliefaaoefaaDoorS49
namespace Go.Proofs.YtobdliefaaoefaaDoor
open Go.RowKit
/-- the first j systems to which a split of the class at i leads -/
def sucP (s : List Cl) (i : Nat) : Nat → List (List Cl)
  | 0 => []
  | j + 1 => sucP s i j ++ (bif spiB s (i : Int) ((j : Int) + 2) then [srtL (spiR s (i : Int) ((j : Int) + 2))] else [])
/-- how many numbers of parts there are -/
def sucN (k : Nat) (s : List Cl) : Nat := k - s.length
/-- those to which the first i classes lead -/
def sucI (k : Nat) (s : List Cl) : Nat → List (List Cl)
  | 0 => []
  | i + 1 => sucI k s i ++ sucP s i (sucN k s)
def eqC (zs ys : List Cl) : Bool := decide (zs = ys)
def hasL (out : List (List Cl)) (t : List Cl) : Bool := out.any fun z => eqC t z
def addS (out : List (List Cl)) (t : List Cl) : List (List Cl) := bif hasL out t then out else out ++ [t]
def addL (out l : List (List Cl)) : List (List Cl) := l.foldl addS out
def stp (k : Nat) (out : List (List Cl)) (n : Nat) : List (List Cl) := addL out (sucI k (out[n]?.getD []) (out[n]?.getD []).length)
/-- the list after n of its systems have been split -/
def stG (k : Nat) : Nat → List (List Cl)
  | 0 => [[(0, 1)]]
  | n + 1 => stp k (stG k n) n
def numG (k : Nat) : Nat := match k with
  | 1 => 1 | 2 => 2 | 3 => 5 | 4 => 15 | 5 => 54 | _ => 0
/-- how many of the first n have just k classes -/
def cnnK (k : Nat) (out : List (List Cl)) (n : Nat) : Nat := ((out.take n).filter fun s => s.length == k).length
def cnnG (k : Nat) : Nat := cnnK k (stG k (numG k)) (numG k)
theorem cnnK_succ (k : Nat) (out : List (List Cl)) (n : Nat) (h : n < out.length) : cnnK k out (n + 1) = cnnK k out n + (bif (out[n]?.getD []).length == k then 1 else 0) := by
  unfold cnnK
  rw [List.take_succ_eq_append_getElem h, List.filter_append, List.length_append, List.getElem?_eq_getElem h, Option.getD_some]
  congr 1
  cases h2 : out[n].length == k <;> simp [h2]
theorem cnnK_le (k : Nat) (out : List (List Cl)) (n : Nat) : cnnK k out n ≤ n := by
  unfold cnnK
  refine Nat.le_trans (List.length_filter_le _ _) ?_
  rw [List.length_take]
  omega
theorem cnnK_app (k : Nat) (out r : List (List Cl)) (n : Nat) (h : n ≤ out.length) : cnnK k (out ++ r) n = cnnK k out n := by
  unfold cnnK
  rw [List.take_append_of_le_length h]
/-! what is added stands behind what was there -/
theorem addS_pre (out : List (List Cl)) (t : List Cl) : ∃ r, addS out t = out ++ r ∧ r.length ≤ 1 ∧ ∀ z ∈ r, z = t := by
  unfold addS
  cases hasL out t
  · exact ⟨[t], rfl, Nat.le_refl _, fun z hz => List.mem_singleton.1 hz⟩
  · exact ⟨[], by simp, by simp, fun z hz => by simp at hz⟩
theorem addL_pre : ∀ (l out : List (List Cl)), ∃ r, addL out l = out ++ r ∧ r.length ≤ l.length ∧ ∀ z ∈ r, z ∈ l
  | [], out => ⟨[], by simp [addL], by simp, fun z hz => by simp at hz⟩
  | t :: l, out => by
    obtain ⟨r1, h1, h2, h3⟩ := addS_pre out t
    obtain ⟨r2, k1, k2, k3⟩ := addL_pre l (addS out t)
    refine ⟨r1 ++ r2, ?_, ?_, fun z hz => ?_⟩
    · show addL (addS out t) l = _
      rw [k1, h1, List.append_assoc]
    · rw [List.length_append, List.length_cons]; omega
    · rcases List.mem_append.1 hz with hz | hz
      · rw [h3 z hz]; simp
      · exact List.mem_cons_of_mem _ (k3 z hz)
theorem addL_snoc (out l : List (List Cl)) (t : List Cl) : addL out (l ++ [t]) = addS (addL out l) t := by unfold addL; rw [List.foldl_append]; rfl
theorem addL_app (out l m : List (List Cl)) : addL out (l ++ m) = addL (addL out l) m := by unfold addL; rw [List.foldl_append]
theorem addL_at {out l : List (List Cl)} {n : Nat} (h : n < out.length) : (addL out l)[n]?.getD [] = out[n]?.getD [] := by
  obtain ⟨r, h1, _⟩ := addL_pre l out
  rw [h1, List.getElem?_append_left h]
theorem addL_len (out l : List (List Cl)) : out.length ≤ (addL out l).length := by
  obtain ⟨r, h1, _⟩ := addL_pre l out
  rw [h1, List.length_append]
  omega
/-- a part of what is added -/
theorem addL_part (out l : List (List Cl)) (j : Nat) : (addL out (l.take j)).length ≤ (addL out l).length := by
  have h := addL_app out (l.take j) (l.drop j)
  rw [List.take_append_drop] at h
  rw [h]
  exact addL_len _ _
/-! lengths -/
theorem srtL_len (zs : List Cl) : (srtL zs).length = zs.length := by
  have := (srtK_perm zs zs.length (Nat.le_refl _)).length_eq
  rw [List.take_length] at this
  exact this
theorem spi_len {s : List Cl} {i j : Nat} (h : spiB s (i : Int) ((j : Int) + 2) = true) : i < s.length ∧ (spiR s (i : Int) ((j : Int) + 2)).length = s.length + j + 1 := by
  have hi : i < s.length := by
    unfold spiB at h
    simp only [Bool.and_eq_true, decide_eq_true_eq] at h
    omega
  refine ⟨hi, ?_⟩
  unfold spiR
  rw [h, cond_true, Int.toNat_natCast, spiL_len hi]
  omega
theorem spi_nil {s : List Cl} {i j : Nat} (h : spiB s (i : Int) ((j : Int) + 2) = false) : srtL (spiR s (i : Int) ((j : Int) + 2)) = [] := by
  unfold spiR
  rw [h]
  rfl
def LenOK (k : Nat) (out : List (List Cl)) : Prop := ∀ z ∈ out, 1 ≤ z.length ∧ z.length ≤ k
theorem sucP_ok {k : Nat} {s : List Cl} (i : Nat) : ∀ j, j ≤ sucN k s → LenOK k (sucP s i j)
  | 0, _ => fun z hz => by simp [sucP] at hz
  | j + 1, hj => by
    intro z hz
    unfold sucP at hz
    rcases List.mem_append.1 hz with hz | hz
    · exact sucP_ok i j (by omega) z hz
    · cases hs : spiB s (i : Int) ((j : Int) + 2)
      · rw [hs] at hz; simp at hz
      · rw [hs, cond_true, List.mem_singleton] at hz
        obtain ⟨_, h2⟩ := spi_len hs
        rw [hz, srtL_len, h2]
        unfold sucN at hj
        omega
theorem sucI_ok (k : Nat) (s : List Cl) : ∀ i, LenOK k (sucI k s i)
  | 0 => fun z hz => by simp [sucI] at hz
  | i + 1 => by
    intro z hz
    unfold sucI at hz
    rcases List.mem_append.1 hz with hz | hz
    · exact sucI_ok k s i z hz
    · exact sucP_ok i _ (Nat.le_refl _) z hz
theorem addL_ok {k : Nat} {out l : List (List Cl)} (h : LenOK k out) (hl : LenOK k l) : LenOK k (addL out l) := by
  obtain ⟨r, h1, _, h3⟩ := addL_pre l out
  rw [h1]
  intro z hz
  rcases List.mem_append.1 hz with hz | hz
  · exact h z hz
  · exact hl z (h3 z hz)
theorem stG_ok {k : Nat} (hk : 1 ≤ k) : ∀ n, LenOK k (stG k n)
  | 0 => fun z hz => by
    unfold stG at hz
    rw [List.mem_singleton.1 hz]
    exact ⟨Nat.le_refl _, hk⟩
  | n + 1 => addL_ok (stG_ok hk n) (sucI_ok k _ _)
theorem sucP_length (s : List Cl) (i : Nat) : ∀ j, (sucP s i j).length ≤ j
  | 0 => by simp [sucP]
  | j + 1 => by
    have := sucP_length s i j
    unfold sucP
    rw [List.length_append]
    cases spiB s (i : Int) ((j : Int) + 2) <;> simp <;> omega
theorem sucI_length (k : Nat) (s : List Cl) : ∀ i, (sucI k s i).length ≤ i * sucN k s
  | 0 => by simp [sucI]
  | i + 1 => by
    have h1 := sucI_length k s i
    have h2 := sucP_length s i (sucN k s)
    unfold sucI
    rw [List.length_append, Nat.succ_mul]
    omega
/-! the growing ends -/
theorem stG_len1 (k n : Nat) : (stG k n).length ≤ (stG k (n + 1)).length := addL_len _ _
theorem stG_mono (k : Nat) {n m : Nat} (h : n ≤ m) : (stG k n).length ≤ (stG k m).length := by
  induction h with
  | refl => exact Nat.le_refl _
  | step _ ih => exact Nat.le_trans ih (stG_len1 k _)
theorem stG_stuck {k n : Nat} (h : (stG k n).length ≤ n) : ∀ m, stG k (n + m) = stG k n
  | 0 => rfl
  | m + 1 => by
    have ih := stG_stuck h m
    show stp k (stG k (n + m)) (n + m) = _
    rw [ih]
    unfold stp
    rw [List.getElem?_eq_none (by omega)]
    rfl
set_option maxRecDepth 100000 in
theorem num_all : ((List.range 5).all fun j => decide ((stG (j + 1) (numG (j + 1))).length = numG (j + 1))) = true := by decide +kernel
theorem stG_num {k : Nat} (h1 : 1 ≤ k) (h5 : k ≤ 5) : (stG k (numG k)).length = numG k := by
  have h := num_all
  rw [List.all_eq_true] at h
  have := of_decide_eq_true (h (k - 1) (List.mem_range.2 (by omega)))
  rwa [show k - 1 + 1 = k by omega] at this
theorem stG_more {k n : Nat} (h1 : 1 ≤ k) (h5 : k ≤ 5) (hn : n < numG k) : n < (stG k n).length := by
  rcases Nat.lt_or_ge n (stG k n).length with h | h
  · exact h
  · have e := stG_stuck h (numG k - n)
    rw [show n + (numG k - n) = numG k by omega] at e
    have := stG_num h1 h5
    rw [e] at this
    omega
theorem numG_le {k : Nat} : numG k ≤ 54 := by
  unfold numG
  split <;> omega
theorem stG_le {k n : Nat} (h1 : 1 ≤ k) (h5 : k ≤ 5) (hn : n ≤ numG k) : (stG k n).length ≤ 54 := by
  have h2 := stG_mono k hn
  have h3 := stG_num h1 h5
  have h4 := @numG_le k
  omega
set_option maxRecDepth 100000 in
theorem cnn_all : ((List.range 5).map fun j => cnnG (j + 1)) = [1, 1, 3, 10, 39] := by decide +kernel
theorem cnn_step {k n : Nat} (h : n < (stG k n).length) : cnnK k (stG k (n + 1)) (n + 1) = cnnK k (stG k n) n + (bif ((stG k n)[n]?.getD []).length == k then 1 else 0) := by
  obtain ⟨r, h1, _⟩ := addL_pre (sucI k ((stG k n)[n]?.getD []) ((stG k n)[n]?.getD []).length) (stG k n)
  have e : stG k (n + 1) = stG k n ++ r := h1
  rw [e, cnnK_app k _ r _ (by omega), cnnK_succ k _ n h]
theorem addL_take {out l : List (List Cl)} {j : Nat} (h : j < l.length) : addL out (l.take (j + 1)) = addS (addL out (l.take j)) (l[j]?.getD []) := by
  rw [List.take_succ_eq_append_getElem h, addL_snoc, List.getElem?_eq_getElem h, Option.getD_some]
theorem stG_part {k n j : Nat} (h1 : 1 ≤ k) (h5 : k ≤ 5) (hn : n < numG k) : (addL (stG k n) ((sucI k ((stG k n)[n]?.getD []) ((stG k n)[n]?.getD []).length).take j)).length ≤ 54 := by
  refine Nat.le_trans (addL_part _ _ j) ?_
  exact stG_le h1 h5 (show n + 1 ≤ numG k by omega)
def cnnR (k : Int) : Int := bif decide (1 ≤ k ∧ k ≤ 5) then (cnnG k.toNat : Int) else 0
end Go.Proofs.YtobdliefaaoefaaDoor
