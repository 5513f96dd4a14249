/- Chapter 7 in plain: how many tilings the model finds, and how long they are. -/
import Derived.Test.YtiplnfggiffngaaMathTc
namespace Go.Proofs.Ytiplnfggiffngaa
theorem mskL_append (l m : List Int) : mskL (l ++ m) = mskL l ||| mskL m := by
  induction l with
  | nil => simp [mskL]
  | cons y t ih => rw [List.cons_append, mskL, ih, mskL, Nat.or_assoc]
theorem mskL_disj {l m : List Int} (hl : ∀ x ∈ l, 0 ≤ x) (hm : ∀ x ∈ m, 0 ≤ x) : mskL l &&& mskL m = 0 ↔ ∀ x ∈ l, x ∉ m := by
  constructor
  · intro h x hx hxm
    have h1 := congrArg (fun y : Nat => y.testBit x.toNat) h
    simp only [Nat.testBit_and, Nat.zero_testBit] at h1
    rw [mskL_bit l hl, mskL_bit m hm, Int.toNat_of_nonneg (hl x hx), decide_eq_true hx, decide_eq_true hxm] at h1
    cases h1
  · intro h
    apply Nat.eq_of_testBit_eq
    intro j
    rw [Nat.testBit_and, Nat.zero_testBit, mskL_bit l hl, mskL_bit m hm]
    by_cases hj : (j : Int) ∈ l
    · rw [decide_eq_false (h _ hj)]; simp
    · rw [decide_eq_false hj]; simp
/-- the sums of a list of places with a tile -/
def sms (N : Nat) (a b : List Int) : List Int := b.flatMap fun t => tmvL N a t
theorem sms_snoc (N : Nat) (a b : List Int) (t : Int) : sms N a (b ++ [t]) = sms N a b ++ tmvL N a t := by
  unfold sms
  rw [List.flatMap_append]
  simp
theorem sms_length (N : Nat) (a b : List Int) : (sms N a b).length = b.length * a.length := by
  unfold sms tmvL
  rw [List.length_flatMap]
  simp [List.map_const']
theorem sms_bd {N : Nat} (a b : List Int) (h : 1 ≤ (N : Int)) : ∀ x ∈ sms N a b, 0 ≤ x ∧ x < N := by
  intro x hx
  obtain ⟨t, _, ht⟩ := List.mem_flatMap.1 hx
  exact tmvL_bd a t h x ht
/-- in the middle of the search -/
structure SInv (N : Nat) (a : List Int) (used : Nat) (b : List Int) : Prop where
  msk : used = mskL (sms N a b)
  nod : (sms N a b).Nodup
theorem SInv.next {N : Nat} {a : List Int} {used : Nat} {b : List Int} {t : Int} (hT : Til (N : Int) a) (h : SInv N a used b) (hd : setM N a t &&& used = 0) : SInv N a (used ||| setM N a t) (b ++ [t]) := by
  have hb1 := tmvL_bd a t hT.1
  have hb2 := sms_bd a b hT.1
  refine ⟨by rw [sms_snoc, mskL_append, ← h.msk]; rfl, ?_⟩
  rw [sms_snoc, List.nodup_append]
  refine ⟨h.nod, tmvL_nodup hT t, ?_⟩
  rw [h.msk] at hd
  have hdj := (mskL_disj (fun x hx => (hb1 x hx).1) (fun x hx => (hb2 x hx).1)).1 hd
  intro x hx y hy e
  subst e
  exact hdj x hy hx
theorem SInv.first {N : Nat} {a : List Int} (hT : Til (N : Int) a) : SInv N a (mskL a) [0] := by
  have e : sms N a [0] = a := by
    unfold sms tmvL
    simp only [List.flatMap_cons, List.flatMap_nil, List.append_nil]
    conv => rhs; rw [← List.map_id a]
    refine List.map_congr_left fun x hx => ?_
    have := hT.2.2.2.2 x hx
    rw [Int.add_zero, Int.emod_eq_of_lt this.1 (by omega)]
    rfl
  exact ⟨by rw [e], by rw [e]; exact asc_nodup hT.2.2.2.1⟩
theorem setL_true (N : Nat) : (setL N fun _ => true).length = N := by
  induction N with
  | zero => rfl
  | succ N ih => rw [setL_succ, List.length_append, ih]; rfl
theorem nodup_len {N : Nat} {l : List Int} (h : ∀ x ∈ l, 0 ≤ x ∧ x < N) (hd : l.Nodup) : l.length ≤ N := by
  by_cases hN : 1 ≤ (N : Int)
  · have := plc_srt hN h hd
    rw [← srtI_length l, this]
    have := setL_le (N : Int).toNat fun y => decide (y ∈ l)
    unfold plc
    omega
  · cases l with
    | nil => simp
    | cons x t => have := h x (by simp); omega
theorem SInv.le {N : Nat} {a : List Int} {used : Nat} {b : List Int} (hT : Til (N : Int) a) (h : SInv N a used b) : b.length * a.length ≤ N := by
  have := nodup_len (sms_bd a b hT.1) h.nod
  rwa [sms_length] at this
theorem SInv.full {N : Nat} {a : List Int} {b : List Int} (hT : Til (N : Int) a) (h : SInv N a (2 ^ N - 1) b) : b.length * a.length = N := by
  rw [← sms_length N a b, ← srtI_length]
  have hb := sms_bd a b hT.1
  rw [plc_srt hT.1 hb h.nod]
  unfold plc
  rw [Int.toNat_natCast]
  have : (setL N fun y => decide (y ∈ sms N a b)) = setL N fun _ => true := setL_eq fun x x0 x1 => by
    have hbit := mskL_bit (sms N a b) (fun y hy => (hb y hy).1) x.toNat
    rw [← h.msk, Nat.testBit_two_pow_sub_one, Int.toNat_of_nonneg x0] at hbit
    rw [← hbit]
    exact decide_eq_true (by omega)
  rw [this, setL_true]
/-- all that is found has one length -/
theorem fil_len {N : Nat} {a : List Int} (hT : Til (N : Int) a) : ∀ (f used : Nat) (b : List Int), SInv N a used b → ∀ B ∈ fil N a f used b, B.length * a.length = N
  | 0, _, _, _, B, hB => by simp [fil] at hB
  | f + 1, used, b, h, B, hB => by
    unfold fil at hB
    by_cases hu : used = 2 ^ N - 1
    · rw [show (used == 2 ^ N - 1) = true by simpa using hu, cond_true, List.mem_singleton] at hB
      subst hB
      subst hu
      exact h.full hT
    · rw [show (used == 2 ^ N - 1) = false by simpa using hu, cond_false] at hB
      obtain ⟨x, _, hx⟩ := List.mem_flatMap.1 hB
      by_cases hd : setM N a (filT N used x) &&& used = 0
      · rw [show (setM N a (filT N used x) &&& used == 0) = true by simpa using hd, cond_true] at hx
        exact fil_len hT f _ _ (h.next hT hd) B hx
      · rw [show (setM N a (filT N used x) &&& used == 0) = false by simpa using hd] at hx
        simp at hx
theorem flatMap_le {α β : Type} (l : List α) (g : α → List β) (K : Nat) (h : ∀ x ∈ l, (g x).length ≤ K) : (l.flatMap g).length ≤ l.length * K := by
  induction l with
  | nil => simp
  | cons x t ih =>
    rw [List.flatMap_cons, List.length_append, List.length_cons, Nat.succ_mul]
    have h1 := h x (by simp)
    have h2 := ih fun y hy => h y (by simp [hy])
    omega
/-- how many are found -/
theorem fil_cnt {N : Nat} {a : List Int} (hT : Til (N : Int) a) : ∀ (f used : Nat) (b : List Int), SInv N a used b → (fil N a f used b).length ≤ a.length ^ ((N - b.length * a.length) / a.length)
  | 0, _, _, _ => by simp [fil]
  | f + 1, used, b, h => by
    have hap : 0 < a.length := by have := hT.len; omega
    unfold fil
    by_cases hu : used = 2 ^ N - 1
    · rw [show (used == 2 ^ N - 1) = true by simpa using hu, cond_true]
      exact Nat.pow_pos hap
    · rw [show (used == 2 ^ N - 1) = false by simpa using hu, cond_false]
      by_cases hr : (b.length + 1) * a.length ≤ N
      · have hbound : ∀ x ∈ a, (bif setM N a (filT N used x) &&& used == 0 then fil N a f (used ||| setM N a (filT N used x)) (b ++ [filT N used x]) else []).length ≤ a.length ^ ((N - (b.length + 1) * a.length) / a.length) := by
          intro x _
          by_cases hd : setM N a (filT N used x) &&& used = 0
          · rw [show (setM N a (filT N used x) &&& used == 0) = true by simpa using hd, cond_true]
            have := fil_cnt hT f _ _ (h.next hT hd)
            rw [List.length_append, List.length_singleton] at this
            exact this
          · rw [show (setM N a (filT N used x) &&& used == 0) = false by simpa using hd]
            simp
        refine Nat.le_trans (flatMap_le a _ _ hbound) ?_
        rw [Nat.succ_mul] at hr ⊢
        have e : (N - b.length * a.length) / a.length = (N - (b.length * a.length + a.length)) / a.length + 1 := by
          rw [← Nat.add_div_right _ hap]
          congr 1
          omega
        rw [e, Nat.pow_succ, Nat.mul_comm]
        exact Nat.le_refl _
      · have hnil : (a.flatMap fun x => bif setM N a (filT N used x) &&& used == 0 then fil N a f (used ||| setM N a (filT N used x)) (b ++ [filT N used x]) else []) = [] := by
          rw [List.flatMap_eq_nil_iff]
          intro x _
          by_cases hd : setM N a (filT N used x) &&& used = 0
          · have := (h.next hT hd).le hT
            rw [List.length_append, List.length_singleton] at this
            exact absurd this hr
          · rw [show (setM N a (filT N used x) &&& used == 0) = false by simpa using hd]
            rfl
        rw [hnil]
        exact Nat.zero_le _
theorem pow_small : ((List.range 25).all fun N => (List.range 25).all fun c => decide (c ^ ((N - c) / c) < 100000)) = true := by decide +kernel
def allT (N : Nat) (a : List Int) : List (List Int) := fil N a (2 ^ N) (mskL a) [0]
theorem allT_cnt {N : Nat} {a : List Int} (hT : Til (N : Int) a) : (allT N a).length < 100000 := by
  have h1 := fil_cnt hT (2 ^ N) (mskL a) [0] (SInv.first hT)
  have hl := hT.len
  have hN := hT.2.1
  have h2 := List.all_eq_true.1 pow_small N (List.mem_range.2 (by omega))
  have h3 := of_decide_eq_true (List.all_eq_true.1 h2 a.length (List.mem_range.2 (by omega)))
  simp only [List.length_singleton, Nat.one_mul] at h1
  unfold allT
  omega
theorem allT_len {N : Nat} {a : List Int} (hT : Til (N : Int) a) : ∀ B ∈ allT N a, B.length = N / a.length := by
  intro B hB
  have h1 := fil_len hT _ _ _ (SInv.first hT) B hB
  have hap : 0 < a.length := by have := hT.len; omega
  rw [← h1, Nat.mul_div_cancel _ hap]
end Go.Proofs.Ytiplnfggiffngaa
