/- Chapter 7 in plain: what the model finds, in order: just the tiles with the place 0 that tile with a tile. -/
import Derived.Test.YtiplnfggiffngaaMathTg
import Derived.Test.YtiplnfggiffngaaMathTe
import Derived.Test.YtiplnfggiffngaaTm
namespace Go.Proofs.Ytiplnfggiffngaa
theorem pw_ins {α : Type} {R : α → α → Prop} {l : List α} {x : α} (p : Nat) (h : l.Pairwise R) (h1 : ∀ y ∈ l.take p, R y x) (h2 : ∀ y ∈ l.drop p, R x y) : ([] ++ l.take p ++ [x] ++ l.drop p).Pairwise R := by
  have h0 := h
  rw [← List.take_append_drop p l, List.pairwise_append] at h0
  rw [List.nil_append, List.append_assoc, List.pairwise_append]
  refine ⟨h0.1, ?_, ?_⟩
  · rw [List.singleton_append, List.pairwise_cons]
    exact ⟨h2, h0.2.1⟩
  · intro y hy z hz
    rw [List.singleton_append, List.mem_cons] at hz
    rcases hz with e | hz
    · rw [e]; exact h1 y hy
    · exact h0.2.2 y hy z hz
theorem ins_perm {α : Type} (l : List α) (x : α) (p : Nat) : ([] ++ l.take p ++ [x] ++ l.drop p).Perm (x :: l) := by
  rw [List.nil_append, List.append_assoc]
  refine (List.perm_append_comm).trans ?_
  rw [List.append_assoc, List.singleton_append]
  refine List.Perm.cons _ ?_
  exact (List.perm_append_comm).trans (by rw [List.take_append_drop])
/-! the sorted list of numbers -/
theorem posZ_facts (x : Int) (l : List Int) : ∀ k, (∀ j, posZ x l k ≤ j → j < k → x < gZ l j) ∧ (posZ x l k = 0 ∨ gZ l (posZ x l k - 1) ≤ x)
  | 0 => ⟨fun j _ h => by omega, .inl rfl⟩
  | k + 1 => by
    obtain ⟨h1, h2⟩ := posZ_facts x l k
    by_cases h : gZ l k ≤ x
    · rw [posZ_stop h]
      exact ⟨fun j h3 h4 => by omega, .inr (by rw [Nat.add_sub_cancel]; exact h)⟩
    · rw [posZ_step h]
      refine ⟨fun j h3 h4 => ?_, h2⟩
      by_cases e : j = k
      · subst e; omega
      · exact h1 j h3 (by omega)
theorem insZ_sorted {x : Int} {l : List Int} (h : l.Pairwise (· ≤ ·)) : (insZ x l).Pairwise (· ≤ ·) := by
  obtain ⟨h1, h2⟩ := posZ_facts x l l.length
  have hle := posZ_le x l l.length
  refine pw_ins _ h (fun y hy => ?_) (fun y hy => ?_)
  · obtain ⟨i, hi, rfl⟩ := List.mem_iff_getElem.1 hy
    rw [List.length_take] at hi
    rw [List.getElem_take]
    rcases h2 with h2 | h2
    · omega
    · rw [gZ_get l _ (by omega)] at h2
      by_cases e : i = posZ x l l.length - 1
      · subst e; exact h2
      · exact Int.le_trans (List.pairwise_iff_getElem.1 h i (posZ x l l.length - 1) (by omega) (by omega) (by omega)) h2
  · obtain ⟨i, hi, rfl⟩ := List.mem_iff_getElem.1 hy
    rw [List.length_drop] at hi
    rw [List.getElem_drop, ← gZ_get l _ (by omega)]
    have := h1 (posZ x l l.length + i) (by omega) (by omega)
    omega
theorem srtZ_facts (zs : List Int) : ∀ k, k ≤ zs.length → (srtZ zs k).Pairwise (· ≤ ·) ∧ (srtZ zs k).Perm (zs.take k)
  | 0, _ => ⟨List.Pairwise.nil, .refl _⟩
  | k + 1, hk => by
    obtain ⟨h1, h2⟩ := srtZ_facts zs k (by omega)
    refine ⟨insZ_sorted h1, (ins_perm _ _ _).trans ?_⟩
    rw [List.take_succ_eq_append_getElem (show k < zs.length by omega), gZ_get zs k (by omega)]
    exact (List.Perm.cons _ h2).trans (List.perm_append_comm (l₁ := [zs[k]]))
theorem srtZ_eq {zs : List Int} (hd : zs.Nodup) : srtZ zs zs.length = srtI zs := by
  obtain ⟨h1, h2⟩ := srtZ_facts zs zs.length (Nat.le_refl _)
  rw [List.take_length] at h2
  have h3 := h2.nodup_iff.2 hd
  have h4 : (srtZ zs zs.length).Pairwise (· < ·) := (h1.and h3).imp fun {a b} hab => by have := hab.1; have := hab.2; omega
  exact asc_ext h4 ((srtI_asc zs).2 hd) fun x => by rw [srtI_mem, h2.mem_iff]
/-! as lists are compared -/
theorem ltL_trans : ∀ {a b c : List Int}, ltL a b = true → ltL b c = true → ltL a c = true
  | x :: a, y :: b, z :: c, h1, h2 => by
    unfold ltL at h1 h2 ⊢
    by_cases e1 : x = y
    · subst e1
      simp only [beq_self_eq_true, cond_true] at h1
      by_cases e2 : x = z
      · subst e2
        simp only [beq_self_eq_true, cond_true] at h2 ⊢
        exact ltL_trans h1 h2
      · rw [show (x == z) = false by simpa using e2] at h2 ⊢
        exact h2
    · rw [show (x == y) = false by simpa using e1, cond_false, decide_eq_true_eq] at h1
      by_cases e2 : y = z
      · subst e2
        rw [show (x == y) = false by simpa using e1, cond_false, decide_eq_true_eq]
        exact h1
      · rw [show (y == z) = false by simpa using e2, cond_false, decide_eq_true_eq] at h2
        rw [show (x == z) = false by simp; omega, cond_false, decide_eq_true_eq]
        omega
  | [], _, _, h1, _ => by simp [ltL] at h1
  | _ :: _, [], _, h1, _ => by simp [ltL] at h1
  | _ :: _, _ :: _, [], _, h2 => by simp [ltL] at h2
theorem ltL_total : ∀ {a b : List Int}, a.length = b.length → a ≠ b → ltL a b = false → ltL b a = true
  | [], [], _, h, _ => absurd rfl h
  | x :: a, y :: b, hl, hne, h => by
    unfold ltL at h ⊢
    by_cases e : x = y
    · subst e
      simp only [beq_self_eq_true, cond_true] at h ⊢
      exact ltL_total (by simpa using hl) (fun e => hne (by rw [e])) h
    · rw [show (x == y) = false by simpa using e, cond_false, decide_eq_false_iff_not] at h
      rw [show (y == x) = false by simpa using (Ne.symm e), cond_false, decide_eq_true_eq]
      omega
  | [], _ :: _, hl, _, _ => by simp at hl
  | _ :: _, [], hl, _, _ => by simp at hl
theorem ltL_irrefl (a : List Int) : ltL a a = false := by
  induction a with
  | nil => rfl
  | cons x t ih => simp [ltL, ih]
theorem posL_facts (x : List Int) (l : List (List Int)) : ∀ k, (∀ j, posL x l k ≤ j → j < k → ltL x (l[j]?.getD []) = true) ∧ (posL x l k = 0 ∨ ltL x (l[posL x l k - 1]?.getD []) = false)
  | 0 => ⟨fun j _ h => by omega, .inl rfl⟩
  | k + 1 => by
    obtain ⟨h1, h2⟩ := posL_facts x l k
    cases h : ltL x (l[k]?.getD [])
    · rw [posL_stop h]
      exact ⟨fun j h3 h4 => by omega, .inr (by rw [Nat.add_sub_cancel]; exact h)⟩
    · rw [posL_step h]
      refine ⟨fun j h3 h4 => ?_, h2⟩
      by_cases e : j = k
      · subst e; exact h
      · exact h1 j h3 (by omega)
theorem insL_sorted {x : List Int} {l : List (List Int)} {D : Nat} (h : l.Pairwise (fun p q => ltL p q = true)) (hx : x.length = D) (hl : ∀ y ∈ l, y.length = D) (hne : x ∉ l) : (insL x l).Pairwise (fun p q => ltL p q = true) := by
  obtain ⟨h1, h2⟩ := posL_facts x l l.length
  have hle := posL_le x l l.length
  refine pw_ins _ h (fun y hy => ?_) (fun y hy => ?_)
  · obtain ⟨i, hi, rfl⟩ := List.mem_iff_getElem.1 hy
    rw [List.length_take] at hi
    rw [List.getElem_take]
    rcases h2 with h2 | h2
    · omega
    · have hp : posL x l l.length - 1 < l.length := by omega
      rw [List.getElem?_eq_getElem hp, Option.getD_some] at h2
      have hm := List.getElem_mem hp
      have h3 := ltL_total (by rw [hx, hl _ hm]) (fun e => hne (by rw [e]; exact hm)) h2
      by_cases e : i = posL x l l.length - 1
      · subst e; exact h3
      · exact ltL_trans (List.pairwise_iff_getElem.1 h i (posL x l l.length - 1) (by omega) hp (by omega)) h3
  · obtain ⟨i, hi, rfl⟩ := List.mem_iff_getElem.1 hy
    rw [List.length_drop] at hi
    rw [List.getElem_drop]
    have := h1 (posL x l l.length + i) (by omega) (by omega)
    rw [List.getElem?_eq_getElem (by omega), Option.getD_some] at this
    exact this
theorem srtLL_mem {Z : List (List Int)} : ∀ k, k ≤ Z.length → ∀ y, y ∈ srtLL Z k ↔ ∃ B ∈ Z.take k, y = srtZ B B.length
  | 0, _, y => by simp [srtLL]
  | k + 1, hk, y => by
    rw [srtLL, insL_mem, srtLL_mem k (by omega), List.take_succ_eq_append_getElem (show k < Z.length by omega), List.getElem?_eq_getElem (by omega), Option.getD_some]
    constructor
    · rintro (h | ⟨B, hB, h⟩)
      · exact ⟨Z[k], List.mem_append.2 (.inr (List.mem_singleton.2 rfl)), h⟩
      · exact ⟨B, List.mem_append.2 (.inl hB), h⟩
    · rintro ⟨B, hB, h⟩
      rcases List.mem_append.1 hB with hB | hB
      · exact .inr ⟨B, hB, h⟩
      · rw [List.mem_singleton.1 hB] at h
        exact .inl h
theorem srtLL_sorted {Z : List (List Int)} {D : Nat} (hD : ∀ B ∈ Z, B.length = D) (hP : Z.Pairwise fun B C => ¬ B.Perm C) : ∀ k, k ≤ Z.length → (srtLL Z k).Pairwise (fun p q => ltL p q = true)
  | 0, _ => List.Pairwise.nil
  | k + 1, hk => by
    have hk' : k < Z.length := by omega
    rw [srtLL, List.getElem?_eq_getElem hk', Option.getD_some]
    have hperm : ∀ B : List Int, (srtZ B B.length).Perm B := fun B => by
      have := (srtZ_facts B B.length (Nat.le_refl _)).2
      rwa [List.take_length] at this
    refine insL_sorted (D := D) (srtLL_sorted hD hP k (by omega)) (by rw [srtZ_length]; exact hD _ (List.getElem_mem hk')) (fun y hy => ?_) (fun hm => ?_)
    · obtain ⟨B, hB, rfl⟩ := (srtLL_mem k (by omega) y).1 hy
      rw [srtZ_length]
      exact hD _ (List.mem_of_mem_take hB)
    · obtain ⟨B, hB, e⟩ := (srtLL_mem k (by omega) _).1 hm
      obtain ⟨i, hi, rfl⟩ := List.mem_iff_getElem.1 hB
      rw [List.length_take] at hi
      rw [List.getElem_take] at e
      refine List.pairwise_iff_getElem.1 hP i k (by omega) hk' (by omega) ?_
      have h1 := hperm Z[k]
      rw [e] at h1
      exact (hperm _).symm.trans h1
theorem sms_tsu (N : Nat) (a b : List Int) : (sms N a b).Perm (tsuL N a b) := by
  refine List.Perm.trans ?_ (tsu_swap N a b)
  have : sms N a b = tsuL N b a := by
    unfold sms tsuL tmvL
    congr 1
    funext t
    exact List.map_congr_left fun x _ => by rw [Int.add_comm]
  rw [this]
theorem sms_nod {N : Nat} {a B : List Int} (ha : a ≠ []) (h : (sms N a B).Nodup) : B.Nodup := by
  unfold sms at h
  have h1 := (List.pairwise_flatMap.1 h).2
  refine h1.imp ?_
  intro t u hx e
  subst e
  obtain ⟨y, hy⟩ := List.exists_mem_of_ne_nil a ha
  have hm : (y + t) % (N : Int) ∈ tmvL N a t := List.mem_map.2 ⟨y, hy, rfl⟩
  exact hx _ hm _ hm rfl
/-- what the model finds: just the tiles with the place 0 that tile with a tile -/
theorem allS_mem {N : Nat} {a : List Int} (hT : Til (N : Int) a) (C : List Int) : C ∈ allS N a ↔ tboB N a C = true ∧ (0 : Int) ∈ C := by
  have h00 : ∀ t ∈ [(0 : Int)], 0 ≤ t ∧ t < (N : Int) := fun t ht => by
    rw [List.mem_singleton.1 ht]
    have := hT.1
    omega
  unfold allS
  rw [srtLL_mem _ (Nat.le_refl _), List.take_length]
  constructor
  · rintro ⟨B, hB, rfl⟩
    obtain ⟨h1, h2⟩ := fil_fin hT _ _ _ (SInv.first hT) h00 B hB
    obtain ⟨r, hr⟩ := fil_pre _ _ _ B hB
    have hnd := sms_nod hT.2.2.1 h1.nod
    have hlen := h1.full hT
    rw [srtZ_eq hnd]
    have h0 : (0 : Int) ∈ srtI B := by rw [srtI_mem, hr]; simp
    refine ⟨?_, h0⟩
    have hTil : Til (N : Int) (srtI B) := by
      refine ⟨hT.1, hT.2.1, fun e => by rw [e] at h0; simp at h0, (srtI_asc B).2 hnd, fun x hx => ?_⟩
      have := h2 x ((srtI_mem B x).1 hx)
      omega
    simp only [tboB, tilB_t.2 hT, tilB_t.2 hTil, Bool.true_and, Bool.and_eq_true, decide_eq_true_eq]
    refine ⟨(sms_tsu N a (srtI B)).nodup_iff.1 ((sms_perm (srtI_perm B)).nodup_iff.2 h1.nod), ?_⟩
    rw [srtI_length, ← Int.natCast_mul, Nat.mul_comm, hlen]
  · rintro ⟨hb, h0⟩
    obtain ⟨_, hC, hd, hl⟩ := tboB_til hb
    have hp : C.Perm (0 :: C.erase 0) := List.perm_cons_erase h0
    have hd2 := (sms_tsu N a C).nodup_iff.2 hd
    have hlen : C.length * a.length = N := by
      have := hl
      rw [← Int.natCast_mul] at this
      rw [Nat.mul_comm]
      omega
    obtain ⟨r, hr, hm⟩ := fil_complete hT (2 ^ N) (mskL a) [0] (C.erase 0) (by have := Nat.two_pow_pos N; omega) (SInv.first hT) ((sms_perm hp).nodup_iff.1 hd2) (by rw [show [(0 : Int)] ++ C.erase 0 = 0 :: C.erase 0 from rfl, ← hp.length_eq]; exact hlen) (fun t ht => by
      have := hC.2.2.2.2 t (List.mem_of_mem_erase ht)
      omega)
    refine ⟨[0] ++ r, hm, ?_⟩
    have hpp : ([0] ++ r).Perm C := (List.Perm.cons 0 hr).trans hp.symm
    have hnd : ([0] ++ r).Nodup := hpp.nodup_iff.2 (asc_nodup hC.2.2.2.1)
    rw [srtZ_eq hnd]
    exact asc_ext hC.2.2.2.1 ((srtI_asc _).2 hnd) fun x => by rw [srtI_mem, hpp.mem_iff]
theorem allS_sorted {N : Nat} {a : List Int} (hT : Til (N : Int) a) : (allS N a).Pairwise (fun p q => ltL p q = true) :=
  srtLL_sorted (allT_len hT) (fil_uniq hT _ _ _ (SInv.first hT) (fun t ht => by
    rw [List.mem_singleton.1 ht]
    have := hT.1
    omega)) _ (Nat.le_refl _)
/-- two lists in order with the same members are one -/
theorem ltL_ext : ∀ {l m : List (List Int)}, l.Pairwise (fun p q => ltL p q = true) → m.Pairwise (fun p q => ltL p q = true) → (∀ x, x ∈ l ↔ x ∈ m) → l = m
  | [], [], _, _, _ => rfl
  | [], y :: m, _, _, h => absurd ((h y).2 (by simp)) (by simp)
  | x :: l, [], _, _, h => absurd ((h x).1 (by simp)) (by simp)
  | x :: l, y :: m, hl, hm, h => by
    obtain ⟨l1, l2⟩ := List.pairwise_cons.1 hl
    obtain ⟨m1, m2⟩ := List.pairwise_cons.1 hm
    have exy : x = y := by
      rcases List.mem_cons.1 ((h x).1 (by simp)) with e | h1
      · exact e
      · rcases List.mem_cons.1 ((h y).2 (by simp)) with e | h2
        · exact e.symm
        · have := ltL_trans (l1 _ h2) (m1 _ h1)
          rw [ltL_irrefl] at this
          cases this
    subst exy
    congr 1
    refine ltL_ext l2 m2 fun z => ?_
    constructor
    · intro hz
      rcases List.mem_cons.1 ((h z).1 (by simp [hz])) with e | h1
      · have := l1 _ hz
        rw [e, ltL_irrefl] at this
        cases this
      · exact h1
    · intro hz
      rcases List.mem_cons.1 ((h z).2 (by simp [hz])) with e | h1
      · have := m1 _ hz
        rw [e, ltL_irrefl] at this
        cases this
      · exact h1
end Go.Proofs.Ytiplnfggiffngaa
