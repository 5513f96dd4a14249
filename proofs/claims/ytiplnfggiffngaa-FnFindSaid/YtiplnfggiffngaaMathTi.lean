/- Chapter 7 in plain: the program's search, place by place; it names just what the model finds, in the same order. -/
import Derived.Test.YtiplnfggiffngaaMathTh
namespace Go.Proofs.Ytiplnfggiffngaa
def tkn (N : Nat) (a b : List Int) : Nat := mskL (sms N a b)
/-- all that the places from x on can reach; there are k of them -/
def frmM (N : Nat) (a : List Int) (k : Nat) : Nat := mskL (sms N a ((List.range k).map fun j : Nat => ((N : Int) - k + j)))
/-- what the search gives out from here on: b is taken, k places are left -/
def secE (N : Nat) (a : List Int) : Nat → List Int → List (List Int)
  | 0, b => bif tkn N a b == 2 ^ N - 1 then [b] else []
  | k + 1, b => bif tkn N a b == 2 ^ N - 1 then [b] else
    bif (tkn N a b ||| frmM N a (k + 1)) == 2 ^ N - 1 then
      (bif tkn N a b &&& setM N a ((N : Int) - (k + 1 : Nat)) == 0 then secE N a k (b ++ [(N : Int) - (k + 1 : Nat)]) else []) ++ secE N a k b
    else []
theorem mskL_mono {l m : List Int} (hl : ∀ x ∈ l, 0 ≤ x) (hm : ∀ x ∈ m, 0 ≤ x) (N : Nat) (hb : ∀ x ∈ m, x < N) (h : ∀ x ∈ l, x ∈ m) (hf : mskL l = 2 ^ N - 1) : mskL m = 2 ^ N - 1 := by
  refine full_of (mskL_lt m fun x hx => ⟨hm x hx, hb x hx⟩) fun j hj => ?_
  have h1 := mskL_bit l hl j
  rw [hf, Nat.testBit_two_pow_sub_one, decide_eq_true hj] at h1
  rw [mskL_bit m hm]
  exact decide_eq_true (h _ (of_decide_eq_true h1.symm))
/-- lists that go on from b with places from x on, in ascending order, and tile -/
def Goes (N : Nat) (a b : List Int) (k : Nat) (C : List Int) : Prop := ∃ r, C = b ++ r ∧ r.Pairwise (· < ·) ∧ (∀ t ∈ r, (N : Int) - k ≤ t ∧ t < N) ∧ SInv N a (2 ^ N - 1) C
theorem SInv.sub {N : Nat} {a b r : List Int} (h : SInv N a (2 ^ N - 1) (b ++ r)) : (sms N a b).Nodup := by
  have := h.nod
  rw [sms_append, List.nodup_append] at this
  exact this.1
theorem full_nil {N : Nat} {a b r : List Int} (hT : Til (N : Int) a) (h : SInv N a (2 ^ N - 1) (b ++ r)) (hf : tkn N a b = 2 ^ N - 1) : r = [] := by
  have h1 := h.full hT
  have h2 : SInv N a (2 ^ N - 1) b := ⟨hf.symm, h.sub⟩
  have h3 := h2.full hT
  have hap : 0 < a.length := by have := hT.len; omega
  rw [List.length_append, Nat.add_mul, h3] at h1
  have h4 : r.length * a.length = 0 := by omega
  rcases Nat.mul_eq_zero.1 h4 with h5 | h5
  · exact List.eq_nil_of_length_eq_zero h5
  · omega
theorem secE_mem {N : Nat} {a : List Int} (hT : Til (N : Int) a) : ∀ (k : Nat) (b : List Int), k ≤ N → (sms N a b).Nodup → ∀ C, C ∈ secE N a k b ↔ Goes N a b k C
  | 0, b, _, hd, C => by
    unfold secE
    by_cases hf : tkn N a b = 2 ^ N - 1
    · rw [show (tkn N a b == 2 ^ N - 1) = true by simpa using hf, cond_true, List.mem_singleton]
      constructor
      · rintro rfl
        exact ⟨[], by simp, List.Pairwise.nil, by simp, ⟨hf.symm, hd⟩⟩
      · rintro ⟨r, rfl, _, hr, hS⟩
        rw [full_nil hT hS hf, List.append_nil]
    · rw [show (tkn N a b == 2 ^ N - 1) = false by simpa using hf, cond_false]
      constructor
      · intro h; simp at h
      · rintro ⟨r, rfl, _, hr, hS⟩
        have hnil : r = [] := by
          cases r with
          | nil => rfl
          | cons t r => have := hr t (by simp); omega
        rw [hnil, List.append_nil] at hS
        exact absurd hS.msk.symm hf
  | k + 1, b, hk, hd, C => by
    unfold secE
    by_cases hf : tkn N a b = 2 ^ N - 1
    · rw [show (tkn N a b == 2 ^ N - 1) = true by simpa using hf, cond_true, List.mem_singleton]
      constructor
      · rintro rfl
        exact ⟨[], by simp, List.Pairwise.nil, by simp, ⟨hf.symm, hd⟩⟩
      · rintro ⟨r, rfl, _, hr, hS⟩
        rw [full_nil hT hS hf, List.append_nil]
    · rw [show (tkn N a b == 2 ^ N - 1) = false by simpa using hf, cond_false]
      have hsb := sms_bd a b hT.1
      by_cases hg : (tkn N a b ||| frmM N a (k + 1)) = 2 ^ N - 1
      · rw [show ((tkn N a b ||| frmM N a (k + 1)) == 2 ^ N - 1) = true by simpa using hg, cond_true, List.mem_append, secE_mem hT k b (by omega) hd C]
        have hkey : (C ∈ (bif tkn N a b &&& setM N a ((N : Int) - (k + 1 : Nat)) == 0 then secE N a k (b ++ [(N : Int) - (k + 1 : Nat)]) else [])) ↔ Goes N a (b ++ [(N : Int) - (k + 1 : Nat)]) k C := by
          by_cases hdj : tkn N a b &&& setM N a ((N : Int) - (k + 1 : Nat)) = 0
          · rw [show (tkn N a b &&& setM N a ((N : Int) - (k + 1 : Nat)) == 0) = true by simpa using hdj, cond_true]
            refine secE_mem hT k _ (by omega) ?_ C
            have h1 : SInv N a (tkn N a b) b := ⟨rfl, hd⟩
            exact (h1.next (t := (N : Int) - (k + 1 : Nat)) hT (by rw [Nat.and_comm]; exact hdj)).nod
          · rw [show (tkn N a b &&& setM N a ((N : Int) - (k + 1 : Nat)) == 0) = false by simpa using hdj, cond_false]
            constructor
            · intro h; simp at h
            · rintro ⟨r, rfl, _, _, hS⟩
              refine absurd ?_ hdj
              have h1 := hS.sub
              rw [sms_snoc, List.nodup_append] at h1
              unfold tkn setM
              exact (mskL_disj (fun x hx => (hsb x hx).1) (fun x hx => (tmvL_bd a _ hT.1 x hx).1)).2 fun z hz hzb => h1.2.2 z hz z hzb rfl
        rw [hkey]
        constructor
        · rintro (⟨r, rfl, hp, hr, hS⟩ | ⟨r, rfl, hp, hr, hS⟩)
          · refine ⟨((N : Int) - (k + 1 : Nat)) :: r, by rw [List.append_assoc]; rfl, List.pairwise_cons.2 ⟨fun t ht => by have := (hr t ht).1; omega, hp⟩, fun t ht => ?_, hS⟩
            rcases List.mem_cons.1 ht with rfl | ht
            · omega
            · have := hr t ht; omega
          · exact ⟨r, rfl, hp, fun t ht => by have := hr t ht; omega, hS⟩
        · rintro ⟨r, rfl, hp, hr, hS⟩
          cases r with
          | nil =>
            rw [List.append_nil] at hS
            exact absurd hS.msk.symm hf
          | cons t r =>
            obtain ⟨hp1, hp2⟩ := List.pairwise_cons.1 hp
            by_cases ht : t = (N : Int) - (k + 1 : Nat)
            · refine .inl ⟨r, by rw [ht, List.append_assoc]; rfl, hp2, fun u hu => ?_, hS⟩
              have := hp1 u hu
              have := hr u (by simp [hu])
              omega
            · refine .inr ⟨t :: r, rfl, hp, fun u hu => ?_, hS⟩
              have h1 := hr t (by simp)
              have h2 := hr u hu
              rcases List.mem_cons.1 hu with rfl | hu
              · omega
              · have := hp1 u hu
                omega
      · rw [show ((tkn N a b ||| frmM N a (k + 1)) == 2 ^ N - 1) = false by simpa using hg, cond_false]
        constructor
        · intro h; simp at h
        · rintro ⟨r, rfl, hp, hr, hS⟩
          refine absurd ?_ hg
          unfold tkn frmM
          rw [← mskL_append, ← sms_append]
          have hb2 := sms_bd a (b ++ (List.range (k + 1)).map fun j : Nat => ((N : Int) - (k + 1 : Nat) + j)) hT.1
          refine mskL_mono (l := sms N a (b ++ r)) (fun x hx => (sms_bd a _ hT.1 x hx).1) (fun x hx => (hb2 x hx).1) N (fun x hx => (hb2 x hx).2) (fun x hx => ?_) hS.msk.symm
          obtain ⟨t, ht, hxt⟩ := List.mem_flatMap.1 hx
          refine List.mem_flatMap.2 ⟨t, ?_, hxt⟩
          rcases List.mem_append.1 ht with ht | ht
          · exact List.mem_append.2 (.inl ht)
          · have := hr t ht
            exact List.mem_append.2 (.inr (List.mem_map.2 ⟨(t - ((N : Int) - (k + 1 : Nat))).toNat, List.mem_range.2 (by omega), by omega⟩))
theorem ltL_pre : ∀ (b c d : List Int), ltL (b ++ c) (b ++ d) = ltL c d
  | [], _, _ => rfl
  | x :: b, c, d => by
    show (bif x == x then ltL (b ++ c) (b ++ d) else _) = _
    simp only [beq_self_eq_true, cond_true]
    exact ltL_pre b c d
theorem secE_sorted {N : Nat} {a : List Int} (hT : Til (N : Int) a) : ∀ (k : Nat) (b : List Int), k ≤ N → (sms N a b).Nodup → (secE N a k b).Pairwise (fun p q => ltL p q = true)
  | 0, b, _, _ => by
    unfold secE
    cases tkn N a b == 2 ^ N - 1
    · exact List.Pairwise.nil
    · exact List.pairwise_singleton _ _
  | k + 1, b, hk, hd => by
    have hm := secE_mem hT
    unfold secE
    cases hf : tkn N a b == 2 ^ N - 1
    · rw [cond_false]
      cases hg : (tkn N a b ||| frmM N a (k + 1)) == 2 ^ N - 1
      · exact List.Pairwise.nil
      · rw [cond_true, List.pairwise_append]
        refine ⟨?_, secE_sorted hT k b (by omega) hd, ?_⟩
        · cases hdj : tkn N a b &&& setM N a ((N : Int) - (k + 1 : Nat)) == 0
          · exact List.Pairwise.nil
          · refine secE_sorted hT k _ (by omega) ?_
            have h1 : SInv N a (tkn N a b) b := ⟨rfl, hd⟩
            exact (h1.next (t := (N : Int) - (k + 1 : Nat)) hT (by rw [Nat.and_comm]; simpa using hdj)).nod
        · intro p hp q hq
          cases hdj : tkn N a b &&& setM N a ((N : Int) - (k + 1 : Nat)) == 0
          · rw [hdj] at hp; simp at hp
          · rw [hdj, cond_true] at hp
            have h1 : SInv N a (tkn N a b) b := ⟨rfl, hd⟩
            have hd2 := (h1.next (t := (N : Int) - (k + 1 : Nat)) hT (by rw [Nat.and_comm]; simpa using hdj)).nod
            obtain ⟨r, rfl, _, _, _⟩ := (hm k _ (by omega) hd2 p).1 hp
            obtain ⟨r2, rfl, _, hr2, hS2⟩ := (hm k b (by omega) hd q).1 hq
            rw [List.append_assoc, ltL_pre]
            cases r2 with
            | nil =>
              rw [List.append_nil] at hS2
              have := hS2.msk.symm
              rw [show tkn N a b = 2 ^ N - 1 from this] at hf
              simp at hf
            | cons t r2 =>
              have := hr2 t (by simp)
              rw [List.singleton_append]
              unfold ltL
              rw [show ((N : Int) - (k + 1 : Nat) == t) = false by simp; omega, cond_false]
              exact decide_eq_true (by omega)
    · rw [cond_true]
      exact List.pairwise_singleton _ _
/-- the search from the place 0 on names just what the model finds -/
theorem secE_all {N : Nat} {a : List Int} (hT : Til (N : Int) a) : secE N a (N - 1) [0] = allS N a := by
  have hN := hT.1
  have hd := (SInv.first hT).nod
  refine ltL_ext (secE_sorted hT _ _ (by omega) hd) (allS_sorted hT) fun C => ?_
  rw [secE_mem hT _ _ (by omega) hd, allS_mem hT]
  constructor
  · rintro ⟨r, rfl, hp, hr, hS⟩
    have hasc : ([0] ++ r).Pairwise (· < ·) := by
      rw [List.singleton_append, List.pairwise_cons]
      exact ⟨fun t ht => by have := hr t ht; omega, hp⟩
    have hTil : Til (N : Int) ([0] ++ r) := by
      refine ⟨hT.1, hT.2.1, by simp, hasc, fun x hx => ?_⟩
      rcases List.mem_append.1 hx with hx | hx
      · rw [List.mem_singleton.1 hx]; omega
      · have := hr x hx; omega
    have hlen := hS.full hT
    refine ⟨?_, by simp⟩
    simp only [tboB, tilB_t.2 hT, tilB_t.2 hTil, Bool.true_and, Bool.and_eq_true, decide_eq_true_eq]
    refine ⟨(sms_tsu N a ([0] ++ r)).nodup_iff.1 hS.nod, ?_⟩
    rw [← Int.natCast_mul, Nat.mul_comm, hlen]
  · rintro ⟨hb, h0⟩
    obtain ⟨_, hC, hdC, hl⟩ := tboB_til hb
    have hnd := (sms_tsu N a C).nodup_iff.2 hdC
    have hlen : C.length * a.length = N := by
      have := hl
      rw [← Int.natCast_mul] at this
      rw [Nat.mul_comm]
      omega
    have hfull : SInv N a (2 ^ N - 1) C := by
      refine ⟨?_, hnd⟩
      symm
      have hbd := sms_bd a C hT.1
      refine full_of (mskL_lt _ hbd) fun j hj => ?_
      rw [mskL_bit _ fun x hx => (hbd x hx).1]
      exact decide_eq_true (nodup_all hbd hnd (by rw [sms_length]; exact hlen) _ (by omega) (by omega))
    cases C with
    | nil => simp at h0
    | cons x r =>
      obtain ⟨p1, p2⟩ := List.pairwise_cons.1 hC.2.2.2.1
      have hx0 : x = 0 := by
        rcases List.mem_cons.1 h0 with e | h0
        · exact e.symm
        · have := p1 0 h0
          have := hC.2.2.2.2 x (by simp)
          omega
      subst hx0
      refine ⟨r, rfl, p2, fun t ht => ?_, hfull⟩
      have := p1 t ht
      have := hC.2.2.2.2 t (by simp [ht])
      omega
end Go.Proofs.Ytiplnfggiffngaa
