/- Chapter 7 in plain: the model finds each tiling, and each once. -/
import Derived.Test.YtiplnfggiffngaaMathTd
namespace Go.Proofs.Ytiplnfggiffngaa
theorem pw_sym {α : Type} {R : α → α → Prop} (hs : ∀ x y, R x y → R y x) : ∀ {l : List α}, l.Pairwise R → ∀ {x y}, x ∈ l → y ∈ l → x ≠ y → R x y
  | [], _, _, _, hx, _, _ => absurd hx (by simp)
  | z :: t, h, x, y, hx, hy, hne => by
    obtain ⟨h1, h2⟩ := List.pairwise_cons.1 h
    rcases List.mem_cons.1 hx with e1 | hx2
    · rcases List.mem_cons.1 hy with e2 | hy2
      · exact absurd (e1.trans e2.symm) hne
      · rw [e1]; exact h1 _ hy2
    · rcases List.mem_cons.1 hy with e2 | hy2
      · rw [e2]; exact hs _ _ (h1 _ hx2)
      · exact pw_sym hs h2 hx2 hy2 hne
theorem sms_append (N : Nat) (a b c : List Int) : sms N a (b ++ c) = sms N a b ++ sms N a c := by unfold sms; rw [List.flatMap_append]
theorem sms_perm {N : Nat} {a b c : List Int} (h : b.Perm c) : (sms N a b).Perm (sms N a c) := h.flatMap_right _
theorem sms_one {N : Nat} {a C : List Int} {t u x : Int} (hd : (sms N a C).Nodup) (ht : t ∈ C) (hu : u ∈ C) (hx : x ∈ tmvL N a t) (hy : x ∈ tmvL N a u) : t = u := by
  by_cases e : t = u
  · exact e
  · have h1 := (List.pairwise_flatMap.1 hd).2
    exact absurd rfl (pw_sym (R := fun p q => ∀ x ∈ tmvL N a p, ∀ y ∈ tmvL N a q, x ≠ y) (fun p q h x hx y hy e => h y hy x hx e.symm) h1 ht hu e x hx x hy)
theorem nodup_all {N : Nat} {l : List Int} (h : ∀ x ∈ l, 0 ≤ x ∧ x < N) (hd : l.Nodup) (hl : l.length = N) (x : Int) (x0 : 0 ≤ x) (x1 : x < N) : x ∈ l := by
  by_cases e : x ∈ l
  · exact e
  · have := nodup_len (N := N) (l := x :: l) (fun y hy => by
      rcases List.mem_cons.1 hy with rfl | hy
      · exact ⟨x0, x1⟩
      · exact h y hy) (List.nodup_cons.2 ⟨e, hd⟩)
    simp only [List.length_cons] at this
    omega
theorem filT_cov {N : Nat} {used : Nat} {a : List Int} {y : Int} (hy : y ∈ a) (hx : freX N used < N) : (freX N used : Int) ∈ tmvL N a (filT N used y) := by
  unfold tmvL
  rw [List.mem_map]
  refine ⟨y, hy, ?_⟩
  unfold filT
  rw [Int.add_emod_emod, show y + ((freX N used : Int) - y) = (freX N used : Int) by omega]
  exact Int.emod_eq_of_lt (by omega) (by omega)
theorem filT_eq {N : Nat} {used : Nat} {y t : Int} (t0 : 0 ≤ t) (t1 : t < N) (h : (y + t) % (N : Int) = (freX N used : Int)) : filT N used y = t := by
  unfold filT
  rw [← h, Int.sub_emod, Int.emod_emod_of_dvd _ (Int.dvd_refl _), ← Int.sub_emod, show y + t - y = t by omega]
  exact Int.emod_eq_of_lt t0 t1
theorem fil_pre {N : Nat} {a : List Int} : ∀ (f used : Nat) (b : List Int), ∀ B ∈ fil N a f used b, ∃ r, B = b ++ r
  | 0, _, _, B, hB => by simp [fil] at hB
  | f + 1, used, b, B, hB => by
    unfold fil at hB
    by_cases hu : used = 2 ^ N - 1
    · rw [show (used == 2 ^ N - 1) = true by simpa using hu, cond_true, List.mem_singleton] at hB
      exact ⟨[], by rw [hB, List.append_nil]⟩
    · rw [show (used == 2 ^ N - 1) = false by simpa using hu, cond_false] at hB
      obtain ⟨x, _, hx⟩ := List.mem_flatMap.1 hB
      by_cases hd : setM N a (filT N used x) &&& used = 0
      · rw [show (setM N a (filT N used x) &&& used == 0) = true by simpa using hd, cond_true] at hx
        obtain ⟨r, hr⟩ := fil_pre f _ _ B hx
        exact ⟨_ :: r, by rw [hr, List.append_assoc]; rfl⟩
      · rw [show (setM N a (filT N used x) &&& used == 0) = false by simpa using hd] at hx
        simp at hx
theorem fil_fin {N : Nat} {a : List Int} (hT : Til (N : Int) a) : ∀ (f used : Nat) (b : List Int), SInv N a used b → (∀ t ∈ b, 0 ≤ t ∧ t < N) → ∀ B ∈ fil N a f used b, SInv N a (2 ^ N - 1) B ∧ ∀ t ∈ B, 0 ≤ t ∧ t < N
  | 0, _, _, _, _, B, hB => by simp [fil] at hB
  | f + 1, used, b, h, hb, B, hB => by
    unfold fil at hB
    by_cases hu : used = 2 ^ N - 1
    · rw [show (used == 2 ^ N - 1) = true by simpa using hu, cond_true, List.mem_singleton] at hB
      subst hB
      subst hu
      exact ⟨h, hb⟩
    · rw [show (used == 2 ^ N - 1) = false by simpa using hu, cond_false] at hB
      obtain ⟨x, _, hx⟩ := List.mem_flatMap.1 hB
      by_cases hd : setM N a (filT N used x) &&& used = 0
      · rw [show (setM N a (filT N used x) &&& used == 0) = true by simpa using hd, cond_true] at hx
        refine fil_fin hT f _ _ (h.next hT hd) (fun t ht => ?_) B hx
        rcases List.mem_append.1 ht with ht | ht
        · exact hb t ht
        · rw [List.mem_singleton.1 ht]
          have := hT.1
          exact ⟨Int.emod_nonneg _ (by omega), Int.emod_lt_of_pos _ (by omega)⟩
      · rw [show (setM N a (filT N used x) &&& used == 0) = false by simpa using hd] at hx
        simp at hx
theorem SInv.lt {N : Nat} {a : List Int} {used : Nat} {b : List Int} (hT : Til (N : Int) a) (h : SInv N a used b) : used < 2 ^ N := by
  rw [h.msk]
  exact mskL_lt _ (sms_bd a b hT.1)
theorem SInv.free {N : Nat} {a : List Int} {used : Nat} {b : List Int} (hT : Til (N : Int) a) (h : SInv N a used b) (hu : used ≠ 2 ^ N - 1) : freX N used < N ∧ ((freX N used : Nat) : Int) ∉ sms N a b := by
  obtain ⟨x1, x2, _⟩ := freX_facts (h.lt hT) hu
  refine ⟨x1, fun hx => ?_⟩
  have hbit := mskL_bit (sms N a b) (fun y hy => (sms_bd a b hT.1 y hy).1) (freX N used)
  rw [← h.msk, x2, decide_eq_true hx] at hbit
  cases hbit
/-- each tiling is found -/
theorem fil_complete {N : Nat} {a : List Int} (hT : Til (N : Int) a) : ∀ (f used : Nat) (b R : List Int), 2 ^ N - 1 - used < f → SInv N a used b → (sms N a (b ++ R)).Nodup → (b ++ R).length * a.length = N → (∀ t ∈ R, 0 ≤ t ∧ t < N) → ∃ r, r.Perm R ∧ b ++ r ∈ fil N a f used b
  | 0, _, _, _, hf, _, _, _, _ => by omega
  | f + 1, used, b, R, hf, h, hd, hl, hR => by
    have hap : 0 < a.length := by have := hT.len; omega
    by_cases hu : used = 2 ^ N - 1
    · subst hu
      have h1 := h.full hT
      rw [List.length_append, Nat.add_mul, h1] at hl
      have h2 : R.length * a.length = 0 := by omega
      have h3 : R.length = 0 := by
        rcases Nat.mul_eq_zero.1 h2 with h3 | h3
        · exact h3
        · omega
      have h4 := List.eq_nil_of_length_eq_zero h3
      subst h4
      exact ⟨[], .refl _, by rw [fil_full, List.append_nil]; simp⟩
    · obtain ⟨x1, x2⟩ := h.free hT hu
      have hbd := sms_bd a (b ++ R) hT.1
      have hx := nodup_all hbd hd (by rw [sms_length]; exact hl) (freX N used : Int) (by omega) (by omega)
      rw [sms_append] at hx
      have hx : (freX N used : Int) ∈ sms N a R := by
        rcases List.mem_append.1 hx with hx | hx
        · exact absurd hx x2
        · exact hx
      obtain ⟨t, ht, hxt⟩ := List.mem_flatMap.1 hx
      obtain ⟨y, hy, hyt⟩ := List.mem_map.1 hxt
      have hft := filT_eq (used := used) (hR t ht).1 (hR t ht).2 hyt
      have hdd := hd
      rw [sms_append, List.nodup_append] at hdd
      have hdis : setM N a t &&& used = 0 := by
        rw [h.msk]
        refine (mskL_disj (fun z hz => (tmvL_bd a t hT.1 z hz).1) (fun z hz => (sms_bd a b hT.1 z hz).1)).2 fun z hz hzb => ?_
        exact hdd.2.2 z hzb z (List.mem_flatMap.2 ⟨t, ht, hz⟩) rfl
      have hp : R.Perm (t :: R.erase t) := List.perm_cons_erase ht
      have hp2 : (b ++ R).Perm (b ++ [t] ++ R.erase t) := by
        rw [List.append_assoc]
        exact List.Perm.append_left b hp
      obtain ⟨g1, g2⟩ := fil_used hT (h.lt hT) hdis
      obtain ⟨r, hr, hm⟩ := fil_complete hT f (used ||| setM N a t) (b ++ [t]) (R.erase t) (by omega) (h.next hT hdis) ((sms_perm hp2).nodup_iff.1 hd) (by rw [← hp2.length_eq]; exact hl) (fun u hu => hR u (List.mem_of_mem_erase hu))
      refine ⟨t :: r, (List.Perm.cons t hr).trans hp.symm, ?_⟩
      unfold fil
      rw [show (used == 2 ^ N - 1) = false by simpa using hu, cond_false, List.mem_flatMap]
      refine ⟨y, hy, ?_⟩
      rw [hft, show (setM N a t &&& used == 0) = true by simpa using hdis, cond_true]
      rw [List.append_assoc] at hm
      exact hm
  where
  fil_used {N : Nat} {a : List Int} {used : Nat} {t : Int} (hT : Til (N : Int) a) (hu : used < 2 ^ N) (hd : setM N a t &&& used = 0) : used < used ||| setM N a t ∧ used ||| setM N a t < 2 ^ N :=
    ⟨or_gt hd (mskL_pos (tmvL_ne hT t)), Nat.or_lt_two_pow hu (mskL_lt _ fun x hx => tmvL_bd a t hT.1 x hx)⟩
/-- and each once -/
theorem fil_uniq {N : Nat} {a : List Int} (hT : Til (N : Int) a) : ∀ (f used : Nat) (b : List Int), SInv N a used b → (∀ t ∈ b, 0 ≤ t ∧ t < N) → (fil N a f used b).Pairwise (fun B C => ¬ B.Perm C)
  | 0, _, _, _, _ => by simp [fil]
  | f + 1, used, b, h, hb => by
    by_cases hu : used = 2 ^ N - 1
    · subst hu
      rw [fil_full]
      exact List.pairwise_singleton _ _
    · obtain ⟨x1, x2⟩ := h.free hT hu
      have hbt : ∀ y, ∀ t ∈ b ++ [filT N used y], 0 ≤ t ∧ t < N := fun y t ht => by
        rcases List.mem_append.1 ht with ht | ht
        · exact hb t ht
        · rw [List.mem_singleton.1 ht]
          have := hT.1
          exact ⟨Int.emod_nonneg _ (by omega), Int.emod_lt_of_pos _ (by omega)⟩
      unfold fil
      rw [show (used == 2 ^ N - 1) = false by simpa using hu, cond_false, List.pairwise_flatMap]
      refine ⟨fun y _ => ?_, (asc_nodup hT.2.2.2.1).imp_of_mem ?_⟩
      · by_cases hd : setM N a (filT N used y) &&& used = 0
        · rw [show (setM N a (filT N used y) &&& used == 0) = true by simpa using hd, cond_true]
          exact fil_uniq hT f _ _ (h.next hT hd) (hbt y)
        · rw [show (setM N a (filT N used y) &&& used == 0) = false by simpa using hd]
          exact List.Pairwise.nil
      · intro y z hy hz hne B hB C hC hP
        by_cases hd : setM N a (filT N used y) &&& used = 0
        · rw [show (setM N a (filT N used y) &&& used == 0) = true by simpa using hd, cond_true] at hB
          by_cases hd2 : setM N a (filT N used z) &&& used = 0
          · rw [show (setM N a (filT N used z) &&& used == 0) = true by simpa using hd2, cond_true] at hC
            obtain ⟨r1, hr1⟩ := fil_pre f _ _ B hB
            obtain ⟨r2, hr2⟩ := fil_pre f _ _ C hC
            have hfin := (fil_fin hT f _ _ (h.next hT hd2) (hbt z) C hC).1
            have ht1 : filT N used y ∈ C := hP.mem_iff.1 (by rw [hr1]; simp)
            have ht2 : filT N used z ∈ C := by rw [hr2]; simp
            have e := sms_one hfin.nod ht1 ht2 (filT_cov hy x1) (filT_cov hz x1)
            -- then y and z are the same
            have e1 := filT_cov (used := used) hy x1
            have hyb := hT.2.2.2.2 y hy
            have hzb := hT.2.2.2.2 z hz
            have h1 : (y + filT N used y) % (N : Int) = (freX N used : Int) := by
              unfold filT
              rw [Int.add_emod_emod, show y + ((freX N used : Int) - y) = (freX N used : Int) by omega]
              exact Int.emod_eq_of_lt (by omega) (by omega)
            have h2 : (z + filT N used y) % (N : Int) = (freX N used : Int) := by
              rw [e]
              unfold filT
              rw [Int.add_emod_emod, show z + ((freX N used : Int) - z) = (freX N used : Int) by omega]
              exact Int.emod_eq_of_lt (by omega) (by omega)
            exact hne (mod_inj (n := (N : Int)) (t := filT N used y) hyb hzb (by rw [h1, h2]))
          · rw [show (setM N a (filT N used z) &&& used == 0) = false by simpa using hd2] at hC
            simp at hC
        · rw [show (setM N a (filT N used y) &&& used == 0) = false by simpa using hd] at hB
          simp at hB
end Go.Proofs.Ytiplnfggiffngaa
