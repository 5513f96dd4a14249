/- Natural systems, plain: what the program's widest split comes to. -/
import Derived.Test.YtnmlljhgilpocaaDoorMgA
import Derived.Test.YtnmlljhgilpocaaDoorS4
namespace Go.Proofs.YtnmlljhgilpocaaDoor
open Go.RowKit
/-- the classes of a list below one -/
def belC (r m : Int) (s : List Cl) : List Cl := s.filter fun c => c.2 % m == 0 && c.1 % m == r
/-- classes of a list are classes, and below one -/
def Blw (r m : Int) (s : List Cl) : Prop := ∀ c ∈ s, inB c.1 c.2 = true ∧ c.2 % m = 0 ∧ c.1 % m = r
theorem Blw.vl {r m : Int} {s : List Cl} (h : Blw r m s) : Vl 1000 s := by
  intro c hc
  obtain ⟨h1, h2, h3, h4⟩ := inB_iff.1 (h c hc).1
  exact ⟨h3, h4, h2⟩
theorem belC_blw {r m r' m' : Int} {s : List Cl} (h : Blw r m s) : Blw r' m' (belC r' m' s) := by
  intro c hc
  obtain ⟨h1, h2⟩ := List.mem_filter.1 hc
  obtain ⟨h3, h4⟩ : c.2 % m' = 0 ∧ c.1 % m' = r' := by simpa using h2
  exact ⟨(h c h1).1, h3, h4⟩
theorem pt_belC {r m : Int} {s : List Cl} (hd : ∀ c ∈ s, m ∣ c.2) : pt m r (belC r m s) = pt m r s := by
  unfold pt belC
  rw [List.filter_filter]
  congr 1
  refine List.filter_congr fun c hc => ?_
  have : (c.2 % m == 0) = true := by simpa using Int.emod_eq_zero_of_dvd (hd c hc)
  rw [this]
  simp
theorem pt_len {d r : Int} {s : List Cl} : (pt d r s).length ≤ s.length := by
  unfold pt
  rw [List.length_map]
  exact List.length_filter_le _ _
/-- each of k residue classes has a class: there are k classes at least -/
theorem pigeon {d : Int} : ∀ (k : Nat) (s : List Cl), (∀ i : Nat, i < k → pt d i s ≠ []) → k ≤ s.length := by
  intro k
  induction k with
  | zero => intro s _; exact Nat.zero_le _
  | succ k ih =>
    intro s h
    have hk := h k (by omega)
    -- take out those with the last rest
    have h2 := ih (s.filter fun c => ! (c.1 % d == (k : Int))) (fun i hi => by
      have := h i (by omega)
      intro e
      apply this
      unfold pt at e ⊢
      rw [List.filter_filter] at e
      rw [← e]
      congr 1
      refine List.filter_congr fun c _ => ?_
      by_cases a : c.1 % d = (i : Int)
      · have : ¬ c.1 % d = (k : Int) := by omega
        simp [a]
        omega
      · have : (c.1 % d == (i : Int)) = false := by simpa using a
        rw [this]; rfl)
    have h3 : (s.filter fun c => c.1 % d == (k : Int)).length + (s.filter fun c => ! (c.1 % d == (k : Int))).length = s.length := by
      rw [← List.countP_eq_length_filter, ← List.countP_eq_length_filter]
      have e := List.length_eq_countP_add_countP (p := fun c : Cl => c.1 % d == (k : Int)) (l := s)
      have e2 : (fun a : Cl => decide ¬((a.1 % d == (k : Int)) = true)) = fun a => !(a.1 % d == (k : Int)) := by
        funext a
        cases (a.1 % d == (k : Int)) <;> rfl
      rw [e2] at e
      exact e.symm
    have h4 : 1 ≤ (s.filter fun c => c.1 % d == (k : Int)).length := by
      have : (pt d k s).length = (s.filter fun c => c.1 % d == (k : Int)).length := by simp [pt]
      rw [← this]
      rcases Nat.eq_zero_or_pos (pt d k s).length with h | h
      · exact absurd (List.eq_nil_of_length_eq_zero h) hk
      · exact h
    omega
theorem gcd_pt {m : Nat} {r : Int} {s : List Cl} {n : Nat} (hm : 1 ≤ m) (hv : Vl n s) (hb : ∀ c ∈ s, (m : Int) ∣ c.2 ∧ c.1 % m = r) : gcdL s = m * gcdL (pt m r s) := by
  have hmem : ∀ c ∈ s, ((c.1 - r) / m, c.2 / (m : Int)) ∈ pt m r s := fun c hc => by
    refine List.mem_map.2 ⟨c, List.mem_filter.2 ⟨hc, by simpa using (hb c hc).2⟩, rfl⟩
  have hdiv : ∀ c ∈ s, c.2.toNat = m * (c.2 / (m : Int)).toNat := fun c hc => by
    obtain ⟨q, hq⟩ := (hb c hc).1
    obtain ⟨h1, h2, _⟩ := hv c hc
    have hq0 : 0 ≤ q := by
      rcases Int.lt_or_le q 0 with h | h
      · have := Int.mul_neg_of_pos_of_neg (show (0 : Int) < m by omega) h; omega
      · exact h
    rw [hq, Int.mul_ediv_cancel_left _ (by omega), Int.toNat_mul (by omega) hq0]
    simp
  refine Nat.dvd_antisymm ?_ ?_
  · rcases Nat.eq_zero_or_pos (gcdL s) with h0 | h0
    · by_cases hs : s = []
      · subst hs; simp [pt, gcdL]
      · have := gcdL_pos hs hv; omega
    · have hms : m ∣ gcdL s := dvd_gcdL fun c hc => ⟨_, hdiv c hc⟩
      obtain ⟨q, hq⟩ := hms
      rw [hq]
      refine Nat.mul_dvd_mul_left m (dvd_gcdL fun c hc => ?_)
      obtain ⟨x, hx, rfl⟩ := List.mem_map.1 hc
      have hxs := (List.mem_filter.1 hx).1
      have h1 := gcdL_dvd hxs
      rw [hq, hdiv x hxs] at h1
      exact Nat.dvd_of_mul_dvd_mul_left (by omega) h1
  · refine dvd_gcdL fun c hc => ?_
    rw [hdiv c hc]
    exact Nat.mul_dvd_mul_left m (gcdL_dvd (hmem c hc))
theorem pt_ne {m r : Int} {s : List Cl} (h : Blw r m s) (hs : s ≠ []) : pt m r s ≠ [] := by
  obtain ⟨c, hc⟩ := List.exists_mem_of_ne_nil s hs
  intro e
  have : ((c.1 - r) / m, c.2 / m) ∈ pt m r s := List.mem_map.2 ⟨c, List.mem_filter.2 ⟨hc, by simpa using (h c hc).2.2⟩, rfl⟩
  rw [e] at this
  cases this
/-- the number of parts of the widest split -/
def widI (m : Int) (s : List Cl) : Int := (gcdL s : Int) / m
theorem nat_self {r m : Int} (h : inB r m = true) : nat (pt m r [(r, m)]) = true := by
  obtain ⟨h1, h2, h3, h4⟩ := inB_iff.1 h
  have e : pt m r [(r, m)] = [(0, 1)] := by
    have : (r % m == r) = true := by simpa using Int.emod_eq_of_lt h3 h4
    simp [pt, this, Int.ediv_self (show m ≠ 0 by omega)]
  rw [e]
  decide
theorem wid_facts {r m : Int} {s : List Cl} (hc : inB r m = true) (h : Blw r m s) : widI m s = (gcdL (pt m r s) : Int) ∧ Vl 1000 (pt m r s) := by
  obtain ⟨h1, h2, h3, h4⟩ := inB_iff.1 hc
  obtain ⟨M, rfl⟩ : ∃ M : Nat, m = (M : Int) := ⟨m.toNat, by omega⟩
  have hb : ∀ c ∈ s, (M : Int) ∣ c.2 ∧ c.1 % M = r := fun c hc => ⟨Int.dvd_of_emod_eq_zero (h c hc).2.1, (h c hc).2.2⟩
  have hg := gcd_pt (by omega) h.vl hb
  refine ⟨?_, ?_⟩
  · unfold widI
    rw [hg, Int.natCast_mul, Int.mul_ediv_cancel_left _ (by omega)]
  · by_cases h1M : M = 1
    · subst h1M
      intro c hc
      obtain ⟨x, hx, rfl⟩ := List.mem_map.1 hc
      obtain ⟨hxs, hr⟩ := List.mem_filter.1 hx
      obtain ⟨v1, v2, v3⟩ := h.vl x hxs
      have : r = 0 := by omega
      subst this
      simp only [Int.ofNat_one, Int.ediv_one, Int.sub_zero]
      exact ⟨v1, v2, v3⟩
    · have := pt_vl (n := 1000) (r := r) (by omega) h.vl (fun c hc => (hb c hc).1)
      exact fun c hc => by have := this c hc; omega
theorem nat_one {r m : Int} {s : List Cl} (hc : inB r m = true) (h : Blw r m s) (hne : ¬ s = [(r, m)]) (hk : widI m s = 1) : nat (pt m r s) = false := by
  obtain ⟨h1, h2, h3, h4⟩ := inB_iff.1 hc
  obtain ⟨e1, hv⟩ := wid_facts hc h
  rw [hk] at e1
  have hg : gcdL (pt m r s) = 1 := by omega
  rw [nat_unf hv, hg]
  by_cases hl : (pt m r s).length = 1
  · exfalso
    obtain ⟨c, hcs⟩ := List.length_eq_one_iff.1 hl
    have hall : s.filter (fun c => c.1 % m == r) = s := List.filter_eq_self.2 fun c hc => by simpa using (h c hc).2.2
    have hl2 : s.length = 1 := by
      have := hl
      unfold pt at this
      rw [List.length_map, hall] at this
      exact this
    obtain ⟨x, hx⟩ := List.length_eq_one_iff.1 hl2
    subst hx
    obtain ⟨i1, i2, i3⟩ := h x (by simp)
    obtain ⟨x1, x2, x3, x4⟩ := inB_iff.1 i1
    have hp : pt m r [x] = [((x.1 - r) / m, x.2 / m)] := by
      have : (x.1 % m == r) = true := by simpa using i3
      simp [pt, this]
    rw [hp] at hg
    have hq : (x.2 / m).toNat = 1 := by simpa [gcdL] using hg
    have hxm : x.2 = m := by
      obtain ⟨q, hq2⟩ := Int.dvd_of_emod_eq_zero i2
      rw [hq2, Int.mul_ediv_cancel_left _ (by omega)] at hq
      have : q = 1 := by omega
      rw [hq2, this, Int.mul_one]
    have hxr : x.1 = r := by rw [← i3, ← hxm]; exact (Int.emod_eq_of_lt x3 x4).symm
    exact hne (by rw [← hxm, ← hxr])
  · have : ((pt m r s).length == 1) = false := by simpa using hl
    rw [this]
    rfl
theorem nat_wide {r m : Int} {s : List Cl} (hc : inB r m = true) (h : Blw r m s) (h8 : s.length ≤ 8) (hk : widI m s ≠ 1) : nat (pt m r s) = (bif parB r m (widI m s) then (List.range (widI m s).toNat).all fun i => nat (pt (m * widI m s) (r + (i : Int) * m) (belC (r + (i : Int) * m) (m * widI m s) s)) else false) := by
  obtain ⟨h1, h2, h3, h4⟩ := inB_iff.1 hc
  obtain ⟨e1, hv⟩ := wid_facts hc h
  by_cases hs : s = []
  · subst hs
    have : widI m [] = 0 := by simp [widI, gcdL]
    rw [this]
    have : parB r m 0 = false := parB_f1 (by omega)
    rw [this]
    exact nat_nil
  · have hpn := pt_ne h hs
    have hg1 := gcdL_pos hpn hv
    obtain ⟨k, hkk⟩ : ∃ k : Nat, widI m s = (k : Int) := ⟨_, e1⟩
    have hgk : gcdL (pt m r s) = k := by omega
    have hk2 : 2 ≤ k := by omega
    have hdv : ∀ c ∈ pt m r s, (k : Int) ∣ c.2 := fun c hc => by
      have := gcdL_dvd hc
      rw [hgk] at this
      have hvc := hv c hc
      have := Int.natCast_dvd_natCast.2 this
      rwa [Int.toNat_of_nonneg (by omega)] at this
    have hdiv := nat_div 1000 (Nat.le_refl _) (pt m r s) k hv hk2 hdv
    obtain ⟨M, rfl⟩ : ∃ M : Nat, m = (M : Int) := ⟨m.toNat, by omega⟩
    obtain ⟨R, rfl⟩ : ∃ R : Nat, r = (R : Int) := ⟨r.toNat, by omega⟩
    have hMk : ∀ c ∈ s, ((M * k : Nat) : Int) ∣ c.2 := fun c hc => by
      have h5 : gcdL s = M * gcdL (pt M R s) := gcd_pt (by omega) h.vl (fun c hc => ⟨Int.dvd_of_emod_eq_zero (h c hc).2.1, (h c hc).2.2⟩)
      have := gcdL_dvd hc
      rw [h5, hgk] at this
      have hvc := h.vl c hc
      have := Int.natCast_dvd_natCast.2 this
      rwa [Int.toNat_of_nonneg (by omega)] at this
    rw [hkk, hdiv]
    have hcast : ((M : Int) * (k : Int)) = ((M * k : Nat) : Int) := by simp
    have hparts : ∀ i ∈ List.range k, nat (pt k i (pt M R s)) = nat (pt ((M : Int) * k) ((R : Int) + (i : Int) * M) (belC ((R : Int) + (i : Int) * M) ((M : Int) * k) s)) := fun i hi => by
      rw [hcast, pt_belC hMk, pt_pt (by omega) (by omega) (by omega)]
      congr 2
      simp [Int.mul_comm]
    cases hp : parB R M k
    · rw [cond_false]
      -- too many parts for so few classes
      have hle : ((M * k : Nat) : Int) ≤ 1000 := by
        obtain ⟨c, hcm⟩ := List.exists_mem_of_ne_nil s hs
        have hvc := h.vl c hcm
        have := Int.le_of_dvd (by omega) (hMk c hcm)
        omega
      have hk12 : 12 < k := by
        rcases Nat.lt_or_ge 12 k with h' | h'
        · exact h'
        · rw [parB_tt hc ⟨by omega, by omega⟩ (by rw [hcast]; exact hle)] at hp
          cases hp
      cases hall : (List.range k).all fun r => nat (pt k r (pt M R s)) with
      | false => rfl
      | true =>
        exfalso
        have := pigeon (d := (k : Int)) k (pt M R s) (fun i hi e => by
          have := List.all_eq_true.1 hall i (List.mem_range.2 hi)
          rw [e, nat_nil] at this
          cases this)
        have := pt_len (d := (M : Int)) (r := (R : Int)) (s := s)
        omega
    · rw [cond_true, Int.toNat_natCast]
      exact all_cg hparts
end Go.Proofs.YtnmlljhgilpocaaDoor
