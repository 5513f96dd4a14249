/- A natural list stays natural when one of its classes is split. -/
import Derived.Test.YtnmlljhgilpocaaDoorMgH
import Derived.Test.YtnmlljhgilpocaaDoorS4
import Derived.Test.YtnmlljhgilpocaaDoorMgQ
namespace Go.Proofs.YtnmlljhgilpocaaDoor
open Go.RowKit
theorem pt_app (d r : Int) (a b : List Cl) : pt d r (a ++ b) = pt d r a ++ pt d r b := by
  unfold pt
  rw [List.filter_append, List.map_append]
theorem filter_range {K t : Nat} (h : t < K) : (List.range K).filter (fun i => i == t) = [t] := by
  induction K with
  | zero => omega
  | succ K ih =>
    rw [List.range_succ, List.filter_append]
    by_cases e : t = K
    · subst e
      have : (List.range t).filter (fun i => i == t) = [] := by
        rw [List.filter_eq_nil_iff]
        intro a ha
        have := List.mem_range.1 ha
        simp
        omega
      rw [this]
      simp
    · rw [ih (by omega)]
      have : ¬ K = t := fun h => e h.symm
      simp [this]
theorem pt_whole {K t : Nat} (h : t < K) : pt K t (parL 0 1 K) = [(0, 1)] := by
  unfold pt parL
  rw [Int.toNat_natCast, List.filter_map]
  have e : (List.range K).filter ((fun c : Cl => c.1 % (K : Int) == (t : Int)) ∘ fun (i : Nat) => ((0 : Int) + (i : Int) * 1, (1 : Int) * (K : Int))) = (List.range K).filter fun i => i == t := by
    refine List.filter_congr fun i hi => ?_
    have hi := List.mem_range.1 hi
    simp only [Function.comp, Int.mul_one, Int.zero_add]
    rw [Int.emod_eq_of_lt (by omega) (by omega), Bool.eq_iff_iff]
    simp
    omega
  rw [e, filter_range h]
  have hK : (K : Int) / (K : Int) = 1 := Int.ediv_self (by omega)
  simp [hK]
theorem pt_parL_hit {p m r : Int} {K : Nat} (hp : 0 < p) (hm : p ∣ m) : pt p (r % p) (parL r m K) = parL ((r - r % p) / p) (m / p) K := by
  obtain ⟨q, rfl⟩ := hm
  unfold pt parL
  rw [List.filter_map]
  have e : (List.range (K : Int).toNat).filter ((fun c : Cl => c.1 % p == r % p) ∘ fun (i : Nat) => (r + (i : Int) * (p * q), p * q * (K : Int))) = List.range (K : Int).toNat := by
    rw [List.filter_eq_self]
    intro i _
    simp only [Function.comp]
    rw [Int.mul_left_comm, Int.add_mul_emod_self_left]
    simp
  rw [e, List.map_map]
  refine List.map_congr_left fun i _ => ?_
  simp only [Function.comp]
  have e1 : r + (i : Int) * (p * q) - r % p = (r - r % p) + p * ((i : Int) * q) := by rw [Int.mul_left_comm]; omega
  rw [e1, Int.add_mul_ediv_left _ _ (by omega), Int.mul_ediv_cancel_left _ (by omega), Int.mul_assoc, Int.mul_ediv_cancel_left _ (by omega)]
theorem pt_parL_miss {p m r r0 : Int} {K : Nat} (hm : p ∣ m) (h : ¬ r % p = r0) : pt p r0 (parL r m K) = [] := by
  obtain ⟨q, rfl⟩ := hm
  unfold pt parL
  rw [List.filter_map]
  have e : (List.range (K : Int).toNat).filter ((fun c : Cl => c.1 % p == r0) ∘ fun (i : Nat) => (r + (i : Int) * (p * q), p * q * (K : Int))) = [] := by
    rw [List.filter_eq_nil_iff]
    intro i _
    simp only [Function.comp]
    rw [Int.mul_left_comm, Int.add_mul_emod_self_left]
    simpa using h
  rw [e]
  rfl
theorem nat_one_list : nat [(0, 1)] = true := by
  rw [nat_unf (fun c hc => by
    have : c = (0, 1) := by simpa using hc
    subst this
    decide)]
  rfl
theorem parL_vl {n : Nat} {r m : Int} {K : Nat} (h0 : 0 ≤ r) (h1 : r < m) (hn : m * K ≤ n) : Vl n (parL r m K) := by
  intro c hc
  unfold parL at hc
  obtain ⟨i, hi, rfl⟩ := List.mem_map.1 hc
  have hi := List.mem_range.1 hi
  have hi2 : (i : Int) + 1 ≤ K := by omega
  have := Int.mul_le_mul_of_nonneg_left hi2 (show 0 ≤ m by omega)
  rw [Int.mul_add, Int.mul_one] at this
  have e : m * (i : Int) = (i : Int) * m := Int.mul_comm _ _
  have : 0 ≤ (i : Int) * m := Int.mul_nonneg (by omega) (by omega)
  refine ⟨?_, ?_, hn⟩
  · show 0 ≤ r + (i : Int) * m
    omega
  · show r + (i : Int) * m < m * K
    omega
theorem nat_split : ∀ (n : Nat), n ≤ 1000 → ∀ (r m : Int) (K : Nat) (R : List Cl), Vl n ((r, m) :: R) → m * K ≤ 1000 → 2 ≤ K → nat ((r, m) :: R) = true → nat (parL r m K ++ R) = true := by
  intro n
  induction n with
  | zero =>
    intro _ r m K R hv _ _ _
    obtain ⟨a, b, c⟩ := hv (r, m) List.mem_cons_self
    simp only at a b c
    omega
  | succ n ih =>
    intro hn r m K R hv hmK hK hnat
    have hv1 : Vl 1000 ((r, m) :: R) := fun c hc => by
      obtain ⟨a, b, c⟩ := hv c hc
      exact ⟨a, b, by omega⟩
    obtain ⟨h0, h1, _⟩ := hv1 (r, m) List.mem_cons_self
    simp only at h0 h1
    have hvo : Vl 1000 (parL r m K ++ R) := fun c hc => by
      rcases List.mem_append.1 hc with hc | hc
      · exact parL_vl (n := 1000) h0 h1 hmK c hc
      · exact hv1 c (List.mem_cons_of_mem _ hc)
    rw [nat_unf hv1] at hnat
    cases R with
    | nil =>
      have hm1 : m = 1 := by simpa [mAt] using hnat
      subst hm1
      have hr0 : r = 0 := by omega
      subst hr0
      rw [List.append_nil] at hvo ⊢
      rw [nat_div 1000 (Nat.le_refl _) _ K hvo hK (fun c hc => by
        unfold parL at hc
        obtain ⟨i, hi, rfl⟩ := List.mem_map.1 hc
        exact ⟨1, by simp⟩)]
      rw [List.all_eq_true]
      intro t ht
      rw [pt_whole (List.mem_range.1 ht)]
      exact nat_one_list
    | cons c R =>
      generalize hR : c :: R = R' at *
      have hlen : (((r, m) :: R').length == 1) = false := by rw [← hR]; simp
      rw [hlen, cond_false] at hnat
      cases hg : decide (gcdL ((r, m) :: R') ≤ 1)
      · rw [hg, cond_false] at hnat
        have hg : ¬ gcdL ((r, m) :: R') ≤ 1 := of_decide_eq_false hg
        obtain ⟨p1, p2, p3⟩ := lpd_facts (n := n + 1) (show 2 ≤ gcdL ((r, m) :: R') by omega)
        generalize lpd (gcdL ((r, m) :: R')) = p at *
        have hdv : ∀ c ∈ (r, m) :: R', (p : Int) ∣ c.2 := fun c hc => p3 c hc (hv c hc)
        have hpm : (p : Int) ∣ m := hdv (r, m) List.mem_cons_self
        rw [nat_div 1000 (Nat.le_refl _) _ p hvo p1 (fun c hc => by
          rcases List.mem_append.1 hc with hc | hc
          · unfold parL at hc
            obtain ⟨i, hi, rfl⟩ := List.mem_map.1 hc
            exact Int.dvd_mul_of_dvd_left hpm
          · exact hdv c (List.mem_cons_of_mem _ hc))]
        rw [List.all_eq_true] at hnat ⊢
        intro r0 hr0
        have hpt := hnat r0 hr0
        have hvp := pt_vl (r := (r0 : Int)) p1 hv hdv
        have hcons : pt p r0 ((r, m) :: R') = pt p r0 [(r, m)] ++ pt p r0 R' := pt_app _ _ [(r, m)] R'
        rw [pt_app]
        by_cases he : r % (p : Int) = r0
        · have e1 : pt p r0 [(r, m)] = [((r - r0) / p, m / p)] := by simp [pt, he]
          rw [hcons, e1] at hpt hvp
          have e2 : pt p r0 (parL r m K) = parL ((r - r0) / p) (m / p) K := by
            have := pt_parL_hit (p := (p : Int)) (m := m) (r := r) (K := K) (by omega) hpm
            rwa [he] at this
          rw [e2]
          refine ih (by omega) _ _ K _ hvp ?_ hK hpt
          have hle : m / (p : Int) ≤ m := Int.ediv_le_self _ (by omega)
          have := Int.mul_le_mul_of_nonneg_right hle (show (0 : Int) ≤ K by omega)
          omega
        · have e1 : pt p r0 [(r, m)] = [] := by simp [pt, he]
          rw [hcons, e1] at hpt
          rw [pt_parL_miss hpm he]
          exact hpt
      · rw [hg, cond_true] at hnat
        cases hnat
end Go.Proofs.YtnmlljhgilpocaaDoor
namespace Go.Proofs.YtnmlljhgilpocaaDoor
open Go.RowKit
theorem crt {m n : Nat} (hn : 1 ≤ n) (hc : Nat.Coprime n m) (r s : Nat) : ∃ t, (r + t * m) % n = s % n := by
  refine Classical.byContradiction fun hno => ?_
  have hne : ∀ t, (r + t * m) % n ≠ s % n := fun t h => hno ⟨t, h⟩
  have hlt : ∀ t, (r + t * m + (n - s % n)) % n < n := fun t => Nat.mod_lt _ (by omega)
  have hs : s % n < n := Nat.mod_lt _ (by omega)
  have h0 : ∀ t, (r + t * m + (n - s % n)) % n ≠ 0 := fun t h => hne t (by
    have h1 : (r + t * m + (n - s % n) + s % n) % n = s % n := by rw [Nat.add_mod, h, Nat.zero_add, Nat.mod_mod, Nat.mod_mod]
    rw [show r + t * m + (n - s % n) + s % n = r + t * m + n by omega, Nat.add_mod_right] at h1
    exact h1)
  refine pigeon2 (n - 1) (fun t => (r + t * m + (n - s % n)) % n - 1) (fun t ht => ?_) fun a b ha hb hab => ?_
  · have := hlt t
    have := h0 t
    show (r + t * m + (n - s % n)) % n - 1 < n - 1
    omega
  · have e : (r + a * m + (n - s % n)) % n = (r + b * m + (n - s % n)) % n := by
      have h1 := h0 a
      have h2 := h0 b
      have hab : (r + a * m + (n - s % n)) % n - 1 = (r + b * m + (n - s % n)) % n - 1 := hab
      omega
    have key : ∀ a b, a ≤ b → b ≤ n - 1 → (r + a * m + (n - s % n)) % n = (r + b * m + (n - s % n)) % n → a = b := by
      intro a b hle hb h
      have h2 := Nat.dvd_of_mod_eq_zero (Nat.sub_mod_eq_zero_of_mod_eq h.symm)
      have h3 : r + b * m + (n - s % n) - (r + a * m + (n - s % n)) = m * (b - a) := by
        rw [Nat.mul_sub, Nat.mul_comm m b, Nat.mul_comm m a]
        have := Nat.mul_le_mul_right m hle
        omega
      rw [h3] at h2
      have h4 := hc.dvd_of_dvd_mul_left h2
      rcases Nat.eq_zero_or_pos (b - a) with h5 | h5
      · omega
      · have := Nat.le_of_dvd h5 h4
        omega
    rcases Nat.le_total a b with hle | hle
    · exact key a b hle hb e
    · exact (key b a hle ha e.symm).symm
def twB (P : Nat) (a : Nat × Nat) : Bool := (List.range (P + 1)).all fun d => Nat.ble d 1 || !(Nat.beq (Nat.mod P d) 0) || Nat.beq (Nat.mod d a.1) 0 || Nat.beq (Nat.mod d a.2) 0
def twC (lo n : Nat) : Bool := (List.range n).all fun i => Nat.blt 6 (usN (lo + i)) || ([(2, 3), (2, 5), (3, 5), (7, 7)] : List (Nat × Nat)).any fun a => twB (lo + i) a
theorem twC0 : twC 1 500 = true := by decide +kernel
theorem twC1 : twC 501 500 = true := by decide +kernel
theorem two_primes {P : Nat} (h1 : 1 ≤ P) (h2 : P ≤ 1000) (h : usN P ≤ 6) : ∃ p q, 2 ≤ p ∧ 2 ≤ q ∧ ∀ d, 1 ≤ d → d ∣ P → ¬ p ∣ d → ¬ q ∣ d → d = 1 := by
  have ht : ([(2, 3), (2, 5), (3, 5), (7, 7)] : List (Nat × Nat)).any (fun a => twB P a) = true := by
    have part : ∀ lo, twC lo 500 = true → lo ≤ P → P < lo + 500 → ([(2, 3), (2, 5), (3, 5), (7, 7)] : List (Nat × Nat)).any (fun a => twB P a) = true := fun lo hh a b => by
      have := List.all_eq_true.1 hh (P - lo) (List.mem_range.2 (by omega))
      rw [show lo + (P - lo) = P by omega, Bool.or_eq_true] at this
      rcases this with h3 | h3
      · have : 6 < usN P := by simpa using h3
        omega
      · exact h3
    rcases Nat.lt_or_ge P 501 with h' | h'
    · exact part 1 twC0 h1 h'
    · exact part 501 twC1 h' (by omega)
  rw [List.any_eq_true] at ht
  obtain ⟨a, ha, hb⟩ := ht
  have h2' : 2 ≤ a.1 ∧ 2 ≤ a.2 := by
    simp at ha
    rcases ha with rfl | rfl | rfl | rfl <;> exact ⟨by decide, by decide⟩
  refine ⟨a.1, a.2, h2'.1, h2'.2, fun d d1 hd n1 n2 => ?_⟩
  unfold twB at hb
  have := List.all_eq_true.1 hb d (List.mem_range.2 (by have := Nat.le_of_dvd h1 hd; omega))
  simp only [Bool.or_eq_true] at this
  rcases this with ((h3 | h3) | h3) | h3
  · have := Nat.le_of_ble_eq_true h3
    omega
  · have e : Nat.mod P d = 0 := Nat.mod_eq_zero_of_dvd hd
    rw [e] at h3
    cases h3
  · exact absurd (Nat.dvd_of_mod_eq_zero (Nat.eq_of_beq_eq_true h3)) n1
  · exact absurd (Nat.dvd_of_mod_eq_zero (Nat.eq_of_beq_eq_true h3)) n2
end Go.Proofs.YtnmlljhgilpocaaDoor
namespace Go.Proofs.YtnmlljhgilpocaaDoor
open Go.RowKit
theorem gcd_two {E : Int} {zs : List Cl} (hD : Div E zs) (hone : ∀ x : Int, cntN zs x = 1) (h2 : 2 ≤ zs.length) (h7 : zs.length ≤ 7) : 2 ≤ gcdL zs := by
  refine Classical.byContradiction fun hlt => ?_
  obtain ⟨_, P1, P2, P3⟩ := hD.per
  have hu := enoughU hD hone
  rw [usL_len] at hu
  have hin : ∀ c ∈ zs, 1 ≤ c.2 ∧ c.2 ≤ 1000 ∧ 0 ≤ c.1 ∧ c.1 < c.2 := fun c hc => inB_iff.1 (hD.2.2 c hc).1
  obtain ⟨p, q, p2, q2, hT⟩ := two_primes (P := (perI zs).toNat) (by omega) (by omega) (by omega)
  have hdiv : ∀ c ∈ zs, c.2.toNat ∣ (perI zs).toNat := fun c hc => by
    have h1 := (hin c hc).1
    refine Int.natCast_dvd_natCast.1 ?_
    rw [Int.toNat_of_nonneg (by omega), Int.toNat_of_nonneg (by omega)]
    exact P3 c hc
  have hnot : ∀ p, 2 ≤ p → ∃ c ∈ zs, ¬ p ∣ c.2.toNat := fun p hp => Classical.byContradiction fun hno => by
    have hg : p ∣ gcdL zs := dvd_gcdL fun c hc => Classical.byContradiction fun h => hno ⟨c, hc, h⟩
    have hpos : 1 ≤ gcdL zs := gcdL_pos (n := 1000) (s := zs) (fun h => by rw [h] at h2; simp at h2) fun c hc => by
      have := hin c hc
      exact ⟨this.2.2.1, this.2.2.2, by omega⟩
    have := Nat.le_of_dvd hpos hg
    omega
  obtain ⟨c, hc, hcp⟩ := hnot p p2
  obtain ⟨d, hd, hdq⟩ := hnot q q2
  have hcI := hin c hc
  have hdI := hin d hd
  by_cases hcd : c = d
  · subst hcd
    have h1 := hT c.2.toNat (by omega) (hdiv c hc) hcp hdq
    have hc2 : c.2 = 1 := by omega
    have hc1 : c.1 = 0 := by omega
    have hall : ∀ e ∈ zs, e = c := fun e he => Classical.byContradiction fun hne => by
      have := cnt_two he hc hne (x := e.1) (Int.emod_eq_of_lt (hin e he).2.2.1 (hin e he).2.2.2) (by rw [hc2, hc1, Int.emod_one])
      rw [hone] at this
      omega
    have h3 := hone 0
    rw [cntN_countP] at h3
    have : zs.countP (fun c => (0 : Int) % c.2 == c.1) = zs.length := by
      rw [List.countP_eq_length]
      intro e he
      rw [hall e he, hc1]
      simp
    omega
  · have hg : Nat.gcd d.2.toNat c.2.toNat = 1 := by
      refine hT _ (Nat.gcd_pos_of_pos_left _ (by omega)) (Nat.dvd_trans (Nat.gcd_dvd_left _ _) (hdiv d hd)) (fun h => hcp (Nat.dvd_trans h (Nat.gcd_dvd_right _ _))) fun h => hdq (Nat.dvd_trans h (Nat.gcd_dvd_left _ _))
    obtain ⟨t, ht⟩ := crt (m := c.2.toNat) (n := d.2.toNat) (by omega) hg c.1.toNat d.1.toNat
    have h1 : ((c.1.toNat + t * c.2.toNat : Nat) : Int) % c.2 = c.1 := by
      have e : (c.1.toNat + t * c.2.toNat) % c.2.toNat = c.1.toNat := by
        rw [Nat.add_mul_mod_self_right, Nat.mod_eq_of_lt (by omega)]
      have := congrArg (fun n : Nat => (n : Int)) e
      simp only [Int.natCast_emod] at this
      rw [Int.toNat_of_nonneg (show 0 ≤ c.2 by omega)] at this
      rw [this]
      omega
    have h3 : ((c.1.toNat + t * c.2.toNat : Nat) : Int) % d.2 = d.1 := by
      rw [Nat.mod_eq_of_lt (show d.1.toNat < d.2.toNat by omega)] at ht
      have := congrArg (fun n : Nat => (n : Int)) ht
      simp only [Int.natCast_emod] at this
      rw [Int.toNat_of_nonneg (show 0 ≤ d.2 by omega)] at this
      rw [this]
      omega
    have := cnt_two hc hd hcd h1 h3
    rw [hone] at this
    omega
theorem pt_len (d r : Int) (s : List Cl) : (pt d r s).length ≤ s.length := by
  unfold pt
  rw [List.length_map]
  exact List.length_filter_le _ _
theorem small_nat : ∀ (n : Nat), n ≤ 1000 → ∀ (E : Int) (zs : List Cl), Vl n zs → Div E zs → (∀ x : Int, cntN zs x = 1) → zs.length ≤ 7 → nat zs = true := by
  intro n
  induction n with
  | zero =>
    intro _ E zs hv _ hone _
    have h0 := hone 0
    have : zs = [] := nil_of (f := 0) hv rfl
    subst this
    rw [cntN_countP] at h0
    simp at h0
  | succ n ih =>
    intro hn E zs hv hD hone h7
    have hv1 : Vl 1000 zs := fun c hc => by
      obtain ⟨a, b, c⟩ := hv c hc
      exact ⟨a, b, by omega⟩
    rw [nat_unf hv1]
    rcases Nat.lt_or_ge zs.length 2 with hl | hl
    · have hl1 : zs.length = 1 := by
        rcases Nat.eq_zero_or_pos zs.length with h | h
        · have : zs = [] := List.eq_nil_of_length_eq_zero h
          subst this
          have h0 := hone 0
          rw [cntN_countP] at h0
          simp at h0
        · omega
      match zs, hl1 with
      | [c], _ =>
        have hc := hv1 c List.mem_cons_self
        have h0 := hone (c.1 + 1)
        rw [cntN_countP] at h0
        have h1 : (c.1 + 1) % c.2 = c.1 := by
          refine Classical.byContradiction fun hne => ?_
          have : [c].countP (fun d => (c.1 + 1) % d.2 == d.1) = 0 := by
            rw [List.countP_eq_zero]
            intro d hd
            have : d = c := by simpa using hd
            subst this
            simpa using hne
          omega
        have h2 : c.2 = 1 := by
          rcases Int.lt_or_le (c.1 + 1) c.2 with h | h
          · rw [Int.emod_eq_of_lt (by omega) h] at h1
            omega
          · have : c.1 + 1 = c.2 := by omega
            rw [this, Int.emod_self] at h1
            omega
        simp [mAt, h2]
    · have hg := gcd_two hD hone hl h7
      have hlen : (zs.length == 1) = false := by simp; omega
      rw [hlen, cond_false, decide_eq_false (show ¬ gcdL zs ≤ 1 by omega), cond_false, List.all_eq_true]
      obtain ⟨p1, p2, p3⟩ := lpd_facts (n := n + 1) hg
      generalize lpd (gcdL zs) = p at *
      have hdv : ∀ c ∈ zs, (p : Int) ∣ c.2 := fun c hc => p3 c hc (hv c hc)
      intro r hr
      have hr := List.mem_range.1 hr
      have hvp := pt_vl (r := (r : Int)) p1 hv hdv
      have hlp := pt_len (p : Int) (r : Int) zs
      refine ih (by omega) E _ hvp ⟨hD.1, hD.2.1, fun c hc => ?_⟩ (fun x => ?_) (by omega)
      · obtain ⟨a, b, c3⟩ := hvp c hc
        refine ⟨inB_iff.2 ⟨by omega, by omega, a, b⟩, ?_⟩
        unfold pt at hc
        obtain ⟨e, he, rfl⟩ := List.mem_map.1 hc
        have he := (List.mem_filter.1 he).1
        obtain ⟨k, hk⟩ := hdv e he
        show e.2 / (p : Int) ∣ E
        have h5 := (hD.2.2 e he).2
        rw [hk, Int.mul_ediv_cancel_left _ (by omega)]
        rw [hk] at h5
        exact Int.dvd_trans ⟨(p : Int), Int.mul_comm _ _⟩ h5
      · have h5 := pt_count (d := p) (by omega) ((p : Int) * x + r) zs hv hdv
        have e1 : ((p : Int) * x + r) % p = r := by
          rw [Int.add_comm, Int.add_mul_emod_self_left, Int.emod_eq_of_lt (by omega) (by omega)]
        have e2 : ((p : Int) * x + r) / p = x := by
          rw [Int.add_comm, Int.add_mul_ediv_left _ _ (by omega), Int.ediv_eq_zero_of_lt (by omega) (by omega)]
          omega
        rw [e1, e2] at h5
        have h6 := hone ((p : Int) * x + r)
        rw [cntN_countP] at h6 ⊢
        rw [h5]
        exact h6
end Go.Proofs.YtnmlljhgilpocaaDoor
namespace Go.Proofs.YtnmlljhgilpocaaDoor
open Go.RowKit
theorem nat_spt {zs : List Cl} {i K : Nat} (hs : sysB zs = true) (ho : sysB (sptL zs i (K : Int)) = true) (hi : i < zs.length) (hK : 1 ≤ K) : nat (sptL zs i (K : Int)) = nat zs := by
  obtain ⟨l1, l2, ha, _⟩ := sysB_facts hs
  obtain ⟨o1, o2, oa, _⟩ := sysB_facts ho
  have hlen := spt_length (K := K) hi
  obtain ⟨m1, m2, r1, r2⟩ := inB_iff.1 (allB_at ha i hi)
  have hzi : zs[i] = (rAt zs i, mAt zs i) := by simp [rAt, mAt, hi]
  have hsp : zs = zs.take i ++ (rAt zs i, mAt zs i) :: zs.drop (i + 1) := by
    rw [← hzi, ← List.drop_eq_getElem_cons hi, List.take_append_drop]
  by_cases hK1 : K = 1
  · subst hK1
    have e : parL (rAt zs i) (mAt zs i) ((1 : Nat) : Int) = [(rAt zs i, mAt zs i)] := by simp [parL]
    unfold sptL
    rw [e, List.append_assoc]
    exact congrArg nat hsp.symm
  · have hp1 : List.Perm zs ((rAt zs i, mAt zs i) :: (zs.take i ++ zs.drop (i + 1))) := by
      have h : List.Perm (zs.take i ++ (rAt zs i, mAt zs i) :: zs.drop (i + 1)) ((rAt zs i, mAt zs i) :: (zs.take i ++ zs.drop (i + 1))) := List.perm_middle
      rwa [← hsp] at h
    have hp2 : List.Perm (sptL zs i (K : Int)) (parL (rAt zs i) (mAt zs i) K ++ (zs.take i ++ zs.drop (i + 1))) := by
      unfold sptL
      rw [← List.append_assoc]
      exact List.Perm.append_right _ List.perm_append_comm
    have hv := allB_vl ha
    have hvo := allB_vl oa
    have hmK : mAt zs i * (K : Int) ≤ 1000 := by
      have : (rAt zs i + ((0 : Nat) : Int) * mAt zs i, mAt zs i * (K : Int)) ∈ sptL zs i (K : Int) := by
        refine hp2.symm.subset (List.mem_append_left _ ?_)
        unfold parL
        exact List.mem_map.2 ⟨0, List.mem_range.2 (by omega), rfl⟩
      exact (hvo _ this).2.2
    cases hn : nat zs
    · cases hno : nat (sptL zs i (K : Int))
      · rfl
      · have hone : ∀ x : Int, cntN zs x = 1 := fun x => by rw [← spt_cnt (zs := zs) hi r1 r2 hK x]; exact nat_once hvo hno x
        have := small_nat 1000 (Nat.le_refl _) _ zs hv (Div.sys hs) hone (by omega)
        rw [hn] at this
        cases this
    · rw [nat_perm hp1] at hn
      rw [nat_perm hp2]
      exact nat_split 1000 (Nat.le_refl _) _ _ K _ (fun c hc => hv c (hp1.symm.subset hc)) hmK (by omega) hn
end Go.Proofs.YtnmlljhgilpocaaDoor
