/- Rests that lead back to 1, and bases without their last modulus. -/
import Derived.Test.YtnbejgbkabaleaaMathU
import Derived.Test.YtnbejgbkabaleaaBk
namespace Go.Proofs.Ytnbejgbkabaleaa
open Go.RowKit
theorem inv_one {m s a b : Int} (ha : 0 ≤ a ∧ a < m) (hb : 0 ≤ b ∧ b < m) (h1 : s * a % m = 1) (h2 : s * b % m = 1) : a = b := by
  have e1 : a * (s * b) % m = a := by rw [Int.mul_emod, h2, Int.mul_one, Int.emod_emod_of_dvd _ (Int.dvd_refl _)]; exact Int.emod_eq_of_lt ha.1 ha.2
  have e2 : b * (s * a) % m = b := by rw [Int.mul_emod, h1, Int.mul_one, Int.emod_emod_of_dvd _ (Int.dvd_refl _)]; exact Int.emod_eq_of_lt hb.1 hb.2
  have e3 : a * (s * b) = b * (s * a) := by rw [Int.mul_left_comm a s b, Int.mul_left_comm b s a, Int.mul_comm a b]
  rw [e3] at e1
  exact e1.symm.trans e2
theorem inv_is {m s : Int} {r : Nat} (hr : (r : Int) < m) (h : s * (r : Int) % m = 1) : inv m s = r := by
  obtain ⟨M, rfl⟩ := Int.eq_ofNat_of_zero_le (show 0 ≤ m by omega)
  unfold inv
  rw [Int.toNat_natCast]
  have key : ∀ K, r < K → K ≤ M → invS M s K = r := by
    intro K
    induction K with
    | zero => intro h _; omega
    | succ K ih =>
      intro h1 h2
      by_cases e : r = K
      · subst e; exact invS_t h
      · have hk : ¬ s * (K : Int) % M = 1 := fun hq => by
          have := inv_one (m := (M : Int)) (a := (K : Int)) (b := (r : Int)) ⟨by omega, by omega⟩ ⟨by omega, by omega⟩ hq h
          omega
        rw [invS_f hk]
        exact ih (by omega) (by omega)
  exact key M (by omega) (Nat.le_refl _)
theorem bak_at {zs ys : List Int} (h : bacB zs ys = true) (i : Nat) (hi : i < zs.length) : zA ys i * invZ zs ys i % mo zs i = 1 := by
  unfold bacB at h
  simp only [Bool.and_eq_true] at h
  obtain ⟨h1, h2⟩ := h
  have hm := okZ_mod h1 i hi
  have hl := bas_len (okZ_bas h1)
  have ho : (1 : Int) % mo zs i = 1 := Int.emod_eq_of_lt (by omega) (by omega)
  unfold bakB at h2
  simp only [Bool.and_eq_true, beq_iff_eq] at h2
  rcases (show i = 0 ∨ i = 1 ∨ i = 2 ∨ i = 3 by omega) with rfl | rfl | rfl | rfl
  · rw [h2.1.1.1, ho]
  · rw [h2.1.1.2, ho]
  · rw [h2.1.2, ho]
  · rw [h2.2, ho]
theorem inv_lt {zs ys : List Int} (h : okZ zs ys = true) (i : Nat) (hi : i < zs.length) : 0 ≤ invZ zs ys i ∧ invZ zs ys i < mo zs i := by
  have hm := okZ_mod h i hi
  have := invS_bd (mo zs i) (zA ys i) (mo zs i).toNat
  unfold invZ inv
  omega
theorem bac_back {zs ys : List Int} (h : bacB zs ys = true) :
    twoB zs ys (bacR zs ys) = true ∧ (mulR zs ys (bacR zs ys)).length = zs.length ∧ (∀ k, k < zs.length → (mulR zs ys (bacR zs ys))[k]?.getD 0 = 1) ∧ bacB zs (bacR zs ys) = true ∧ bacR zs (bacR zs ys) = ys := by
  have hok : okZ zs ys = true := by unfold bacB at h; simp only [Bool.and_eq_true] at h; exact h.1
  have hb := okZ_bas hok
  have hl := bas_len hb
  have hV : bacR zs ys = four (invZ zs ys) zs.length := by unfold bacR; rw [h]; rfl
  have hoV : okZ zs (bacR zs ys) = true := by rw [hV]; exact four_ok hb (fun i hi => inv_lt hok i hi)
  have hzV : ∀ i, i < zs.length → zA (bacR zs ys) i = invZ zs ys i := fun i hi => by rw [hV, zA_four _ _ hl.2, decide_eq_true hi]; rfl
  have hT : twoB zs ys (bacR zs ys) = true := by rw [twoB_and, hok, hoV]; rfl
  have hM : mulR zs ys (bacR zs ys) = four (fun i => (zA ys i * zA (bacR zs ys) i) % mo zs i) zs.length := by unfold mulR; rw [hT]; rfl
  have hI : ∀ i, i < zs.length → invZ zs (bacR zs ys) i = zA ys i := fun i hi => by
    obtain ⟨r, hr⟩ := Int.eq_ofNat_of_zero_le (okZ_at hok i hi).1
    have h1 := bak_at h i hi
    have hlt : zA ys i < mo zs i := by
      have ht : tolZ zs ys = true := by unfold okZ at hok; simp only [Bool.and_eq_true] at hok; exact hok.2
      exact (((tolZ_iff hb).1 ht).2 i hi).2
    show inv (mo zs i) (zA (bacR zs ys) i) = zA ys i
    rw [hzV i hi, hr]
    exact inv_is (by omega) (by rw [← hr, Int.mul_comm]; exact h1)
  have hB : bacB zs (bacR zs ys) = true := bacB_t hoV fun k hk => by
    rw [hI k hk]
    intro e
    have h1 := bak_at h k hk
    rw [e, Int.zero_mul, Int.zero_emod] at h1
    omega
  refine ⟨hT, by rw [hM]; exact four_len hl.2, fun k hk => ?_, hB, ?_⟩
  · rw [hM, four_get hl.2 hk, hzV k hk]
    exact bak_at h k hk
  · have : bacR zs (bacR zs ys) = four (invZ zs (bacR zs ys)) zs.length := by
      have e : bacR zs (bacR zs ys) = bacL zs (bacR zs ys) := by
        show (bif bacB zs (bacR zs ys) then bacL zs (bacR zs ys) else []) = _
        rw [hB]; rfl
      rw [e]; rfl
    rw [this, four_congr hl.2 hI]
    exact four_zA (okZ_len hok) hl.2
theorem mo_take (zs : List Int) (k i : Nat) (hi : i < k) : mo (zs.take k) i = mo zs i := by
  unfold mo
  rw [List.getElem?_take]
  simp [hi]
theorem pZ_take (zs : List Int) (k : Nat) (hk : k ≤ 4) (j : Nat) (hj : j ≤ k) : pZ (zs.take k) j = pZ zs j := by
  induction j with
  | zero => rfl
  | succ j ih => rw [pZ_succ _ j (by omega), pZ_succ zs j (by omega), ih (by omega), mo_take zs k j (by omega)]
theorem okS_take (zs : List Int) (k : Nat) (hk : k ≤ 4) (j : Nat) (hj : j ≤ k) : okS (zs.take k) j = okS zs j := by
  induction j with
  | zero => rfl
  | succ j ih => simp only [okS]; rw [ih (by omega), mo_take zs k j (by omega), pZ_take zs k hk j (by omega)]
theorem okS_less {zs : List Int} {n k : Nat} (h : okS zs n = true) (hk : k ≤ n) : okS zs k = true := by
  induction n with
  | zero => obtain rfl : k = 0 := by omega
            rfl
  | succ n ih =>
    by_cases e : k = n + 1
    · subst e; exact h
    · simp only [okS, Bool.and_eq_true] at h
      exact ih h.1.1.1 (by omega)
theorem bas_take {zs : List Int} (h : basB zs = true) (k : Nat) (h1 : 1 ≤ k) (hk : k ≤ zs.length) : basB (zs.take k) = true ∧ sizZ (zs.take k) = pZ zs k := by
  have hl := bas_len h
  have hlen : (zs.take k).length = k := by rw [List.length_take]; omega
  have hs : okS zs zs.length = true := by unfold basB at h; simp only [Bool.and_eq_true] at h; exact h.2
  constructor
  · unfold basB
    rw [hlen, decide_eq_true (show 1 ≤ k ∧ k ≤ 4 by omega), okS_take zs k (by omega) k (Nat.le_refl _), okS_less hs hk]; rfl
  · rw [← pZ_all (by omega), hlen, pZ_take zs k (by omega) k (Nat.le_refl _)]
theorem siz_last {zs : List Int} (h : basB zs = true) : pZ zs (zs.length - 1) * mo zs (zs.length - 1) = sizZ zs := by
  have hl := bas_len h
  rw [← pZ_succ zs _ (by omega), show zs.length - 1 + 1 = zs.length by omega, pZ_all hl.2]
end Go.Proofs.Ytnbejgbkabaleaa
