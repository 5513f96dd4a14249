/- Chapter 7 in plain: tiles, lists in order, what is moved, scaled; no function of the program is named here. -/
import Derived.Test.YtiplnfggiffngaaMathS
import Derived.Test.YtiplnfggiffngaaMathY
namespace Go.Proofs.Ytiplnfggiffngaa
/-- a tile of the circle with n places -/
def Til (n : Int) (z : List Int) : Prop := 1 ≤ n ∧ n ≤ 24 ∧ z ≠ [] ∧ z.Pairwise (· < ·) ∧ ∀ x ∈ z, 0 ≤ x ∧ x ≤ n - 1
instance (n : Int) (z : List Int) : Decidable (Til n z) := by unfold Til; infer_instance
def tilB (n : Int) (z : List Int) : Bool := decide (Til n z)
def tasB (z : List Int) : Bool := decide (z.Pairwise (· < ·))
def gZ (z : List Int) (i : Nat) : Int := z[i]?.getD 0
theorem gZ_get (z : List Int) (i : Nat) (h : i < z.length) : gZ z i = z[i] := by simp [gZ, h]
theorem gZ_mem (z : List Int) (i : Nat) (h : i < z.length) : gZ z i ∈ z := by rw [gZ_get z i h]; exact List.getElem_mem h
theorem asc_iff (z : List Int) : z.Pairwise (· < ·) ↔ ∀ i, i + 1 < z.length → gZ z i < gZ z (i + 1) := by
  constructor
  · intro h i hi
    rw [gZ_get z i (by omega), gZ_get z (i + 1) hi]
    exact List.pairwise_iff_getElem.1 h i (i + 1) (by omega) hi (by omega)
  · intro h
    rw [List.pairwise_iff_getElem]
    intro i j hi hj hij
    rw [← gZ_get z i hi, ← gZ_get z j hj]
    obtain ⟨d, rfl⟩ : ∃ d, j = i + d + 1 := ⟨j - i - 1, by omega⟩
    clear hij hi
    induction d with
    | zero => exact h i hj
    | succ d ih =>
      have h1 := ih (by omega)
      have h2 := h (i + d + 1) hj
      have e : i + d + 1 + 1 = i + (d + 1) + 1 := by omega
      rw [e] at h2
      omega
theorem asc_lt {z : List Int} (h : z.Pairwise (· < ·)) {i j : Nat} (hij : i < j) (hj : j < z.length) : gZ z i < gZ z j := by
  rw [gZ_get z i (by omega), gZ_get z j hj]
  exact List.pairwise_iff_getElem.1 h i j (by omega) hj hij
theorem asc_add {z : List Int} (h : z.Pairwise (· < ·)) : ∀ i, i < z.length → gZ z 0 + i ≤ gZ z i := by
  intro i
  induction i with
  | zero => intro _; omega
  | succ i ih =>
    intro hi
    have h1 := ih (by omega)
    have h2 := asc_lt h (show i < i + 1 by omega) hi
    omega
theorem Til.len {n : Int} {z : List Int} (h : Til n z) : 1 ≤ z.length ∧ (z.length : Int) ≤ n := by
  obtain ⟨h1, h2, h3, h4, h5⟩ := h
  have hp : 0 < z.length := List.length_pos_iff.2 h3
  refine ⟨hp, ?_⟩
  have a1 := asc_add h4 (z.length - 1) (by omega)
  have a2 := (h5 _ (gZ_mem z 0 hp)).1
  have a3 := (h5 _ (gZ_mem z (z.length - 1) (by omega))).2
  omega
theorem Til.at {n : Int} {z : List Int} (h : Til n z) (i : Nat) (hi : i < z.length) : 0 ≤ gZ z i ∧ gZ z i ≤ n - 1 := h.2.2.2.2 _ (gZ_mem z i hi)
theorem tilB_t {n : Int} {z : List Int} : tilB n z = true ↔ Til n z := by simp [tilB]
theorem tilB_f {n : Int} {z : List Int} : tilB n z = false ↔ ¬ Til n z := by simp [tilB]
/-- what the first k rounds have looked at -/
def OkK (M : Int) (z : List Int) (k : Nat) : Prop := (∀ i, i < k → 0 ≤ gZ z i ∧ gZ z i ≤ M) ∧ ∀ i, i + 1 < k → gZ z i < gZ z (i + 1)
theorem OkK.zero (M : Int) (z : List Int) : OkK M z 0 := ⟨fun i h => by omega, fun i h => by omega⟩
theorem OkK.succ {M : Int} {z : List Int} {k : Nat} (h : OkK M z k) (h0 : 0 ≤ gZ z k ∧ gZ z k ≤ M) (h1 : k = 0 ∨ gZ z (k - 1) < gZ z k) : OkK M z (k + 1) := by
  refine ⟨fun i hi => ?_, fun i hi => ?_⟩
  · rcases Nat.lt_succ_iff_lt_or_eq.1 hi with h2 | rfl
    · exact h.1 i h2
    · exact h0
  · rcases Nat.lt_succ_iff_lt_or_eq.1 hi with h2 | h2
    · exact h.2 i h2
    · rcases h1 with h1 | h1
      · omega
      · have : i = k - 1 := by omega
        subst this
        rw [h2]
        exact h1
theorem Til.of {n : Int} {z : List Int} (h : OkK (n - 1) z z.length) (n1 : 1 ≤ n) (n2 : n ≤ 24) (hz : z ≠ []) : Til n z := by
  refine ⟨n1, n2, hz, (asc_iff z).2 h.2, fun x hx => ?_⟩
  obtain ⟨i, hi, rfl⟩ := List.mem_iff_getElem.1 hx
  rw [← gZ_get z i hi]
  exact h.1 i hi
theorem Til.no_at {n : Int} {z : List Int} (k : Nat) (hk : k < z.length) (h0 : ¬ (0 ≤ gZ z k ∧ gZ z k ≤ n - 1)) : tilB n z = false := tilB_f.2 fun h => h0 (h.at k hk)
theorem Til.no_asc {n : Int} {z : List Int} (k : Nat) (hk : k + 1 < z.length) (h0 : gZ z (k + 1) ≤ gZ z k) : tilB n z = false := tilB_f.2 fun h => by
  have := (asc_iff z).1 h.2.2.2.1 k hk
  omega
theorem Til.no_n {n : Int} {z : List Int} (h : l6B n 1 24 = false) : tilB n z = false := tilB_f.2 fun hT => by
  have h1 := hT.1
  have h2 := hT.2.1
  simp [l6B] at h
  omega
theorem Til.no_nil (n : Int) : tilB n [] = false := tilB_f.2 fun hT => hT.2.2.1 rfl
/-! by the ends alone -/
theorem asc_ends {z : List Int} (h : z.Pairwise (· < ·)) (hz : z ≠ []) (a b : Int) : (∀ x ∈ z, a ≤ x ∧ x ≤ b) ↔ a ≤ gZ z 0 ∧ gZ z (z.length - 1) ≤ b := by
  have hp : 0 < z.length := List.length_pos_iff.2 hz
  constructor
  · intro hx
    exact ⟨(hx _ (gZ_mem z 0 hp)).1, (hx _ (gZ_mem z _ (by omega))).2⟩
  · rintro ⟨h0, h1⟩ x hx
    obtain ⟨i, hi, rfl⟩ := List.mem_iff_getElem.1 hx
    rw [← gZ_get z i hi]
    have e0 : gZ z 0 ≤ gZ z i := by
      rcases Nat.eq_zero_or_pos i with rfl | hi0
      · omega
      · have := asc_lt h hi0 hi; omega
    have e1 : gZ z i ≤ gZ z (z.length - 1) := by
      by_cases e : i = z.length - 1
      · rw [← e]; omega
      · have := asc_lt h (show i < z.length - 1 by omega) (by omega); omega
    omega
theorem til_ends (n : Int) (z : List Int) (n1 : 1 ≤ n) (n2 : n ≤ 24) (hz : z ≠ []) : tilB n z = (tasB z && (decide (0 ≤ gZ z 0) && decide (gZ z (z.length - 1) ≤ n - 1))) := by
  apply Bool.eq_iff_iff.2
  simp only [tilB, tasB, Bool.and_eq_true, decide_eq_true_eq]
  constructor
  · rintro ⟨_, _, _, h4, h5⟩
    exact ⟨h4, (asc_ends h4 hz 0 (n - 1)).1 h5⟩
  · rintro ⟨h4, h5⟩
    exact ⟨n1, n2, hz, h4, (asc_ends h4 hz 0 (n - 1)).2 h5⟩
/-! lists in order -/
theorem asc_ext : ∀ {a b : List Int}, a.Pairwise (· < ·) → b.Pairwise (· < ·) → (∀ x, x ∈ a ↔ x ∈ b) → a = b
  | [], [], _, _, _ => rfl
  | [], y :: b, _, _, h => absurd ((h y).2 (by simp)) (by simp)
  | x :: a, [], _, _, h => absurd ((h x).1 (by simp)) (by simp)
  | x :: a, y :: b, ha, hb, h => by
    obtain ⟨ha1, ha2⟩ := List.pairwise_cons.1 ha
    obtain ⟨hb1, hb2⟩ := List.pairwise_cons.1 hb
    have exy : x = y := by
      have h1 := (h x).1 (by simp)
      have h2 := (h y).2 (by simp)
      rcases List.mem_cons.1 h1 with h1 | h1
      · exact h1
      · rcases List.mem_cons.1 h2 with h2 | h2
        · exact h2.symm
        · have := ha1 _ h2; have := hb1 _ h1; omega
    subst exy
    congr 1
    refine asc_ext ha2 hb2 fun z => ?_
    constructor
    · intro hz
      rcases List.mem_cons.1 ((h z).1 (by simp [hz])) with h1 | h1
      · have := ha1 _ hz; omega
      · exact h1
    · intro hz
      rcases List.mem_cons.1 ((h z).2 (by simp [hz])) with h1 | h1
      · have := hb1 _ hz; omega
      · exact h1
theorem asc_nodup {a : List Int} (h : a.Pairwise (· < ·)) : a.Nodup := h.imp fun {x y} hxy => by omega
def srtI (zs : List Int) : List Int := zs.mergeSort fun x y => decide (x ≤ y)
theorem srtI_perm (zs : List Int) : (srtI zs).Perm zs := List.mergeSort_perm _ _
theorem srtI_le (zs : List Int) : (srtI zs).Pairwise (· ≤ ·) := by
  have := List.pairwise_mergeSort (le := fun x y : Int => decide (x ≤ y)) (fun a b c h1 h2 => by simp at *; omega) (fun a b => by simp; omega) zs
  exact this.imp fun {a b} h => by simpa using h
theorem srtI_length (zs : List Int) : (srtI zs).length = zs.length := List.length_mergeSort _
theorem srtI_mem (zs : List Int) (x : Int) : x ∈ srtI zs ↔ x ∈ zs := List.mem_mergeSort
theorem srtI_asc (zs : List Int) : (srtI zs).Pairwise (· < ·) ↔ zs.Nodup := by
  constructor
  · intro h
    exact (srtI_perm zs).nodup_iff.1 (asc_nodup h)
  · intro h
    have h1 := (srtI_perm zs).nodup_iff.2 h
    have h2 := srtI_le zs
    exact (h2.and h1).imp fun {a b} hab => by have := hab.1; have := hab.2; omega
theorem tasB_srtI (zs : List Int) : tasB (srtI zs) = decide zs.Nodup := by
  unfold tasB
  exact decide_eq_decide.2 (srtI_asc zs)
/-- the numbers from 0 to n - 1 of a kind -/
def setL (k : Nat) (p : Int → Bool) : List Int := ((List.range k).map fun j : Nat => (j : Int)).filter p
theorem setL_succ (k : Nat) (p : Int → Bool) : setL (k + 1) p = setL k p ++ (bif p k then [(k : Int)] else []) := by
  unfold setL
  rw [List.range_succ, List.map_append, List.filter_append]
  cases h : p k <;> simp [h]
theorem setL_mem (k : Nat) (p : Int → Bool) (x : Int) : x ∈ setL k p ↔ 0 ≤ x ∧ x < k ∧ p x = true := by
  unfold setL
  rw [List.mem_filter, List.mem_map]
  constructor
  · rintro ⟨⟨j, hj, rfl⟩, hp⟩
    have := List.mem_range.1 hj
    exact ⟨by omega, by omega, hp⟩
  · rintro ⟨h1, h2, h3⟩
    exact ⟨⟨x.toNat, List.mem_range.2 (by omega), by omega⟩, h3⟩
theorem setL_asc (k : Nat) (p : Int → Bool) : (setL k p).Pairwise (· < ·) := by
  unfold setL
  refine List.Pairwise.filter _ ?_
  rw [List.pairwise_map]
  exact List.pairwise_lt_range.imp fun {a b} h => by omega
theorem setL_le (k : Nat) (p : Int → Bool) : (setL k p).length ≤ k := by
  unfold setL
  refine Nat.le_trans (List.length_filter_le _ _) ?_
  simp
theorem setL_eq {k : Nat} {p q : Int → Bool} (h : ∀ x : Int, 0 ≤ x → x < k → p x = q x) : setL k p = setL k q :=
  asc_ext (setL_asc _ _) (setL_asc _ _) fun x => by
    rw [setL_mem, setL_mem]
    constructor
    · rintro ⟨a, b, c⟩; exact ⟨a, b, by rw [← h x a b]; exact c⟩
    · rintro ⟨a, b, c⟩; exact ⟨a, b, by rw [h x a b]; exact c⟩
/-- a list of places, as a set in order -/
def plc (n : Int) (l : List Int) : List Int := setL n.toNat fun y => decide (y ∈ l)
theorem plc_mem {n : Int} {l : List Int} (n1 : 1 ≤ n) (h : ∀ x ∈ l, 0 ≤ x ∧ x < n) (x : Int) : x ∈ plc n l ↔ x ∈ l := by
  unfold plc
  rw [setL_mem]
  constructor
  · rintro ⟨_, _, h3⟩; simpa using h3
  · intro hx
    have := h x hx
    exact ⟨this.1, by omega, by simpa using hx⟩
theorem plc_srt {n : Int} {l : List Int} (n1 : 1 ≤ n) (h : ∀ x ∈ l, 0 ≤ x ∧ x < n) (hd : l.Nodup) : srtI l = plc n l :=
  asc_ext ((srtI_asc l).2 hd) (setL_asc _ _) fun x => by rw [srtI_mem, plc_mem n1 h]
theorem plc_self {n : Int} {z : List Int} (h : Til n z) : plc n z = z :=
  asc_ext (setL_asc _ _) h.2.2.2.1 fun x => plc_mem h.1 (fun x hx => by have := h.2.2.2.2 x hx; omega) x
theorem plc_til {n : Int} {l : List Int} (n1 : 1 ≤ n) (n2 : n ≤ 24) (h : ∀ x ∈ l, 0 ≤ x ∧ x < n) (hl : l ≠ []) : Til n (plc n l) := by
  refine ⟨n1, n2, ?_, setL_asc _ _, fun x hx => ?_⟩
  · intro e
    obtain ⟨x, hx⟩ := List.exists_mem_of_ne_nil l hl
    have := (plc_mem n1 h x).2 hx
    rw [e] at this
    exact absurd this (by simp)
  · have := h x ((plc_mem n1 h x).1 hx)
    omega
/-! moved, scaled -/
def tmvL (n : Int) (z : List Int) (t : Int) : List Int := z.map fun x => (x + t) % n
def tmvR (n : Int) (z : List Int) (t : Int) : List Int := plc n (tmvL n z t)
def tscL (n : Int) (z : List Int) (k : Int) : List Int := z.map fun x => x * k % n
theorem tmvL_bd {n : Int} (z : List Int) (t : Int) (n1 : 1 ≤ n) : ∀ x ∈ tmvL n z t, 0 ≤ x ∧ x < n := by
  intro x hx
  obtain ⟨y, _, rfl⟩ := List.mem_map.1 hx
  exact ⟨Int.emod_nonneg _ (by omega), Int.emod_lt_of_pos _ (by omega)⟩
theorem tscL_bd {n : Int} (z : List Int) (k : Int) (n1 : 1 ≤ n) : ∀ x ∈ tscL n z k, 0 ≤ x ∧ x < n := by
  intro x hx
  obtain ⟨y, _, rfl⟩ := List.mem_map.1 hx
  exact ⟨Int.emod_nonneg _ (by omega), Int.emod_lt_of_pos _ (by omega)⟩
theorem mod_inj {n x y t : Int} (hx : 0 ≤ x ∧ x ≤ n - 1) (hy : 0 ≤ y ∧ y ≤ n - 1) (h : (x + t) % n = (y + t) % n) : x = y := by
  have hd : n ∣ (x + t) - (y + t) := Int.dvd_of_emod_eq_zero (Int.emod_emod_of_dvd _ (Int.dvd_refl n) ▸ by rw [Int.sub_emod, h]; simp)
  obtain ⟨c, hc⟩ := hd
  have hc' : x - y = n * c := by omega
  have : c = 0 := by
    rcases Int.lt_trichotomy c 0 with h1 | h1 | h1
    · have := Int.mul_le_mul_of_nonneg_left (show c ≤ -1 by omega) (show 0 ≤ n by omega)
      omega
    · exact h1
    · have := Int.mul_le_mul_of_nonneg_left (show 1 ≤ c by omega) (show 0 ≤ n by omega)
      omega
  subst this
  omega
theorem tmvL_nodup {n : Int} {z : List Int} (h : Til n z) (t : Int) : (tmvL n z t).Nodup := by
  unfold tmvL
  rw [List.Nodup, List.pairwise_map]
  refine (asc_nodup h.2.2.2.1).imp_of_mem ?_
  intro x y hx hy hxy e
  exact hxy (mod_inj (h.2.2.2.2 x hx) (h.2.2.2.2 y hy) e)
theorem tmvL_ne {n : Int} {z : List Int} (h : Til n z) (t : Int) : tmvL n z t ≠ [] := by
  unfold tmvL
  intro e
  exact h.2.2.1 (List.map_eq_nil_iff.1 e)
theorem tmvR_til {n : Int} {z : List Int} (h : Til n z) (t : Int) : Til n (tmvR n z t) := plc_til h.1 h.2.1 (tmvL_bd z t h.1) (tmvL_ne h t)
theorem tmvR_srt {n : Int} {z : List Int} (h : Til n z) (t : Int) : srtI (tmvL n z t) = tmvR n z t := plc_srt h.1 (tmvL_bd z t h.1) (tmvL_nodup h t)
theorem tmvR_len {n : Int} {z : List Int} (h : Til n z) (t : Int) : (tmvR n z t).length = z.length := by
  rw [← tmvR_srt h, srtI_length]; simp [tmvL]
theorem tmvR_n {n : Int} {z : List Int} (h : Til n z) : tmvR n z n = z := by
  have : tmvL n z n = z := by
    unfold tmvL
    conv => rhs; rw [← List.map_id z]
    refine List.map_congr_left fun x hx => ?_
    have := h.2.2.2.2 x hx
    rw [Int.add_emod_right, Int.emod_eq_of_lt this.1 (by omega)]
    rfl
  unfold tmvR
  rw [this, plc_self h]
def tscB (n : Int) (z : List Int) (k : Int) : Bool := tilB n z && (l6B k 1 1000 && decide (tscL n z k).Nodup)
def tscR (n : Int) (z : List Int) (k : Int) : List Int := bif tscB n z k then plc n (tscL n z k) else []
def tmdB (n : Int) (z : List Int) (t : Int) : Bool := tilB n z && l6B t (-1000) 1000
def tmdR (n : Int) (z : List Int) (t : Int) : List Int := bif tmdB n z t then tmvR n z t else []
/-! the step -/
def stpP (n : Int) (z : List Int) (d : Int) : Bool := tmvR n z d == z
def stpX (n : Int) (z : List Int) : Int := fndX (stpP n z) n.toNat 1
def stpR (n : Int) (z : List Int) : Int := selI (tilB n z) (stpX n z)
theorem stp_ex {n : Int} {z : List Int} (h : Til n z) : fndB (stpP n z) n.toNat 1 = true := by
  cases hf : fndB (stpP n z) n.toNat 1
  · have := fnd_no _ _ hf n h.1 (by have := h.1; omega)
    simp [stpP, tmvR_n h] at this
  · rfl
theorem stp_facts {n : Int} {z : List Int} (h : Til n z) : tmvR n z (stpX n z) = z ∧ 1 ≤ stpX n z ∧ stpX n z ≤ n ∧ ∀ y, 1 ≤ y → y < stpX n z → tmvR n z y ≠ z := by
  obtain ⟨h1, h2, h3, h4⟩ := fnd_yes _ _ (stp_ex h)
  refine ⟨by unfold stpX; simpa [stpP] using h1, h2, by have := h.1; unfold stpX; omega, fun y y1 y2 e => ?_⟩
  have := h4 y y1 y2
  simp [stpP, e] at this
/-! both -/
def tsuL (n : Int) (a b : List Int) : List Int := a.flatMap fun x => b.map fun y => (x + y) % n
def tboB (n : Int) (a b : List Int) : Bool := tilB n a && (tilB n b && (decide (tsuL n a b).Nodup && decide ((a.length : Int) * b.length = n)))
theorem tsuL_length (n : Int) (a b : List Int) : (tsuL n a b).length = a.length * b.length := by
  unfold tsuL
  rw [List.length_flatMap]
  simp [List.map_const']
theorem tsuL_bd {n : Int} (a b : List Int) (n1 : 1 ≤ n) : ∀ x ∈ tsuL n a b, 0 ≤ x ∧ x < n := by
  intro x hx
  obtain ⟨y, _, hy⟩ := List.mem_flatMap.1 hx
  obtain ⟨z, _, rfl⟩ := List.mem_map.1 hy
  exact ⟨Int.emod_nonneg _ (by omega), Int.emod_lt_of_pos _ (by omega)⟩
/-! the sums, one by one -/
def sumK (n : Int) (a b : List Int) (i k : Nat) : List Int := tsuL n (a.take i) b ++ (b.take k).map fun y => (gZ a i + y) % n
theorem sumK_zero (n : Int) (a b : List Int) : sumK n a b 0 0 = [] := by simp [sumK, tsuL]
theorem sumK_next (n : Int) (a b : List Int) (i k : Nat) (h : k < b.length) : sumK n a b i (k + 1) = sumK n a b i k ++ [(gZ a i + gZ b k) % n] := by
  unfold sumK
  rw [List.take_succ_eq_append_getElem h, List.map_append, List.append_assoc]
  simp [gZ_get b k h]
theorem sumK_row (n : Int) (a b : List Int) (i : Nat) (h : i < a.length) : sumK n a b i b.length = sumK n a b (i + 1) 0 := by
  unfold sumK tsuL
  rw [List.take_succ_eq_append_getElem h, List.flatMap_append, List.take_length]
  simp [gZ_get a i h]
theorem sumK_end (n : Int) (a b : List Int) : sumK n a b a.length 0 = tsuL n a b := by
  unfold sumK
  simp
theorem sumK_sub (n : Int) (a b : List Int) (i k : Nat) (h : i < a.length) : ∃ r, tsuL n a b = sumK n a b i k ++ r := by
  refine ⟨(b.drop k).map (fun y => (gZ a i + y) % n) ++ tsuL n (a.drop (i + 1)) b, ?_⟩
  unfold sumK
  rw [List.append_assoc, ← List.append_assoc (List.map _ _), ← List.map_append, List.take_append_drop]
  unfold tsuL
  conv => lhs; rw [← List.take_append_drop i a, List.flatMap_append, List.drop_eq_getElem_cons h, List.flatMap_cons]
  simp [gZ_get a i h]
theorem sumK_bad {n : Int} {a b : List Int} {i k : Nat} (h : i < a.length) (hk : k < b.length) (hm : (gZ a i + gZ b k) % n ∈ sumK n a b i k) : decide (tsuL n a b).Nodup = false := by
  refine decide_eq_false fun hd => ?_
  obtain ⟨r, hr⟩ := sumK_sub n a b i (k + 1) h
  rw [hr, sumK_next n a b i k hk] at hd
  have h1 := (List.nodup_append.1 hd).1
  have h2 := (List.nodup_append.1 h1).2.2 _ hm _ (List.mem_singleton.2 rfl)
  exact h2 rfl
theorem nodup_snoc {l : List Int} {x : Int} (h : l.Nodup) (hx : x ∉ l) : (l ++ [x]).Nodup := by
  rw [List.nodup_append]
  refine ⟨h, by simp, ?_⟩
  intro a ha b hb e
  rw [List.mem_singleton] at hb
  subst hb
  subst e
  exact hx ha
theorem take_bad {l : List Int} {k : Nat} {x : Int} (ht : l.take (k + 1) = l.take k ++ [x]) (hx : x ∈ l.take k) : decide l.Nodup = false := by
  refine decide_eq_false fun hd => ?_
  have h1 : (l.take (k + 1)).Nodup := hd.sublist (List.take_sublist _ _)
  rw [ht] at h1
  exact (List.nodup_append.1 h1).2.2 _ hx _ (List.mem_singleton.2 rfl) rfl
theorem sumK_le (n : Int) (a b : List Int) (i k : Nat) : (sumK n a b i k).length ≤ a.length * b.length + b.length := by
  unfold sumK
  rw [List.length_append, tsuL_length, List.length_map, List.length_take, List.length_take]
  exact Nat.add_le_add (Nat.mul_le_mul_right _ (Nat.min_le_right _ _)) (Nat.min_le_right _ _)
theorem mul_le24 {x y : Nat} (hx : x ≤ 24) (hy : y ≤ 24) : x * y ≤ 576 := Nat.mul_le_mul hx hy
theorem tbo_cases (n : Int) (a b : List Int) : tilB n a = false ∨ (tilB n a = true ∧ tilB n b = false) ∨ (tilB n a = true ∧ tilB n b = true) := by
  cases tilB n a <;> cases tilB n b <;> simp
theorem tbo_f1 {n : Int} {a b : List Int} (h : tilB n a = false) : tboB n a b = false := by simp [tboB, h]
theorem tbo_f2 {n : Int} {a b : List Int} (h : tilB n b = false) : tboB n a b = false := by simp [tboB, h]
theorem tbo_t {n : Int} {a b : List Int} (h1 : tilB n a = true) (h2 : tilB n b = true) : tboB n a b = (decide (tsuL n a b).Nodup && decide ((a.length : Int) * b.length = n)) := by simp [tboB, h1, h2]
/-! the classes of a tile -/
def tsyB (n : Int) (a b : List Int) : Bool := tboB n a b && decide (a.length + b.length ≤ 16)
def tsyL (n : Int) (b : List Int) : List Cl := b.map fun y => (y, n)
def tsyR (n : Int) (a b : List Int) : List Cl := bif tsyB n a b then tsyL n b else []
theorem tsyL_take (n : Int) (b : List Int) (k : Nat) (h : k < b.length) : (tsyL n b).take (k + 1) = (tsyL n b).take k ++ [(gZ b k, n)] := by
  unfold tsyL
  rw [List.take_succ_eq_append_getElem (by simpa using h)]
  congr 2
  simp [gZ_get b k h]
theorem tboB_til {n : Int} {a b : List Int} (h : tboB n a b = true) : Til n a ∧ Til n b ∧ (tsuL n a b).Nodup ∧ (a.length : Int) * b.length = n := by
  simp only [tboB, Bool.and_eq_true, decide_eq_true_eq] at h
  exact ⟨tilB_t.1 h.1, tilB_t.1 h.2.1, h.2.2.1, h.2.2.2⟩
end Go.Proofs.Ytiplnfggiffngaa
