/- The model's l3Without. -/
import Derived.Test.YtonecelkkeakiaaGreatDoorMz11
import Derived.Test.YtonecelkkeakiaaGreatDoorMz6
import Derived.Test.YtonecelkkeakiaaGreatDoorMathA
import Derived.Test.YtonecelkkeakiaaGreatDoorMz3
import Derived.Test.YtonecelkkeakiaaGreatDoorS15
namespace Go.Proofs.YtonecelkkeakiaaGreatDoor
open Go.RowKit
def WoPost (zs : List Cl) (i : Nat) (w : World) (e : Ending) (w' : World) : Prop := ∃ v, e = .returned v ∧ OwnC w' w.heap.size 41 v (zs.eraseIdx i) ∧ Below w.heap.size w w'
set_option maxRecDepth 20000 in
set_option maxHeartbeats 2000000 in
theorem c_l3Without (s : Option Addr) (n cap : Nat) (zs : List Cl) (i : Nat) (hn : n ≤ 1048576) (hcap : n ≤ cap) (hcb : cap ≤ 9223372036854775807) (hi : i < n) (w : World) (hc : Cls w s n zs) :
    Calls Tryz.prog 132 #[.slice s n cap, .int .i64 i] w (WoPost zs i w) := by
  have hlen := hc.len
  obtain ⟨i0, hi0, hz0, hz1, hz2⟩ := info_parts infoC
  rcases hc.lies with h0 | ⟨b, off, rfl, hbw, hcells⟩
  · omega
  have HC := Lib.hid (cls_at hc (by omega))
  have hcA := hc.keep (ba (Below.refl _ _) (.cells #[] 41))
  have HT := Lib.hid (cells2_oc (zs.take i))
  have HD := Lib.hid (cells2_oc (zs.drop (i + 1)))
  have HNt := Lib.hid (show (cells2 (zs.take i)).length = i * 2 by rw [cells2_length, List.length_take]; omega)
  have HNd := Lib.hid (show (cells2 (zs.drop (i + 1))).length = (n - (i + 1)) * 2 by rw [cells2_length, List.length_drop, hlen])
  have HL := Lib.hid hlen
  have HCt := Lib.hid (fun (j : Nat) (u : Value) (hj : (cells2 (zs.take i))[j]? = some u) => show (w.alloc (.cells #[] 41)).cell? ((⟨b, off, none⟩ : Addr).add j) = some u from cls_at hcA (by omega) j u (cells2_takeAt hj))
  have HCd := Lib.hid (fun (W : World) (hW : Cls W (some ⟨b, off, none⟩) n zs) (j : Nat) (u : Value) (hj : (cells2 (zs.drop (i + 1)))[j]? = some u) => show W.cell? ((⟨b, off + (i + 1) * 2, none⟩ : Addr).add j) = some u by
    rw [add_add]
    exact cls_at hW (by omega) _ u (cells2_dropAt hj))
  have hO0 : (w.alloc (.cells #[] 41)).ownsRow w.heap.size 41 2 (.slice (some ⟨w.heap.size, 0, none⟩) 0 0) 0 [] := World.ownsRow_lit w #[] 0 (Nat.le_refl _) (by unfold maxLen; omega) rfl
  have hwb : w.heap.size ≠ b := by omega
  clear hcells hlen
  have hiz0 : (0 : Int) ≤ (i : Int) := by omega
  have hiz1 : (i : Int) ≤ (cap : Int) := by omega
  have hiz2 : (i : Int) ≤ (n : Int) := by omega
  have hiz : (i : Int) < (n : Int) := by omega
  have hnc : (n : Int) ≤ (cap : Int) := by omega
  have hA1 : (i : Int) + 1 ≤ (n : Int) := by omega
  have hA0 : (0 : Int) ≤ (i : Int) + 1 := by omega
  have hw : IntKind.i64.wrap ((i : Int) + 1) = (i : Int) + 1 := IntWalk.i64_in _ (by omega)
  have hAt : ((i : Int) + 1).toNat = i + 1 := by omega
  have hc0 : ¬ cap = 0 := by omega
  have hcap2 : i + 1 < cap ∨ cap = i + 1 := by omega
  go_enter Tryz.func132, Tryz.ntmps132
  go_wp2_with fail
  by_cases hA : i + 1 < cap
  · have hAn : ¬ cap = i + 1 := by omega
    clear hcap2
    go_region_held3 (fun _ => True) (trivial) (first
      | (refine step_append_own rfl (.tmp 5) (.tmp 8) 26 rfl w.heap.size 41 i0 (.agg #[.int .i64 0, .int .i64 0]) 2 16 Tryz.underlying26 hi0 hz0 hz1 hz2 rfl Nat.two_pos (.slice (some ⟨w.heap.size, 0, none⟩) 0 0) 0 [] rfl hO0 ⟨b, off, none⟩ i _ (cells2 (zs.take i)) rfl HNt.out HCt.out HT.out (by unfold maxLen; omega) (by omega) (by simp) ?_; intro v5 w5 hown5 hgrow5 _; have hc5 := Cls.other (hcA.keep (by repeat (first | exact Below.refl _ _ | assumption | refine Below.drew ?_ | refine bel_drewN ?_ _ | refine ba ?_ _ | refine bt2 ?_ (by assumption) | refine Below.setCell ?_ (by simp <;> omega) _))) hgrow5 hwb; have hB5 : Below w.heap.size w w5 := Below.grown (by repeat (first | exact Below.refl _ _ | assumption | refine Below.drew ?_ | refine bel_drewN ?_ _ | refine ba ?_ _ | refine bt2 ?_ (by assumption) | refine Below.setCell ?_ (by simp <;> omega) _)) hgrow5 (by simp) (fun g e => by cases e; exact Nat.le_refl _); have HCd5 := Lib.hid (HCd.out _ hc5); have hbs5 := hB5.size)
      | (refine step_append_own rfl (.tmp 9) (.tmp 13) 26 rfl w.heap.size 41 i0 (.agg #[.int .i64 0, .int .i64 0]) 2 16 Tryz.underlying26 hi0 hz0 hz1 hz2 rfl Nat.two_pos v5 (0 + i) ([] ++ cells2 (zs.take i)) rfl hown5 ⟨b, off + (i + 1) * 2, none⟩ (n - (i + 1)) (cap - (i + 1)) (cells2 (zs.drop (i + 1))) rfl HNd.out HCd5.out HD.out (by unfold maxLen; omega) (by omega) hbs5 ?_; intro v7 w7 hown7 hgrow7 _)
      | fail)
    all_goals
      have hB7 : Below w.heap.size w w7 := hB5.grown hgrow7 hbs5 (fun g e => (hown5.lt g e).1)
      have hOC : OwnC w7 w.heap.size 41 v7 (zs.eraseIdx i) := by
        unfold OwnC
        rw [eraseIdx_len (by rw [HL.out]; exact hi), HL.out, List.eraseIdx_eq_take_drop_succ, cells2_append, show n - 1 = 0 + i + (n - (i + 1)) by omega]
        simpa using hown7
      clear hown5 hown7 hgrow7 hgrow5
      go_wp2_with fail
      go_ret
      exact ⟨_, rfl, hOC, hB7⟩
  · have hAn : cap = i + 1 := by omega
    have hnn : n = i + 1 := by omega
    have hz1' : (i : Int) ≤ (i : Int) + 1 := by omega
    have hz2' : (i : Int) < (i : Int) + 1 := by omega
    have hz3 : i < i + 1 := by omega
    have hz4 : i ≤ i + 1 := by omega
    clear hcap2
    go_region_held3 (fun _ => True) (trivial) (first
      | (refine step_append_own rfl (.tmp 5) (.tmp 8) 26 rfl w.heap.size 41 i0 (.agg #[.int .i64 0, .int .i64 0]) 2 16 Tryz.underlying26 hi0 hz0 hz1 hz2 rfl Nat.two_pos (.slice (some ⟨w.heap.size, 0, none⟩) 0 0) 0 [] rfl hO0 ⟨b, off, none⟩ i _ (cells2 (zs.take i)) rfl HNt.out HCt.out HT.out (by unfold maxLen; omega) (by omega) (by simp) ?_; intro v5 w5 hown5 hgrow5 _; have hc5 := Cls.other (hcA.keep (by repeat (first | exact Below.refl _ _ | assumption | refine Below.drew ?_ | refine bel_drewN ?_ _ | refine ba ?_ _ | refine bt2 ?_ (by assumption) | refine Below.setCell ?_ (by simp <;> omega) _))) hgrow5 hwb; have hB5 : Below w.heap.size w w5 := Below.grown (by repeat (first | exact Below.refl _ _ | assumption | refine Below.drew ?_ | refine bel_drewN ?_ _ | refine ba ?_ _ | refine bt2 ?_ (by assumption) | refine Below.setCell ?_ (by simp <;> omega) _)) hgrow5 (by simp) (fun g e => by cases e; exact Nat.le_refl _); have HCd5 := Lib.hid (HCd.out _ hc5); have hbs5 := hB5.size)
      | (refine step_append_own rfl (.tmp 9) (.tmp 13) 26 rfl w.heap.size 41 i0 (.agg #[.int .i64 0, .int .i64 0]) 2 16 Tryz.underlying26 hi0 hz0 hz1 hz2 rfl Nat.two_pos v5 (0 + i) ([] ++ cells2 (zs.take i)) rfl hown5 ⟨b, off, none⟩ 0 0 [] rfl rfl (by simp) (by simp) (by unfold maxLen; omega) (by omega) hbs5 ?_; intro v7 w7 hown7 hgrow7 _)
      | fail)
    all_goals
      have hB7 : Below w.heap.size w w7 := hB5.grown hgrow7 hbs5 (fun g e => (hown5.lt g e).1)
      have hOC : OwnC w7 w.heap.size 41 v7 (zs.eraseIdx i) := by
        unfold OwnC
        rw [eraseIdx_len (by rw [HL.out]; exact hi), HL.out, List.eraseIdx_eq_take_drop_succ, List.drop_eq_nil_of_le (by rw [HL.out]; omega), List.append_nil, show n - 1 = 0 + i + 0 by omega]
        simpa using hown7
      clear hown5 hown7 hgrow7 hgrow5
      go_wp2_with fail
      go_ret
      exact ⟨_, rfl, hOC, hB7⟩
end Go.Proofs.YtonecelkkeakiaaGreatDoor
namespace Go.Proofs.YtonecelkkeakiaaGreatDoor
def sumF (f : Nat → Int) : Nat → Int
  | 0 => 0
  | n + 1 => sumF f n + f n
theorem sumF_zero (n : Nat) : sumF (fun _ => 0) n = 0 := by
  induction n with
  | zero => rfl
  | succ n ih => simp only [sumF, ih]; rfl
theorem sumF_add (f g : Nat → Int) (n : Nat) : sumF (fun x => f x + g x) n = sumF f n + sumF g n := by
  induction n with
  | zero => rfl
  | succ n ih => simp only [sumF, ih]; omega
theorem sumF_split (f : Nat → Int) (a b : Nat) : sumF f (a + b) = sumF f a + sumF (fun x => f (a + x)) b := by
  induction b with
  | zero => simp [sumF]
  | succ b ih =>
    rw [← Nat.add_assoc]
    simp only [sumF, ih]
    omega
theorem sumF_congr {f g : Nat → Int} {n : Nat} (h : ∀ x, x < n → f x = g x) : sumF f n = sumF g n := by
  induction n with
  | zero => rfl
  | succ n ih => simp only [sumF]; rw [ih fun x hx => h x (by omega), h n (by omega)]
theorem sumF_le {f : Nat → Int} {n : Nat} (h : ∀ x, x < n → f x ≤ 1) : sumF f n ≤ n := by
  induction n with
  | zero => simp [sumF]
  | succ n ih => simp only [sumF]; have := ih fun x hx => h x (by omega); have := h n (by omega); omega
theorem sumF_ge {f : Nat → Int} {n : Nat} (h : ∀ x, x < n → 1 ≤ f x) : (n : Int) ≤ sumF f n := by
  induction n with
  | zero => simp [sumF]
  | succ n ih => simp only [sumF]; have := ih fun x hx => h x (by omega); have := h n (by omega); omega
/-- at most 1 each, and the sum is the number of them: each is 1 -/
theorem sumF_tight {f : Nat → Int} {n : Nat} (h : ∀ x, x < n → f x ≤ 1) (hs : (n : Int) ≤ sumF f n) : ∀ x, x < n → 1 ≤ f x := by
  induction n with
  | zero => intro x hx; omega
  | succ n ih =>
    simp only [sumF] at hs
    have hl := sumF_le fun x (hx : x < n) => h x (by omega)
    have hn := h n (by omega)
    intro x hx
    by_cases e : x < n
    · exact ih (fun x hx => h x (by omega)) (by omega) x e
    · obtain rfl : x = n := by omega
      omega
theorem sumF_tight2 {f : Nat → Int} {n : Nat} (h : ∀ x, x < n → 1 ≤ f x) (hs : sumF f n ≤ n) : ∀ x, x < n → f x ≤ 1 := by
  induction n with
  | zero => intro x hx; omega
  | succ n ih =>
    simp only [sumF] at hs
    have hl := sumF_ge fun x (hx : x < n) => h x (by omega)
    have hn := h n (by omega)
    intro x hx
    by_cases e : x < n
    · exact ih (fun x hx => h x (by omega)) (by omega) x e
    · obtain rfl : x = n := by omega
      omega
def one1 (r m : Int) (x : Nat) : Int := if (x : Int) % m = r then 1 else 0
theorem one_part {r m : Int} (h0 : 0 ≤ r) (n : Nat) (hn : (n : Int) ≤ m) : sumF (one1 r m) n = if r < n then 1 else 0 := by
  induction n with
  | zero => simp [sumF]; omega
  | succ n ih =>
    simp only [sumF, one1]
    rw [ih (by omega), Int.emod_eq_of_lt (by omega) (by omega)]
    split <;> split <;> split <;> omega
theorem one_sum {r : Int} {m : Nat} (h0 : 0 ≤ r) (h1 : r < m) (q : Nat) : sumF (one1 r m) (m * q) = q := by
  induction q with
  | zero => simp [sumF]
  | succ q ih =>
    rw [Nat.mul_add, Nat.mul_one, sumF_split, ih]
    have : sumF (fun x => one1 r m (m * q + x)) m = sumF (one1 r m) m := sumF_congr fun x _ => by
      unfold one1
      rw [Int.natCast_add, Int.natCast_mul, Int.mul_add_emod_self_left]
    rw [this, one_part h0 m (Int.le_refl _), if_pos h1]
    omega
theorem cnt_sumK {zs : List Cl} (hs : sysB zs = true) (P : Nat) (hP : perI zs = P) (k : Nat) (hk : k ≤ zs.length) : sumF (fun x => cntK zs x k) P = shrK P zs k := by
  obtain ⟨_, _, ha, _, _, _⟩ := sysB_facts hs
  induction k with
  | zero =>
    exact sumF_zero P
  | succ k ih =>
    obtain ⟨m1, _, r1, r2⟩ := inB_iff.1 (allB_at ha k (by omega))
    obtain ⟨q, hq⟩ := sys_dvd hs k (by omega)
    have e : (fun x : Nat => cntK zs x (k + 1)) = fun x : Nat => cntK zs x k + one1 (rAt zs k) (mAt zs k) x := rfl
    rw [e, sumF_add, ih (by omega)]
    simp only [shrK]
    congr 1
    rw [hP] at hq
    obtain ⟨m, hm⟩ := Int.eq_ofNat_of_zero_le (show 0 ≤ mAt zs k by omega)
    have hq0 : 0 ≤ q := by
      have : 0 ≤ mAt zs k * q := by omega
      exact Int.nonneg_of_mul_nonneg_right this (show 0 < mAt zs k by omega)
    obtain ⟨qn, rfl⟩ := Int.eq_ofNat_of_zero_le hq0
    rw [hm] at hq m1 r2 ⊢
    have hPn : P = m * qn := by
      have : ((P : Nat) : Int) = ((m * qn : Nat) : Int) := by rw [hq, Int.natCast_mul]
      omega
    rw [hPn, one_sum r1 r2 qn, Int.natCast_mul, Int.mul_ediv_cancel_left _ (by omega)]
theorem cnt_sum {zs : List Cl} (hs : sysB zs = true) (P : Nat) (hP : perI zs = P) : sumF (fun x => cntN zs x) P = shrI zs := by
  have := cnt_sumK hs P hP zs.length (Nat.le_refl _)
  unfold shrI
  rw [hP]
  exact this
theorem holK_nil {zs : List Cl} {k : Nat} : holK zs k = [] ↔ ∀ x : Nat, x < k → 1 ≤ cntN zs x := by
  induction k with
  | zero => simp [holK]
  | succ k ih =>
    have hb := (cntK_bd zs (k : Int) zs.length).1
    have hb' : 0 ≤ cntN zs k := hb
    simp only [holK]
    cases he : (cntN zs k == 0)
    · have hne : ¬ cntN zs k = 0 := by simpa using he
      rw [cond_false, ih]
      constructor
      · intro h x hx
        by_cases e : x < k
        · exact h x e
        · obtain rfl : x = k := by omega
          omega
      · exact fun h x hx => h x (by omega)
    · have h0 : cntN zs k = 0 := by simpa using he
      rw [cond_true]
      constructor
      · intro h; simp at h
      · intro h
        have := h k (by omega)
        omega
theorem al_iff {zs : List Cl} (hs : sysB zs = true) (P : Nat) (hP : perI zs = P) : alB zs = true ↔ ∀ x : Nat, x < P → 1 ≤ cntN zs x := by
  unfold alB holL
  rw [hs, hP, Bool.true_and, List.isEmpty_iff, Int.toNat_natCast]
  exact holK_nil
theorem apr_iff {zs : List Cl} (hs : sysB zs = true) (P : Nat) (hP : perI zs = P) : aprB zs = true ↔ ∀ x : Nat, x < P → cntN zs x ≤ 1 := by
  unfold aprB
  rw [hs, Bool.true_and, apa_times hs, hP]
  exact ⟨fun h x hx => h x (by omega), fun h x hx => h x (by omega)⟩
theorem per_nat {zs : List Cl} (hs : sysB zs = true) : ∃ P : Nat, perI zs = P := by
  obtain ⟨_, _, _, _, P1, _⟩ := sysB_facts hs
  exact ⟨(perI zs).toNat, by omega⟩
/-- apart: the share is not greater than the period -/
theorem apr_share {zs : List Cl} (hs : sysB zs = true) (ha : aprB zs = true) : shrI zs ≤ perI zs := by
  obtain ⟨P, hP⟩ := per_nat hs
  rw [← cnt_sum hs P hP, hP]
  exact sumF_le ((apr_iff hs P hP).1 ha)
theorem al_share {zs : List Cl} (hs : sysB zs = true) (ha : alB zs = true) : perI zs ≤ shrI zs := by
  obtain ⟨P, hP⟩ := per_nat hs
  rw [← cnt_sum hs P hP, hP]
  exact sumF_ge ((al_iff hs P hP).1 ha)
/-- the share is the period: it covers all just if it is apart -/
theorem share_both {zs : List Cl} (hs : sysB zs = true) (he : shrI zs = perI zs) : alB zs = aprB zs := by
  obtain ⟨P, hP⟩ := per_nat hs
  have hsum := cnt_sum hs P hP
  rw [he, hP] at hsum
  rw [Bool.eq_iff_iff, al_iff hs P hP, apr_iff hs P hP]
  exact ⟨fun h => sumF_tight2 h (by omega), fun h => sumF_tight h (by omega)⟩
end Go.Proofs.YtonecelkkeakiaaGreatDoor
