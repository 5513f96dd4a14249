/- The longest run, plain: by the gaps between holes, and by going round twice. -/
import Derived.Test.YtgdpebnnmklbjaaS14
import Derived.Test.YtgdpebnnmklbjaaMathA
namespace Go.Proofs.Ytgdpebnnmklbjaa
/-- the greatest gap ahead of the elements of a list, the first one behind b, and a -/
def runL : Int → Int → List Int → Int
  | _, a, [] => a
  | b, a, x :: t => runL x (max a (x - b - 1)) t
def lastD : Int → List Int → Int
  | b, [] => b
  | _, x :: t => lastD x t
theorem lastD_snoc (b x : Int) (l : List Int) : lastD b (l ++ [x]) = x := by
  induction l generalizing b with
  | nil => rfl
  | cons y t ih => exact ih y
theorem runL_snoc (b a x : Int) (l : List Int) : runL b a (l ++ [x]) = max (runL b a l) (x - lastD b l - 1) := by
  induction l generalizing b a with
  | nil => rfl
  | cons y t ih => exact ih y _
theorem runL_max (b a c : Int) (l : List Int) : runL b (max a c) l = max a (runL b c l) := by
  induction l generalizing b c with
  | nil => rfl
  | cons y t ih =>
    simp only [runL]
    rw [show max (max a c) (y - b - 1) = max a (max c (y - b - 1)) by omega]
    exact ih _ _
theorem runL_acc {b a c : Int} (l : List Int) (h : a ≤ c) : runL b a l ≤ runL b c l := by
  rw [show c = max c a by omega, runL_max]
  omega
theorem runL_ge (b a : Int) (l : List Int) : a ≤ runL b a l := by
  have := runL_max b a a l
  rw [show max a a = a by omega] at this
  omega
theorem runL_back {b d a : Int} (l : List Int) (h : d ≤ b) : runL b a l ≤ runL d a l := by
  cases l with
  | nil => exact Int.le_refl _
  | cons x t => exact runL_acc t (by omega)
/-- n and the greatest n after k steps of the model -/
def nbK (zs : List Cl) : Nat → Int × Int
  | 0 => (0, 0)
  | k + 1 => (bif cntN zs k == 0 then 0 else (nbK zs k).1 + 1, max (nbK zs k).2 (bif cntN zs k == 0 then 0 else (nbK zs k).1 + 1))
theorem nbK_bd (zs : List Cl) (k : Nat) : 0 ≤ (nbK zs k).1 ∧ (nbK zs k).1 ≤ k ∧ 0 ≤ (nbK zs k).2 ∧ (nbK zs k).2 ≤ k := by
  induction k with
  | zero => simp [nbK]
  | succ k ih =>
    simp only [nbK]
    cases cntN zs k == 0
    · simp only [cond_false]; omega
    · simp only [cond_true]; omega
theorem cntK_add (zs : List Cl) (P x : Int) (h : ∀ k, k < zs.length → mAt zs k ∣ P) (k : Nat) (hk : k ≤ zs.length) : cntK zs (P + x) k = cntK zs x k := by
  induction k with
  | zero => rfl
  | succ k ih =>
    obtain ⟨q, hq⟩ := h k (by omega)
    have e : (P + x) % mAt zs k = x % mAt zs k := by rw [hq, Int.add_comm, Int.add_mul_emod_self_left]
    simp only [cntK, ih (by omega), e]
theorem cntN_add {zs : List Cl} (h : sysB zs = true) (x : Int) : cntN zs (perI zs + x) = cntN zs x :=
  cntK_add zs (perI zs) x (fun k hk => sys_dvd h k hk) _ (Nat.le_refl _)
/-- the state of a pass: n steps done in it, the last hole ahead of it at b, the greatest run ahead of it a -/
def Pass (zs : List Cl) (b a : Int) (k : Nat) (s : Int × Int) : Prop := s.1 = k - 1 - lastD b (holK zs k) ∧ s.2 = max (runL b a (holK zs k)) s.1
theorem pass_step {zs : List Cl} {b a : Int} {k : Nat} {s : Int × Int} (h : Pass zs b a k s) (h0 : 0 ≤ s.1) : Pass zs b a (k + 1) (bif cntN zs k == 0 then 0 else s.1 + 1, max s.2 (bif cntN zs k == 0 then 0 else s.1 + 1)) := by
  obtain ⟨h1, h2⟩ := h
  have e : holK zs (k + 1) = bif cntN zs k == 0 then holK zs k ++ [(k : Int)] else holK zs k := rfl
  unfold Pass
  rw [e]
  cases cntN zs k == 0
  · simp only [cond_false]
    omega
  · simp only [cond_true]
    rw [lastD_snoc, runL_snoc]
    omega
theorem pass1 (zs : List Cl) (k : Nat) : Pass zs (-1) 0 k (nbK zs k) := by
  induction k with
  | zero => simp [Pass, nbK, holK, lastD, runL]
  | succ k ih => exact pass_step ih (nbK_bd zs k).1
def lastH (zs : List Cl) : Int := lastD (-1) (holL zs)
def runV (zs : List Cl) : Int := runL (lastH zs - perI zs) 0 (holL zs)
theorem pass2 {zs : List Cl} (h : sysB zs = true) {P : Nat} (hP : perI zs = (P : Int)) (j : Nat) : Pass zs (lastH zs - P) (nbK zs P).2 j (nbK zs (P + j)) := by
  have hL : holL zs = holK zs P := by unfold holL; rw [hP]; rfl
  induction j with
  | zero =>
    have := pass1 zs P
    unfold Pass at this ⊢
    rw [← hL] at this
    simp only [holK, lastD, runL, Nat.add_zero]
    unfold lastH
    omega
  | succ j ih =>
    have e : cntN zs ((P + j : Nat) : Int) = cntN zs j := by
      have := cntN_add h (j : Int)
      rw [hP] at this
      rw [← this]
      congr 1
    have := pass_step ih (nbK_bd zs (P + j)).1
    rw [← e] at this
    exact this
theorem holK_bd {zs : List Cl} {k : Nat} {x : Int} (h : x ∈ holK zs k) : 0 ≤ x ∧ x < k := ⟨((holK_mem zs k x).1 h).1, ((holK_mem zs k x).1 h).2.1⟩
theorem lastD_mem (b : Int) (l : List Int) : lastD b l = b ∨ lastD b l ∈ l := by
  induction l generalizing b with
  | nil => exact .inl rfl
  | cons x t ih =>
    rcases ih x with h | h
    · exact .inr (by rw [lastD, h]; exact List.mem_cons_self)
    · exact .inr (List.mem_cons_of_mem _ h)
theorem run_twice {zs : List Cl} (h : sysB zs = true) {P : Nat} (hP : perI zs = (P : Int)) (hne : holL zs ≠ []) : (nbK zs (2 * P)).2 = runV zs := by
  have hL : holL zs = holK zs P := by unfold holL; rw [hP]; rfl
  obtain ⟨a1, a2⟩ := pass1 zs P
  obtain ⟨b1, b2⟩ := pass2 h hP P
  rw [← hL] at a1 a2 b1 b2
  rw [show P + P = 2 * P by omega] at b1 b2
  unfold runV
  rw [hP, b2]
  have hx : ∀ x ∈ holL zs, 0 ≤ x ∧ x < P := fun x hx => holK_bd (hL ▸ hx)
  have hl : 0 ≤ lastH zs ∧ lastH zs < P := by
    unfold lastH
    cases hc : holL zs with
    | nil => exact absurd hc hne
    | cons x t =>
      have hxm := hx x (by rw [hc]; exact List.mem_cons_self)
      rcases lastD_mem x t with e | e
      · show 0 ≤ lastD x t ∧ lastD x t < P
        rw [e]; exact hxm
      · exact hx _ (by rw [hc]; exact List.mem_cons_of_mem _ e)
  have e2 : lastD (lastH zs - P) (holL zs) = lastH zs := by
    unfold lastH
    cases hc : holL zs with
    | nil => exact absurd hc hne
    | cons x t => rfl
  rw [e2] at b1
  have ha1 : (nbK zs P).1 = P - 1 - lastH zs := a1
  have hb := runL_back (b := -1) (d := lastH zs - P) (a := 0) (holL zs) (by omega)
  have hg : P - 1 - lastH zs ≤ runL (lastH zs - P) 0 (holL zs) := by
    cases hc : holL zs with
    | nil => exact absurd hc hne
    | cons x t =>
      have hxm := hx x (by rw [hc]; exact List.mem_cons_self)
      have := runL_ge x (max 0 (x - (lastH zs - P) - 1)) t
      simp only [runL]
      omega
  have hm := runL_max (lastH zs - P) (nbK zs P).2 0 (holL zs)
  have h20 : 0 ≤ (nbK zs P).2 := (nbK_bd zs P).2.2.1
  rw [show max (nbK zs P).2 0 = (nbK zs P).2 by omega] at hm
  rw [hm, b1, a2]
  omega
end Go.Proofs.Ytgdpebnnmklbjaa
