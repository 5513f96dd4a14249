/- Each of some things can be given a neighbour of its own, where no family of them has fewer neighbours than members; and where none can, a greatest such family. -/
import Derived.Test.YthhpdmkebnbbbaaGreatDoorMath
import Derived.Test.YthhpdmkebnbbbaaGreatDoorMgA
namespace Go.Proofs.YthhpdmkebnbbbaaGreatDoor
section
variable {α β : Type}
def nbF (zs : List α) (adj : α → β → Bool) (p : α → Bool) (u : β) : Bool := zs.any fun c => p c && adj c u
theorem nbF_iff {zs : List α} {adj : α → β → Bool} {p : α → Bool} {u : β} : nbF zs adj p u = true ↔ ∃ c ∈ zs, p c = true ∧ adj c u = true := by
  unfold nbF
  rw [List.any_eq_true]
  simp [Bool.and_eq_true]
def HallC (zs : List α) (us : List β) (adj : α → β → Bool) : Prop := ∀ p : α → Bool, zs.countP p ≤ us.countP (nbF zs adj p)
theorem countP_two {γ : Type} (l : List γ) (p q r : γ → Bool) (h : ∀ x ∈ l, p x = true → q x = true ∨ r x = true) : l.countP p ≤ l.countP q + l.countP r := by
  induction l with
  | nil => simp
  | cons x t ih =>
    have i := ih fun y hy => h y (List.mem_cons_of_mem _ hy)
    have hx := h x List.mem_cons_self
    rw [List.countP_cons, List.countP_cons, List.countP_cons]
    cases hp : p x <;> cases hq : q x <;> cases hr : r x <;> simp_all <;> omega
theorem countP_sum {γ : Type} (l : List γ) (p q r : γ → Bool) (h : ∀ x ∈ l, p x = (q x || r x)) (hd : ∀ x ∈ l, q x = true → r x = false) : l.countP p = l.countP q + l.countP r := by
  induction l with
  | nil => simp
  | cons x t ih =>
    have i := ih (fun y hy => h y (List.mem_cons_of_mem _ hy)) fun y hy => hd y (List.mem_cons_of_mem _ hy)
    have hx := h x List.mem_cons_self
    have hy := hd x List.mem_cons_self
    rw [List.countP_cons, List.countP_cons, List.countP_cons]
    cases hp : p x <;> cases hq : q x <;> cases hr : r x <;> simp_all <;> omega
theorem countP_le_of {γ : Type} (l : List γ) (p q : γ → Bool) (h : ∀ x ∈ l, p x = true → q x = true) : l.countP p ≤ l.countP q := List.countP_mono_left h
theorem nodup_filter {γ : Type} (p : γ → Bool) {l : List γ} (h : l.Nodup) : (l.filter p).Nodup := List.Pairwise.sublist List.filter_sublist h
theorem count_one {γ : Type} [DecidableEq γ] {l : List γ} (h : l.Nodup) (u : γ) : l.countP (fun x => decide (x = u)) ≤ 1 := by
  induction l with
  | nil => simp
  | cons x t ih =>
    obtain ⟨h1, h2⟩ := List.nodup_cons.1 h
    have i := ih h2
    rw [List.countP_cons]
    by_cases hx : x = u
    · subst hx
      have : t.countP (fun y => decide (y = x)) = 0 := by
        rw [List.countP_eq_zero]
        intro a ha
        simp
        intro e
        exact h1 (e ▸ ha)
      rw [this]
      simp
    · simp [hx]
      omega
theorem hall [DecidableEq α] [DecidableEq β] [Inhabited β] (adj : α → β → Bool) : ∀ (n : Nat) (zs : List α) (us : List β), zs.length = n → zs.Nodup → us.Nodup → HallC zs us adj →
    ∃ g : α → β, (∀ c ∈ zs, g c ∈ us ∧ adj c (g c) = true) ∧ ∀ c ∈ zs, ∀ d ∈ zs, g c = g d → c = d := by
  intro n
  induction n using Nat.strongRecOn with
  | _ n ih =>
    intro zs us hn hz hu hH
    match zs, hn with
    | [], _ => exact ⟨fun _ => default, (fun c hc => by cases hc), (fun c hc => by cases hc)⟩
    | c :: t, hn =>
      obtain ⟨hct, htn⟩ := List.nodup_cons.1 hz
      by_cases htight : ∃ p : α → Bool, (c :: t).countP p = us.countP (nbF (c :: t) adj p) ∧ 0 < (c :: t).countP p ∧ (c :: t).countP p < (c :: t).length
      · obtain ⟨p, e, h0, h1⟩ := htight
        generalize hzs : c :: t = zs at *
        have hsplit : zs.countP (fun c => !p c) + zs.countP p = zs.length := by
          have := countP_sum zs (fun _ => true) p (fun c => !p c) (fun x _ => by cases p x <;> rfl) (fun x _ h => by simp [h])
          rw [List.countP_true] at this
          omega
        have fT : (zs.filter p).length = zs.countP p := (List.countP_eq_length_filter).symm
        have fR : (zs.filter fun c => !p c).length = zs.countP fun c => !p c := (List.countP_eq_length_filter).symm
        have H1 : HallC (zs.filter p) (us.filter (nbF zs adj p)) adj := by
          intro q
          rw [List.countP_filter, List.countP_filter]
          refine Nat.le_trans (Nat.le_of_eq ?_) (Nat.le_trans (hH fun c => q c && p c) (countP_le_of _ _ _ fun u _ h => ?_))
          · rfl
          · obtain ⟨d, hd, hd2, hd3⟩ := nbF_iff.1 h
            have hq : q d = true := by revert hd2; cases q d <;> simp
            have hp : p d = true := by revert hd2; cases p d <;> simp
            rw [Bool.and_eq_true]
            exact ⟨nbF_iff.2 ⟨d, List.mem_filter.2 ⟨hd, hp⟩, hq, hd3⟩, nbF_iff.2 ⟨d, hd, hp, hd3⟩⟩
        have H2 : HallC (zs.filter fun c => !p c) (us.filter fun u => !nbF zs adj p u) adj := by
          intro q
          rw [List.countP_filter, List.countP_filter]
          have a1 := hH fun c => p c || q c
          have a2 := countP_sum zs (fun c => p c || q c) p (fun c => q c && !p c) (fun x _ => by cases p x <;> cases q x <;> rfl) (fun x _ h => by simp [h])
          have a3 := countP_two us (nbF zs adj fun c => p c || q c) (nbF zs adj p) (fun u => nbF (zs.filter fun c => !p c) adj q u && !nbF zs adj p u) (fun u _ h => by
            cases hN : nbF zs adj p u
            · refine .inr ?_
              obtain ⟨d, hd, hd2, hd3⟩ := nbF_iff.1 h
              have hp : p d = false := by
                cases hp : p d
                · rfl
                · rw [nbF_iff.2 ⟨d, hd, hp, hd3⟩] at hN; cases hN
              have hq : q d = true := by simpa [hp] using hd2
              have : nbF (zs.filter fun c => !p c) adj q u = true := nbF_iff.2 ⟨d, List.mem_filter.2 ⟨hd, by simp [hp]⟩, hq, hd3⟩
              rw [this]; rfl
            · exact .inl rfl)
          omega
        obtain ⟨g1, g1a, g1b⟩ := ih _ (by rw [← hn]; omega) (zs.filter p) _ fT (nodup_filter _ hz) (nodup_filter _ hu) H1
        obtain ⟨g2, g2a, g2b⟩ := ih _ (by rw [← hn]; omega) (zs.filter fun c => !p c) _ fR (nodup_filter _ hz) (nodup_filter _ hu) H2
        have m1 : ∀ d ∈ zs, p d = true → d ∈ zs.filter p := fun d hd hp => List.mem_filter.2 ⟨hd, hp⟩
        have m2 : ∀ d ∈ zs, p d = false → d ∈ zs.filter fun c => !p c := fun d hd hp => List.mem_filter.2 ⟨hd, by simp [hp]⟩
        refine ⟨fun d => if p d = true then g1 d else g2 d, fun d hd => ?_, fun a ha b hb hab => ?_⟩
        · cases hp : p d
          · obtain ⟨x1, x2⟩ := g2a d (m2 d hd hp)
            simp only [hp, Bool.false_eq_true, if_false]
            exact ⟨(List.mem_filter.1 x1).1, x2⟩
          · obtain ⟨x1, x2⟩ := g1a d (m1 d hd hp)
            simp only [hp, if_true]
            exact ⟨(List.mem_filter.1 x1).1, x2⟩
        · cases hpa : p a <;> cases hpb : p b
          · simp only [hpa, hpb, Bool.false_eq_true, if_false] at hab
            exact g2b a (m2 a ha hpa) b (m2 b hb hpb) hab
          · simp only [hpa, hpb, Bool.false_eq_true, if_false, if_true] at hab
            have y1 := (List.mem_filter.1 (g2a a (m2 a ha hpa)).1).2
            have y2 := (List.mem_filter.1 (g1a b (m1 b hb hpb)).1).2
            rw [hab] at y1
            simp [y2] at y1
          · simp only [hpa, hpb, Bool.false_eq_true, if_false, if_true] at hab
            have y1 := (List.mem_filter.1 (g2a b (m2 b hb hpb)).1).2
            have y2 := (List.mem_filter.1 (g1a a (m1 a ha hpa)).1).2
            rw [← hab] at y1
            simp [y2] at y1
          · simp only [hpa, hpb, if_true] at hab
            exact g1b a (m1 a ha hpa) b (m1 b hb hpb) hab
      · have hc1 : 0 < us.countP (nbF (c :: t) adj fun x => decide (x = c)) := by
          have := hH fun x => decide (x = c)
          rw [List.countP_cons] at this
          simp at this
          omega
        obtain ⟨u0, hu0, hu1⟩ := List.countP_pos_iff.1 hc1
        obtain ⟨d, hd, hd2, hd3⟩ := nbF_iff.1 hu1
        have hdc : d = c := by simpa using hd2
        subst hdc
        have H1 : HallC t (us.filter fun u => !decide (u = u0)) adj := by
          intro q
          rw [List.countP_filter]
          have ec : (d :: t).countP (fun x => q x && !decide (x = d)) = t.countP q := by
            rw [List.countP_cons]
            simp
            refine List.countP_congr fun x hx => ?_
            have : x ≠ d := fun e => hct (e ▸ hx)
            simp [this]
          rcases Nat.eq_zero_or_pos (t.countP q) with h0 | h0
          · omega
          have hle := List.countP_le_length (p := q) (l := t)
          have a1 := hH fun x => q x && !decide (x = d)
          have a2 : ¬ (d :: t).countP (fun x => q x && !decide (x = d)) = us.countP (nbF (d :: t) adj fun x => q x && !decide (x = d)) := fun e => htight ⟨_, e, by omega, by rw [ec, List.length_cons]; omega⟩
          have a3 := countP_two us (nbF (d :: t) adj fun x => q x && !decide (x = d)) (fun u => nbF t adj q u && !decide (u = u0)) (fun u => decide (u = u0)) (fun u _ h => by
            by_cases hu : u = u0
            · exact .inr (by simp [hu])
            · refine .inl ?_
              obtain ⟨x, hx, hx2, hx3⟩ := nbF_iff.1 h
              have hxd : x ≠ d := fun e => by simp [e] at hx2
              have hq : q x = true := by revert hx2; cases q x <;> simp
              have hxt : x ∈ t := by
                rcases List.mem_cons.1 hx with e | e
                · exact absurd e hxd
                · exact e
              rw [nbF_iff.2 ⟨x, hxt, hq, hx3⟩]
              simp [hu])
          have a4 := count_one hu u0
          rw [ec] at a1 a2
          omega
        obtain ⟨g, ga, gb⟩ := ih t.length (by rw [← hn]; simp) t _ rfl htn (nodup_filter _ hu) H1
        refine ⟨fun x => if x = d then u0 else g x, fun x hx => ?_, fun a ha b hb hab => ?_⟩
        · by_cases hxd : x = d
          · simp only [hxd, if_true]
            exact ⟨hu0, hd3⟩
          · rcases List.mem_cons.1 hx with e | e
            · exact absurd e hxd
            · simp only [hxd, if_false]
              exact ⟨(List.mem_filter.1 (ga x e).1).1, (ga x e).2⟩
        · have hne : ∀ x ∈ t, g x ≠ u0 := fun x hx e => by
            have := (List.mem_filter.1 (ga x hx).1).2
            simp [e] at this
          have hmt : ∀ x ∈ d :: t, x ≠ d → x ∈ t := fun x hx hxd => by
            rcases List.mem_cons.1 hx with e | e
            · exact absurd e hxd
            · exact e
          by_cases had : a = d <;> by_cases hbd : b = d
          · rw [had, hbd]
          · simp only [had, hbd, if_true, if_false] at hab
            exact absurd hab.symm (hne b (hmt b hb hbd))
          · simp only [had, hbd, if_true, if_false] at hab
            exact absurd hab (hne a (hmt a ha had))
          · simp only [had, hbd, if_false] at hab
            exact gb a (hmt a ha had) b (hmt b hb hbd) hab
end
end Go.Proofs.YthhpdmkebnbbbaaGreatDoor
namespace Go.Proofs.YthhpdmkebnbbbaaGreatDoor
def prm (p : Nat) : Prop := 2 ≤ p ∧ ∀ d, 2 ≤ d → d < p → ¬ d ∣ p
theorem prm_cop {p e : Nat} (hp : prm p) (h : ¬ p ∣ e) : Nat.Coprime p e := by
  refine Classical.byContradiction fun hn => ?_
  have g1 := Nat.gcd_dvd_left p e
  have g0 : 0 < Nat.gcd p e := Nat.gcd_pos_of_pos_left _ (by have := hp.1; omega)
  have hn : Nat.gcd p e ≠ 1 := hn
  have hle := Nat.le_of_dvd (by have := hp.1; omega) g1
  rcases Nat.lt_or_ge (Nat.gcd p e) p with h2 | h2
  · exact hp.2 _ (by omega) h2 g1
  · have e2 : Nat.gcd p e = p := by omega
    exact h (e2 ▸ Nat.gcd_dvd_right p e)
/-- a prime's power that divides a product, not the one factor: the prime divides the other -/
theorem prm_part {p k m e : Nat} (hp : prm p) (h : p ^ k ∣ m * e) (hm : ¬ p ^ k ∣ m) : p ∣ e := by
  refine Classical.byContradiction fun hn => hm ?_
  exact Nat.Coprime.dvd_of_dvd_mul_right ((prm_cop hp hn).pow_left k) h
theorem prm_lpd {p k : Nat} (hp : prm p) : lpd (p ^ (k + 1)) = p := by
  have h1 : 1 ≤ p ^ (k + 1) := Nat.one_le_pow _ _ (by have := hp.1; omega)
  refine lpd_eq h1 hp.1 (Nat.mod_eq_zero_of_dvd (Nat.dvd_trans ⟨p ^ k, by rw [Nat.pow_succ, Nat.mul_comm]⟩ (Nat.dvd_refl _))) fun d d1 d2 hd => ?_
  have hd := Nat.dvd_of_mod_eq_zero hd
  have hc : Nat.Coprime p d := prm_cop hp fun h => by have := Nat.le_of_dvd (by omega) h; omega
  have hc2 : Nat.Coprime (p ^ (k + 1)) d := hc.pow_left _
  have := Nat.Coprime.eq_one_of_dvd hc2.symm hd
  omega
theorem pigeon2 : ∀ (n : Nat) (f : Nat → Nat), (∀ i, i ≤ n → f i < n) → (∀ i j, i ≤ n → j ≤ n → f i = f j → i = j) → False := by
  intro n
  induction n with
  | zero => intro f h _; exact absurd (h 0 (Nat.le_refl _)) (Nat.not_lt_zero _)
  | succ n ih =>
    intro f h hi
    refine ih (fun i => if f i = n then f (n + 1) else f i) (fun i hin => ?_) fun i j hin hjn hij => ?_
    · have a := h i (by omega)
      have b := h (n + 1) (by omega)
      by_cases e : f i = n
      · simp only [e, if_true]
        have : f (n + 1) ≠ n := fun e2 => by
          have := hi i (n + 1) (by omega) (by omega) (by omega)
          omega
        omega
      · simp only [e, if_false]
        omega
    · by_cases e : f i = n <;> by_cases e2 : f j = n
      · exact hi i j (by omega) (by omega) (by omega)
      · simp only [e, e2, if_true, if_false] at hij
        have := hi (n + 1) j (by omega) (by omega) hij
        omega
      · simp only [e, e2, if_true, if_false] at hij
        have := hi (n + 1) i (by omega) (by omega) hij.symm
        omega
      · simp only [e, e2, if_false] at hij
        exact hi i j (by omega) (by omega) hij
theorem least_pow {p k B : Nat} (h : ¬ p ^ (k + 1) ∣ B) : ∃ i, i ≤ k ∧ p ^ i ∣ B ∧ ¬ p ^ (i + 1) ∣ B := by
  induction k with
  | zero => exact ⟨0, Nat.le_refl _, by simp, h⟩
  | succ k ih =>
    by_cases hd : p ^ (k + 1) ∣ B
    · exact ⟨k + 1, Nat.le_refl _, hd, h⟩
    · obtain ⟨i, h1, h2⟩ := ih hd
      exact ⟨i, by omega, h2⟩
theorem mod_turn {x y q B : Nat} (h : q ∣ B) : (x + y * B) % q = x % q := by
  obtain ⟨k, rfl⟩ := h
  rw [show y * (q * k) = q * (y * k) by rw [Nat.mul_left_comm], Nat.add_mul_mod_self_left]
/-- what a digit is for a class: r is the class's rest -/
structure Dig (P : Nat) (q u m : Nat) : Prop where
  pw : ∃ p k, prm p ∧ q = p ^ (k + 1)
  dv : q ∣ m
  dp : m ∣ P
  lt : u < lpd q - 1
theorem dodge {α : Type} (P : Nat) (hP : 1 ≤ P) (R : List α) (rest modu : α → Nat) (q u : α → Nat) (hR : ∀ c ∈ R, Dig P (q c) (u c) (modu c)) (inj : ∀ c ∈ R, ∀ d ∈ R, q c = q d → u c = u d → rest c = rest d) :
    ∀ (n B x0 : Nat), P - B ≤ n → B ∣ P → (∀ c ∈ R, q c ∣ B → x0 % q c ≠ rest c % q c) → ∃ x, x % B = x0 % B ∧ ∀ c ∈ R, x % q c ≠ rest c % q c := by
  intro n
  induction n with
  | zero =>
    intro B x0 hn hB hav
    have hBP : B = P := by have := Nat.le_of_dvd hP hB; omega
    subst hBP
    exact ⟨x0, rfl, fun c hc => hav c hc (Nat.dvd_trans (hR c hc).dv (hR c hc).dp)⟩
  | succ n ih =>
    intro B x0 hn hB hav
    by_cases hall : ∀ c ∈ R, q c ∣ B
    · exact ⟨x0, rfl, fun c hc => hav c hc (hall c hc)⟩
    obtain ⟨c, hc, hcB⟩ : ∃ c ∈ R, ¬ q c ∣ B := Classical.byContradiction fun hh => hall fun c hc => Classical.byContradiction fun h2 => hh ⟨c, hc, h2⟩
    obtain ⟨⟨p, k, hp, hq⟩, hdv, hdp, _⟩ := hR c hc
    rw [hq] at hcB
    obtain ⟨i, hi, hi1, hi2⟩ := least_pow hcB
    have hB0 : 0 < B := Nat.pos_of_dvd_of_pos hB hP
    have hp2 := hp.1
    have hqP : p ^ (i + 1) ∣ P := Nat.dvd_trans (Nat.pow_dvd_pow p (by omega)) (Nat.dvd_trans (hq ▸ hdv) hdp)
    obtain ⟨e, he⟩ := hB
    have hpe : p ∣ e := prm_part hp (he ▸ hqP) hi2
    have hBp : B * p ∣ P := by
      rw [he]
      exact Nat.mul_dvd_mul_left B hpe
    have hgrow : B < B * p := by
      have : B * 2 ≤ B * p := Nat.mul_le_mul_left B hp2
      omega
    have hle := Nat.le_of_dvd hP hBp
    have hlp : lpd (p ^ (i + 1)) = p := prm_lpd hp
    -- a digit that no class takes
    have ht : ∃ t, t < p ∧ ∀ d ∈ R, q d = p ^ (i + 1) → (x0 + t * B) % q d ≠ rest d % q d := by
      refine Classical.byContradiction fun hno => ?_
      have hch : ∀ t, t < p → ∃ d ∈ R, q d = p ^ (i + 1) ∧ (x0 + t * B) % q d = rest d % q d := fun t htp => Classical.byContradiction fun h2 => hno ⟨t, htp, fun d hd hqd h3 => h2 ⟨d, hd, hqd, h3⟩⟩
      let pick : Nat → α := fun t => if h : t < p then Classical.choose (hch t h) else c
      have hpick : ∀ t, t < p → pick t ∈ R ∧ q (pick t) = p ^ (i + 1) ∧ (x0 + t * B) % q (pick t) = rest (pick t) % q (pick t) := fun t htp => by
        have := Classical.choose_spec (hch t htp)
        simpa [pick, htp] using this
      refine pigeon2 (p - 1) (fun t => u (pick t)) (fun t htp => ?_) fun a b ha hb hab => ?_
      · have h1 := hpick t (by omega)
        have := (hR _ h1.1).lt
        rw [h1.2.1, hlp] at this
        exact this
      · obtain ⟨a1, a2, a3⟩ := hpick a (by omega)
        obtain ⟨b1, b2, b3⟩ := hpick b (by omega)
        have hr := inj _ a1 _ b1 (by rw [a2, b2]) hab
        rw [a2] at a3
        rw [b2] at b3
        rw [hr] at a3
        have hab2 : (x0 + a * B) % p ^ (i + 1) = (x0 + b * B) % p ^ (i + 1) := by rw [a3, b3]
        have key : ∀ a b, a ≤ b → b ≤ p - 1 → (x0 + a * B) % p ^ (i + 1) = (x0 + b * B) % p ^ (i + 1) → a = b := by
          intro a b hle hb h
          have h2 := Nat.sub_mod_eq_zero_of_mod_eq h.symm
          have h3 : x0 + b * B - (x0 + a * B) = B * (b - a) := by
            rw [Nat.mul_sub, Nat.mul_comm B b, Nat.mul_comm B a]
            omega
          rw [h3] at h2
          have h4 := prm_part hp (Nat.dvd_of_mod_eq_zero h2) hi2
          rcases Nat.eq_zero_or_pos (b - a) with h5 | h5
          · omega
          · have := Nat.le_of_dvd h5 h4
            omega
        rcases Nat.le_total a b with hle | hle
        · exact key a b hle hb hab2
        · exact (key b a hle ha hab2.symm).symm
    obtain ⟨t, htp, htd⟩ := ht
    obtain ⟨x, hx1, hx2⟩ := ih (B * p) (x0 + t * B) (by omega) hBp (fun d hd hdB => by
      by_cases hd2 : q d ∣ B
      · rw [mod_turn hd2]
        exact hav d hd hd2
      · refine htd d hd ?_
        obtain ⟨⟨p', k', hp', hq'⟩, _, _, _⟩ := hR d hd
        rw [hq'] at hdB hd2 ⊢
        have h1 : p' ∣ p := prm_part hp' hdB hd2
        have hpp : p' = p := by
          have := Nat.le_of_dvd (by omega) h1
          rcases Nat.lt_or_ge p' p with h2 | h2
          · exact absurd h1 (hp.2 p' hp'.1 h2)
          · omega
        subst hpp
        have a1 : ¬ k' < i := fun h => hd2 (Nat.dvd_trans (Nat.pow_dvd_pow p' (by omega)) hi1)
        have a2 : ¬ i < k' := fun h => hi2 (by
          have : p' ^ (i + 2) ∣ B * p' := Nat.dvd_trans (Nat.pow_dvd_pow p' (by omega)) hdB
          rw [Nat.pow_succ] at this
          exact Nat.dvd_of_mul_dvd_mul_right (by omega) this)
        rw [show k' = i by omega])
    refine ⟨x, ?_, hx2⟩
    have h5 : x % (B * p) % B = (x0 + t * B) % (B * p) % B := by rw [hx1]
    rw [Nat.mod_mod_of_dvd _ ⟨p, rfl⟩, Nat.mod_mod_of_dvd _ ⟨p, rfl⟩] at h5
    rw [h5]
    exact mod_turn (Nat.dvd_refl B)
end Go.Proofs.YthhpdmkebnbbbaaGreatDoor
