/- The digits of a number: for each power q of a prime p that divides it p - 1 of them; there are as many as the least number of classes but one. -/
import Derived.Test.YthhpdmkebnbbbaaGreatDoorMgP
import Derived.Test.YthhpdmkebnbbbaaGreatDoorMgN
namespace Go.Proofs.YthhpdmkebnbbbaaGreatDoor
/-- the powers of primes up to 1000, each with its prime -/
def ppL : List (Nat × Nat) := [(2, 2), (3, 3), (4, 2), (5, 5), (7, 7), (8, 2), (9, 3), (11, 11), (13, 13), (16, 2), (17, 17), (19, 19), (23, 23), (25, 5), (27, 3), (29, 29), (31, 31), (32, 2), (37, 37), (41, 41), (43, 43), (47, 47), (49, 7), (53, 53), (59, 59), (61, 61), (64, 2), (67, 67), (71, 71), (73, 73), (79, 79), (81, 3), (83, 83), (89, 89), (97, 97), (101, 101), (103, 103), (107, 107), (109, 109), (113, 113), (121, 11), (125, 5), (127, 127), (128, 2), (131, 131), (137, 137), (139, 139), (149, 149), (151, 151), (157, 157), (163, 163), (167, 167), (169, 13), (173, 173), (179, 179), (181, 181), (191, 191), (193, 193), (197, 197), (199, 199), (211, 211), (223, 223), (227, 227), (229, 229), (233, 233), (239, 239), (241, 241), (243, 3), (251, 251), (256, 2), (257, 257), (263, 263), (269, 269), (271, 271), (277, 277), (281, 281), (283, 283), (289, 17), (293, 293), (307, 307), (311, 311), (313, 313), (317, 317), (331, 331), (337, 337), (343, 7), (347, 347), (349, 349), (353, 353), (359, 359), (361, 19), (367, 367), (373, 373), (379, 379), (383, 383), (389, 389), (397, 397), (401, 401), (409, 409), (419, 419), (421, 421), (431, 431), (433, 433), (439, 439), (443, 443), (449, 449), (457, 457), (461, 461), (463, 463), (467, 467), (479, 479), (487, 487), (491, 491), (499, 499), (503, 503), (509, 509), (512, 2), (521, 521), (523, 523), (529, 23), (541, 541), (547, 547), (557, 557), (563, 563), (569, 569), (571, 571), (577, 577), (587, 587), (593, 593), (599, 599), (601, 601), (607, 607), (613, 613), (617, 617), (619, 619), (625, 5), (631, 631), (641, 641), (643, 643), (647, 647), (653, 653), (659, 659), (661, 661), (673, 673), (677, 677), (683, 683), (691, 691), (701, 701), (709, 709), (719, 719), (727, 727), (729, 3), (733, 733), (739, 739), (743, 743), (751, 751), (757, 757), (761, 761), (769, 769), (773, 773), (787, 787), (797, 797), (809, 809), (811, 811), (821, 821), (823, 823), (827, 827), (829, 829), (839, 839), (841, 29), (853, 853), (857, 857), (859, 859), (863, 863), (877, 877), (881, 881), (883, 883), (887, 887), (907, 907), (911, 911), (919, 919), (929, 929), (937, 937), (941, 941), (947, 947), (953, 953), (961, 31), (967, 967), (971, 971), (977, 977), (983, 983), (991, 991), (997, 997)]
def ppB (a : Nat × Nat) : Bool := Nat.blt 1 a.1 && Nat.beq (lpd a.1) a.2 && (List.range 10).any fun k => Nat.beq (Nat.pow a.2 (k + 1)) a.1
theorem ppL_ok : ppL.all ppB = true := by decide +kernel
def ascB : List (Nat × Nat) → Nat → Bool
  | [], _ => true
  | a :: t, b => Nat.blt b a.1 && ascB t a.1
theorem ppL_asc : ascB ppL 0 = true := by decide +kernel
theorem asc_ne {l : List (Nat × Nat)} : ∀ {b : Nat}, ascB l b = true → (∀ a ∈ l, b < a.1) ∧ l.Pairwise fun x y => x.1 < y.1 := by
  induction l with
  | nil => intro b _; exact ⟨(fun a h => by cases h), List.Pairwise.nil⟩
  | cons a t ih =>
    intro b h
    unfold ascB at h
    rw [Bool.and_eq_true] at h
    have h1 : b < a.1 := by simpa using h.1
    obtain ⟨i1, i2⟩ := ih h.2
    refine ⟨fun x hx => ?_, List.pairwise_cons.2 ⟨i1, i2⟩⟩
    rcases List.mem_cons.1 hx with rfl | hx
    · exact h1
    · exact Nat.lt_trans h1 (i1 x hx)
def usQ (P : Nat) : List (Nat × Nat) := ppL.filter fun a => Nat.beq (Nat.mod P a.1) 0
def usL (P : Nat) : List (Nat × Nat) := (usQ P).flatMap fun a => (List.range (a.2 - 1)).map fun u => (a.1, u)
def usN (P : Nat) : Nat := ppL.foldr (fun a s => bif Nat.beq (Nat.mod P a.1) 0 then Nat.add (Nat.sub a.2 1) s else s) 0
def usC (lo n : Nat) : Bool := (List.range n).all fun i => Nat.ble (leaS (lo + i)) (usN (lo + i))
end Go.Proofs.YthhpdmkebnbbbaaGreatDoor
namespace Go.Proofs.YthhpdmkebnbbbaaGreatDoor
theorem usC0 : usC 1 250 = true := by decide +kernel
theorem usC1 : usC 251 250 = true := by decide +kernel
end Go.Proofs.YthhpdmkebnbbbaaGreatDoor
namespace Go.Proofs.YthhpdmkebnbbbaaGreatDoor
theorem usC2 : usC 501 250 = true := by decide +kernel
end Go.Proofs.YthhpdmkebnbbbaaGreatDoor
namespace Go.Proofs.YthhpdmkebnbbbaaGreatDoor
theorem usC3 : usC 751 250 = true := by decide +kernel
end Go.Proofs.YthhpdmkebnbbbaaGreatDoor
namespace Go.Proofs.YthhpdmkebnbbbaaGreatDoor
theorem usL_len (P : Nat) : (usL P).length = usN P := by
  unfold usL usN usQ
  induction ppL with
  | nil => rfl
  | cons q t ih =>
    rw [List.foldr_cons, ← ih]
    cases h : Nat.beq (Nat.mod P q.1) 0
    · rw [List.filter_cons_of_neg (by simp [h]), cond_false]
    · have e : List.filter (fun a : Nat × Nat => Nat.beq (Nat.mod P a.1) 0) (q :: t) = q :: List.filter (fun a : Nat × Nat => Nat.beq (Nat.mod P a.1) 0) t := List.filter_cons_of_pos (p := fun a : Nat × Nat => Nat.beq (Nat.mod P a.1) 0) h
      rw [e, List.flatMap_cons, List.length_append, List.length_map, List.length_range, cond_true]
      rfl
theorem us_many {P : Nat} (h1 : 1 ≤ P) (h2 : P ≤ 1000) : leaS P ≤ (usL P).length := by
  rw [usL_len]
  have part : ∀ lo, usC lo 250 = true → lo ≤ P → P < lo + 250 → leaS P ≤ usN P := fun lo h a b => by
    have := List.all_eq_true.1 h (P - lo) (List.mem_range.2 (by omega))
    rw [show lo + (P - lo) = P by omega] at this
    exact Nat.le_of_ble_eq_true this
  rcases Nat.lt_or_ge P 251 with h | h
  · exact part 1 usC0 h1 h
  rcases Nat.lt_or_ge P 501 with h' | h'
  · exact part 251 usC1 h h'
  rcases Nat.lt_or_ge P 751 with h'' | h''
  · exact part 501 usC2 h' h''
  · exact part 751 usC3 h'' (by omega)
theorem us_facts {P : Nat} {v : Nat × Nat} (h : v ∈ usL P) : v.1 ∣ P ∧ (∃ p k, prm p ∧ v.1 = p ^ (k + 1)) ∧ v.2 < lpd v.1 - 1 := by
  unfold usL usQ at h
  obtain ⟨a, hq, hv⟩ := List.mem_flatMap.1 h
  obtain ⟨u, hu, rfl⟩ := List.mem_map.1 hv
  have hu := List.mem_range.1 hu
  obtain ⟨h1, h3⟩ := List.mem_filter.1 hq
  have h4 := List.all_eq_true.1 ppL_ok a h1
  unfold ppB at h4
  rw [Bool.and_eq_true, Bool.and_eq_true, List.any_eq_true] at h4
  obtain ⟨⟨h5, h7⟩, k, _, h6⟩ := h4
  have h5 : 1 < a.1 := by simpa using h5
  have h7 : lpd a.1 = a.2 := Nat.eq_of_beq_eq_true h7
  have h6 : a.2 ^ (k + 1) = a.1 := Nat.eq_of_beq_eq_true h6
  obtain ⟨l1, l2, l3, l4⟩ := lpd_ex (show 2 ≤ a.1 by omega)
  rw [h7] at l1 l2 l3 l4
  refine ⟨Nat.dvd_of_mod_eq_zero (Nat.eq_of_beq_eq_true h3), ⟨a.2, k, ⟨l1, fun d d1 d2 hd => l4 d d1 d2 ?_⟩, h6.symm⟩, by rw [h7]; exact hu⟩
  exact Nat.mod_eq_zero_of_dvd (Nat.dvd_trans hd (Nat.dvd_of_mod_eq_zero l3))
theorem us_nodup (P : Nat) : (usL P).Nodup := by
  unfold usL
  have hq : (usQ P).Pairwise fun x y => x.1 < y.1 := by
    unfold usQ
    exact List.Pairwise.sublist List.filter_sublist (asc_ne ppL_asc).2
  generalize usQ P = l at *
  induction l with
  | nil => exact List.Pairwise.nil
  | cons q t ih =>
    obtain ⟨h1, h2⟩ := List.pairwise_cons.1 hq
    rw [List.flatMap_cons]
    refine List.pairwise_append.2 ⟨?_, ih h2, fun a ha b hb => fun e => ?_⟩
    · rw [List.pairwise_map]
      exact List.Pairwise.imp (fun {a b} h e => Nat.ne_of_lt h (congrArg Prod.snd e)) List.pairwise_lt_range
    · obtain ⟨u, _, rfl⟩ := List.mem_map.1 ha
      obtain ⟨q2, hq2, hb2⟩ := List.mem_flatMap.1 hb
      obtain ⟨u2, _, rfl⟩ := List.mem_map.1 hb2
      have e : (q.1, u) = (q2.1, u2) := e
      have : q.1 = q2.1 := (Prod.mk.inj e).1
      have := h1 q2 hq2
      omega
end Go.Proofs.YthhpdmkebnbbbaaGreatDoor
namespace Go.Proofs.YthhpdmkebnbbbaaGreatDoor
open Go.RowKit
/-- a prime's power that divides the period divides a modulus -/
theorem pp_mod {E : Int} {zs : List Cl} (hD : Div E zs) {q : Nat} (hq : ∃ p k, prm p ∧ q = p ^ (k + 1)) (hd : q ∣ (perI zs).toNat) : ∃ c ∈ zs, q ∣ c.2.toNat := by
  obtain ⟨p, k, hp, rfl⟩ := hq
  obtain ⟨P0, P1, P2, P3⟩ := hD.per
  obtain ⟨P, hP⟩ := Int.eq_ofNat_of_zero_le (show 0 ≤ perI zs by omega)
  have hP : perI zs = (P : Int) := hP
  rw [hP] at hd P1 P2 P3
  rw [Int.toNat_natCast] at hd
  have hp2 := hp.1
  refine Classical.byContradiction fun hno => ?_
  have hpP : p ∣ P := Nat.dvd_trans ⟨p ^ k, by rw [Nat.pow_succ, Nat.mul_comm]⟩ hd
  obtain ⟨Q, hQ⟩ := hpP
  have hQ1 : 1 ≤ Q := by
    rcases Nat.eq_zero_or_pos Q with h | h
    · subst h; omega
    · exact h
  have hQP : Q < P := by
    have : 2 * Q ≤ p * Q := Nat.mul_le_mul_right Q hp2
    omega
  have hD2 : Div (Q : Int) zs := ⟨by omega, by omega, fun c hc => ⟨(hD.2.2 c hc).1, by
    obtain ⟨m1, _, _, _⟩ := inB_iff.1 (hD.2.2 c hc).1
    obtain ⟨m, hm⟩ := Int.eq_ofNat_of_zero_le (show 0 ≤ c.2 by omega)
    have hm : c.2 = (m : Int) := hm
    have h3 := P3 c hc
    rw [hm] at h3 ⊢
    have h3 := Int.natCast_dvd_natCast.1 h3
    refine Int.natCast_dvd_natCast.2 ?_
    obtain ⟨e, he⟩ := h3
    have hnm : ¬ p ^ (k + 1) ∣ m := fun h => hno ⟨c, hc, by rw [hm, Int.toNat_natCast]; exact h⟩
    obtain ⟨e2, he2⟩ := prm_part hp (he ▸ hd) hnm
    refine ⟨e2, Nat.eq_of_mul_eq_mul_left (show 0 < p by omega) ?_⟩
    rw [← hQ, he, he2, Nat.mul_left_comm]⟩⟩
  have h4 := hD2.per.1
  rw [hP] at h4
  have := Nat.le_of_dvd (by omega) (Int.natCast_dvd_natCast.1 h4)
  omega
def adjU (c : Cl) (v : Nat × Nat) : Bool := decide (v.1 ∣ c.2.toNat)
/-- classes that can each be given a digit: a number keeps off all, whatever its rest by a modulus that none of the digits divides -/
theorem keep_off {P : Nat} (hP : 1 ≤ P) {R : List Cl} (hR : ∀ c ∈ R, 1 ≤ c.2 ∧ 0 ≤ c.1 ∧ c.1 < c.2 ∧ c.2.toNat ∣ P) (hN : R.Nodup) {L : Nat} (hL : L ∣ P) (y : Nat) (hH : HallC R ((usL P).filter fun v => !decide (v.1 ∣ L)) adjU) :
    ∃ x : Nat, x % L = y % L ∧ ∀ c ∈ R, ¬ (x : Int) % c.2 = c.1 := by
  obtain ⟨g, ga, gb⟩ := hall adjU _ R _ rfl hN (nodup_filter _ (us_nodup P)) hH
  obtain ⟨x, hx1, hx2⟩ := dodge P hP R (fun c => c.1.toNat) (fun c => c.2.toNat) (fun c => (g c).1) (fun c => (g c).2) (fun c hc => by
    obtain ⟨h1, h2⟩ := ga c hc
    obtain ⟨h3, _⟩ := List.mem_filter.1 h1
    obtain ⟨_, h5, h6⟩ := us_facts h3
    exact ⟨h5, of_decide_eq_true h2, (hR c hc).2.2.2, h6⟩) (fun c hc d hd e1 e2 => by
    have : g c = g d := Prod.ext e1 e2
    rw [gb c hc d hd this]) P L y (by omega) hL (fun c hc hd => by
    have := (List.mem_filter.1 (ga c hc).1).2
    simp [hd] at this)
  refine ⟨x, hx1, fun c hc h => hx2 c hc ?_⟩
  obtain ⟨m1, r1, r2, _⟩ := hR c hc
  have hd : (g c).1 ∣ c.2.toNat := of_decide_eq_true (ga c hc).2
  have h2 : x % c.2.toNat = c.1.toNat := by
    have e : ((x % c.2.toNat : Nat) : Int) = (x : Int) % c.2 := by rw [Int.natCast_emod, Int.toNat_of_nonneg (by omega)]
    omega
  show x % (g c).1 = c.1.toNat % (g c).1
  rw [← h2, Nat.mod_mod_of_dvd _ hd]
theorem best {α : Type} (f : α → Prop) (m : α → Nat) (b : Nat) (hb : ∀ a, m a ≤ b) (h : ∃ a, f a) : ∃ a, f a ∧ ∀ a', f a' → m a' ≤ m a := by
  have key : ∀ (n : Nat) (a : α), f a → b - m a ≤ n → ∃ a, f a ∧ ∀ a', f a' → m a' ≤ m a := by
    intro n
    induction n with
    | zero => intro a ha hn; exact ⟨a, ha, fun a' _ => by have := hb a'; omega⟩
    | succ n ih =>
      intro a ha hn
      by_cases h2 : ∃ a', f a' ∧ m a < m a'
      · obtain ⟨a', h3, h4⟩ := h2
        have := hb a'
        exact ih a' h3 (by omega)
      · exact ⟨a, ha, fun a' h3 => Nat.le_of_not_lt fun h4 => h2 ⟨a', h3, h4⟩⟩
  obtain ⟨a, ha⟩ := h
  exact key _ a ha (Nat.le_refl _)
theorem cnt_two {zs : List Cl} {c d : Cl} (hc : c ∈ zs) (hd : d ∈ zs) (hne : c ≠ d) {x : Int} (h1 : x % c.2 = c.1) (h2 : x % d.2 = d.1) : 2 ≤ cntN zs x := by
  rw [cntN_countP]
  have h := countP_sum zs (fun e => decide (e = c) || decide (e = d)) (fun e => decide (e = c)) (fun e => decide (e = d)) (fun _ _ => rfl) (fun e _ h => by
    have : e = c := by simpa using h
    subst this
    simpa using hne)
  have a := List.countP_pos_iff (p := fun e => decide (e = c)) (l := zs) |>.2 ⟨c, hc, by simp⟩
  have b := List.countP_pos_iff (p := fun e => decide (e = d)) (l := zs) |>.2 ⟨d, hd, by simp⟩
  have m := countP_le_of zs (fun e => decide (e = c) || decide (e = d)) (fun e => x % e.2 == e.1) (fun e _ h => by
    rw [Bool.or_eq_true] at h
    rcases h with h | h
    · have : e = c := by simpa using h
      subst this
      simpa using h1
    · have : e = d := by simpa using h
      subst this
      simpa using h2)
  omega
theorem enough {zs : List Cl} (hs : sysB zs = true) (hx : exaB zs = true) : leaS (perI zs).toNat + 1 ≤ zs.length := by
  have hone := exa_one hs hx
  have hD := Div.sys hs
  obtain ⟨_, _, ha, _, P1, P2⟩ := sysB_facts hs
  obtain ⟨P, hP⟩ := Int.eq_ofNat_of_zero_le (show 0 ≤ perI zs by omega)
  have hP : perI zs = (P : Int) := hP
  have hin : ∀ c ∈ zs, 1 ≤ c.2 ∧ c.2 ≤ 1000 ∧ 0 ≤ c.1 ∧ c.1 < c.2 := fun c hc => inB_iff.1 (List.all_eq_true.1 ha c hc)
  have hdP : ∀ c ∈ zs, c.2.toNat ∣ P := fun c hc => by
    have := (hD.2.2 c hc).2
    rw [hP] at this
    have h1 := (hin c hc).1
    refine Int.natCast_dvd_natCast.1 ?_
    rw [Int.toNat_of_nonneg (by omega)]
    exact this
  have hnod : zs.Nodup := by
    refine List.pairwise_iff_forall_sublist.2 fun {a b} hab e => ?_
    subst e
    have hA := hin a (hab.subset List.mem_cons_self)
    have hc := hab.countP_le (p := fun c => a.1 % c.2 == c.1)
    have h5 := hone a.1
    rw [cntN_countP] at h5
    have ea : a.1 % a.2 = a.1 := Int.emod_eq_of_lt hA.2.2.1 hA.2.2.2
    have h6 : [a, a].countP (fun c => a.1 % c.2 == c.1) = 2 := by
      rw [List.countP_cons, List.countP_cons, List.countP_nil, ea]
      simp
    omega
  have hmany := us_many (P := P) (by omega) (by omega)
  rw [hP, Int.toNat_natCast]
  have hnone : ∀ x : Nat, ¬ ∀ c ∈ zs, ¬ (x : Int) % c.2 = c.1 := fun x h => by
    have := hone (x : Int)
    rw [cntN_countP] at this
    have h0 : zs.countP (fun c => (x : Int) % c.2 == c.1) = 0 := by
      rw [List.countP_eq_zero]
      intro c hc
      simpa using h c hc
    omega
  have hfail : ∃ p : Cl → Bool, (usL P).countP (nbF zs adjU p) < zs.countP p := by
    refine Classical.byContradiction fun hno => ?_
    obtain ⟨x, _, hx2⟩ := keep_off (P := P) (L := 1) (by omega) (fun c hc => by
      have := hin c hc
      exact ⟨this.1, this.2.2.1, this.2.2.2, hdP c hc⟩) hnod (Nat.one_dvd _) 0 (fun p => by
      rw [List.countP_filter]
      refine Nat.le_trans (Nat.le_of_not_lt fun h => hno ⟨p, h⟩) (countP_le_of _ _ _ fun v hv h => ?_)
      obtain ⟨_, ⟨q, k, hq, e⟩, _⟩ := us_facts hv
      have h2 : ¬ v.1 ∣ 1 := fun h3 => by
        have h4 := Nat.dvd_one.1 h3
        rw [e, Nat.pow_succ] at h4
        have h5 := Nat.eq_one_of_mul_eq_one_left h4
        have := hq.1
        omega
      rw [h]
      simp [Nat.dvd_one] at h2 ⊢
      exact h2)
    exact hnone x hx2
  obtain ⟨p, hp, hbest⟩ := best (fun p : Cl → Bool => (usL P).countP (nbF zs adjU p) < zs.countP p) (fun p => zs.countP p) zs.length (fun p => List.countP_le_length) hfail
  by_cases hall : ∀ c ∈ zs, p c = true
  · have e1 : zs.countP p = zs.length := List.countP_eq_length.2 hall
    have e2 : (usL P).countP (nbF zs adjU p) = (usL P).length := by
      refine List.countP_eq_length.2 fun v hv => ?_
      obtain ⟨h1, h2, _⟩ := us_facts hv
      obtain ⟨c, hc, hd⟩ := pp_mod hD h2 (by rw [hP, Int.toNat_natCast]; exact h1)
      exact nbF_iff.2 ⟨c, hc, hall c hc, decide_eq_true hd⟩
    have hp : (usL P).countP (nbF zs adjU p) < zs.countP p := hp
    omega
  · exfalso
    obtain ⟨c, hc, hcp⟩ : ∃ c ∈ zs, p c = false := Classical.byContradiction fun h => hall fun c hc => by
      cases e : p c
      · exact absurd ⟨c, hc, e⟩ h
      · rfl
    have hDS : Div (perI zs) (zs.filter p) := ⟨hD.1, hD.2.1, fun c hc => hD.2.2 c (List.mem_filter.1 hc).1⟩
    obtain ⟨L0, L1, L2, L3⟩ := hDS.per
    obtain ⟨L, hL⟩ := Int.eq_ofNat_of_zero_le (show 0 ≤ perI (zs.filter p) by omega)
    have hL : perI (zs.filter p) = (L : Int) := hL
    have hLP : L ∣ P := by
      rw [hL, hP] at L0
      exact Int.natCast_dvd_natCast.1 L0
    obtain ⟨x, hx1, hx2⟩ := keep_off (P := P) (R := zs.filter fun c => !p c) (by omega) (fun c hc => by
      have hc := (List.mem_filter.1 hc).1
      have := hin c hc
      exact ⟨this.1, this.2.2.1, this.2.2.2, hdP c hc⟩) (nodup_filter _ hnod) hLP c.1.toNat (fun r => by
      rw [List.countP_filter, List.countP_filter]
      rcases Nat.eq_zero_or_pos (zs.countP fun c => r c && !p c) with h0 | h0
      · omega
      have a2 := countP_sum zs (fun c => p c || r c) p (fun c => r c && !p c) (fun x _ => by cases p x <;> cases r x <;> rfl) (fun x _ h => by simp [h])
      have a1 : zs.countP (fun c => p c || r c) ≤ (usL P).countP (nbF zs adjU fun c => p c || r c) := Nat.le_of_not_lt fun h => by
        have := hbest _ h
        omega
      have a3 := countP_two (usL P) (nbF zs adjU fun c => p c || r c) (nbF zs adjU p) (fun v => nbF (zs.filter fun c => !p c) adjU r v && !decide (v.1 ∣ L)) (fun v hv h => by
        cases hN : nbF zs adjU p v
        · refine .inr ?_
          obtain ⟨d, hd, hd2, hd3⟩ := nbF_iff.1 h
          have hpd : p d = false := by
            cases hpd : p d
            · rfl
            · rw [nbF_iff.2 ⟨d, hd, hpd, hd3⟩] at hN; cases hN
          have hrd : r d = true := by simpa [hpd] using hd2
          have h7 : nbF (zs.filter fun c => !p c) adjU r v = true := nbF_iff.2 ⟨d, List.mem_filter.2 ⟨hd, by simp [hpd]⟩, hrd, hd3⟩
          have h8 : ¬ v.1 ∣ L := fun h9 => by
            obtain ⟨_, h2, _⟩ := us_facts hv
            obtain ⟨c, hc, hd⟩ := pp_mod hDS h2 (by rw [hL, Int.toNat_natCast]; exact h9)
            rw [nbF_iff.2 ⟨c, (List.mem_filter.1 hc).1, (List.mem_filter.1 hc).2, decide_eq_true hd⟩] at hN
            cases hN
          rw [h7]
          simp [h8]
        · exact .inl rfl)
      have hp : (usL P).countP (nbF zs adjU p) < zs.countP p := hp
      omega)
    refine hnone x fun d hd h => ?_
    cases hpd : p d
    · exact hx2 d (List.mem_filter.2 ⟨hd, by simp [hpd]⟩) h
    · have hdL := L3 d (List.mem_filter.2 ⟨hd, hpd⟩)
      rw [hL] at hdL
      have hcc := hin c hc
      have hy : c.1 % d.2 = d.1 := by
        have e : ((x % L : Nat) : Int) = ((c.1.toNat % L : Nat) : Int) := by rw [hx1]
        rw [Int.natCast_emod, Int.natCast_emod, Int.toNat_of_nonneg hcc.2.2.1] at e
        have e2 := congrArg (· % d.2) e
        simp only [Int.emod_emod_of_dvd _ hdL] at e2
        rw [← e2]
        exact h
      have hcy : c.1 % c.2 = c.1 := Int.emod_eq_of_lt hcc.2.2.1 hcc.2.2.2
      have := cnt_two hc hd (fun e => by rw [e, hpd] at hcp; cases hcp) hcy hy
      rw [hone] at this
      omega
end Go.Proofs.YthhpdmkebnbbbaaGreatDoor
