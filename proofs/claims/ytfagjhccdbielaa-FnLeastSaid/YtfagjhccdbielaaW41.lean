/- The walk of the promise law FnLeast. -/
import Derived.Test.YtfagjhccdbielaaW35
import Derived.Test.YtfagjhccdbielaaMathG
import Derived.Test.YtfagjhccdbielaaS32
namespace Go.Proofs.Ytfagjhccdbielaa
open Go.RowKit
theorem topS_spa {zs : List Cl} {E : Int} {k i : Nat} (h : topS zs E k = some i) : spaB zs i E = true := by
  induction k with
  | zero => cases h
  | succ k ih =>
    simp only [topS] at h
    cases hs : spaB zs k E
    · rw [hs, cond_false] at h
      exact ih h
    · rw [hs, cond_true] at h
      cases h
      exact hs
theorem top_per {E : Int} {zs : List Cl} (hD : Div E zs) (k : Nat) (hk : k ≤ zs.length) : topS zs (perI zs) k = topS zs E k := by
  induction k with
  | zero => rfl
  | succ k ih => simp only [topS]; rw [spaB_per hD (by omega), ih (by omega)]
theorem les_facts {E : Int} : ∀ (n : Nat) (zs : List Cl), zs.length = n → Div E zs → 1 ≤ zs.length → Div E (lesL E zs) ∧ 1 ≤ (lesL E zs).length ∧ (∀ x, covB (lesL E zs) x = covB zs x) ∧ topS (lesL E zs) E (lesL E zs).length = none := by
  intro n
  induction n with
  | zero => intro zs h _ h1; omega
  | succ n ih =>
    intro zs h hD h1
    cases ht : topS zs E zs.length with
    | none =>
      rw [lesL_none ht]
      exact ⟨hD, h1, fun _ => rfl, ht⟩
    | some i =>
      have hi := topS_lt ht
      have hs := topS_spa ht
      rw [lesL_some ht]
      obtain ⟨a, b, c, d⟩ := ih (zs.eraseIdx i) (by rw [List.length_eraseIdx_of_lt hi, h]; rfl) (hD.erase i) (spare_left hD hi hs)
      exact ⟨a, b, fun x => by rw [c, spare_cov hD hi hs], d⟩
theorem least_facts {zs : List Cl} (hs : sysB zs = true) : sysB (lesL (perI zs) zs) = true ∧ splL (lesL (perI zs) zs) (perI (lesL (perI zs) zs)) = [] ∧ lesL (perI (lesL (perI zs) zs)) (lesL (perI zs) zs) = lesL (perI zs) zs ∧ samB zs (lesL (perI zs) zs) = true ∧ (lesL (perI zs) zs).length ≤ 8 := by
  obtain ⟨l1, l2, _⟩ := sysB_facts hs
  obtain ⟨a, b, c, d⟩ := les_facts zs.length zs rfl (Div.sys hs) l1
  have h8 := Nat.le_trans (lesL_len (perI zs) zs) l2
  have hy := div_sys a ⟨b, h8⟩
  have ht := top_per a _ (Nat.le_refl _)
  rw [d] at ht
  exact ⟨hy, splK_none ht, lesL_none ht, sam_of hs hy a.per.1 c, h8⟩
set_option maxRecDepth 20000 in
set_option maxHeartbeats 4000000 in
theorem w_FnLeast (s : Option Addr) (len cap : Nat) (w : World) (h : Code0 w s len cap) : Calls Try.prog 7 #[.slice s len cap] w fun e w' => e = .returned (.bool true) ∧ Below w.heap.size w w' := by
  have hlc := h.lc
  have hcm := h.cm
  unfold maxLen at hcm
  by_cases hlen : len ≤ 1048576
  · go_enter Try.func7, Try.ntmps7
    go_wp2_with fail
    refine (c_DrawHoleLeast s len cap _ h).mono ?_
    rintro e w1 ⟨v, zs, rfl, hO, hl, hb1⟩
    obtain ⟨so, co, rfl, hC, hc1, hc2⟩ := hO.all
    obtain ⟨n, hn⟩ : ∃ n, zs.length = n := ⟨_, rfl⟩
    rw [hn] at hC hc1 hl ⊢
    clear hO
    have hcon := c_implHoleLeast so n co zs (by omega) _ hC
    have hcos := fun w1 (h1 : Cls w1 so n zs) => c_specHoleLeast so n co zs (by omega) hc1 hc2 w1 h1
    cases hs : sysB zs
    · have hr : hleR zs = [] := by simp [hleR, hs]
      rw [hs, hr] at hcon hcos
      go_wp2_with fail
      refine hcon.mono ?_
      rintro e w2 ⟨v2, rfl, ⟨s2, k2, room2, rfl, hO2⟩, hb2⟩
      have hI2 := spreadC hO2
      go_wp2_with fail
      refine (hcos _ (hC.keep hb2)).mono ?_
      rintro e w3 ⟨v3, rfl, hO3, hb3⟩
      obtain ⟨s3, k3, rfl, hI3, _⟩ := hO3.spread
      have hI23 := hI2.keep hb3
      have hsame := fun w1 (h1 : Below w3.heap.size w3 w1) => c_sameCls s2 s3 0 k2 k3 [] (by omega) w1 (hI23.keep h1) (hI3.keep h1)
      have hB3 := bt2 (bt2 hb1 hb2) hb3
      clear hcon hcos hO2 hO3 hI2 hI3 hI23 hC
      go_wp2_with (first | (go_at_call 29; refine (hsame _ (Below.refl _ _)).mono ?_; rintro e w4 ⟨rfl, hb4⟩; have hB4 := bt2 hB3 hb4) | (go_at_call 29; refine (hsame _ hb4).mono ?_; rintro e w5 ⟨rfl, hb5⟩; have hB5 := bt2 hB4 hb5) | fail)
      go_ret
      exact ⟨rfl, hB5⟩
    · have hr : hleR zs = lesL (perI zs) zs := by simp [hleR, hs]
      obtain ⟨f1, f2, f3, f4, f5⟩ := least_facts hs
      rw [hs, hr] at hcon hcos
      clear hr
      generalize lesL (perI zs) zs = ys at *
      obtain ⟨m, hm⟩ : ∃ m, ys.length = m := ⟨_, rfl⟩
      have hr2 : hleR ys = ys := by simp [hleR, f1, f3]
      have hp2 : hspR ys = [] := by rw [hspR_t f1, f2]
      have hspa := fun st ct w1 (h1 : Cls w1 st m ys) => c_implHoleSpare st m ct ys (by omega) w1 h1
      have hlea := fun st ct w1 (h1 : Cls w1 st m ys) => c_implHoleLeast st m ct ys (by omega) w1 h1
      have hsam := fun st ct w1 (h1 : Cls w1 so n zs) (h2 : Cls w1 st m ys) => c_implSystemSame so st n m co ct zs ys (by omega) (by omega) w1 h1 h2
      have hsmc := fun st su ct cu w1 (h1 : Cls w1 st m ys) (h2 : Cls w1 su m ys) => c_sameCls st su m ct cu ys (by omega) w1 h1 h2
      rw [f1, hp2] at hspa
      rw [f1, hr2] at hlea
      rw [f4] at hsam
      clear f1 f2 f3 f4 hr2 hp2
      go_wp2_with fail
      refine hcon.mono ?_
      rintro e w2 ⟨v2, rfl, ⟨s2, k2, room2, hv2, hO2⟩, hb2⟩
      have hI2 := spreadC hO2
      rw [hm] at hv2 hI2
      subst hv2
      go_wp2_with fail
      refine (hcos _ (hC.keep hb2)).mono ?_
      rintro e w3 ⟨v3, rfl, hO3, hb3⟩
      obtain ⟨s3, k3, hv3, hI3, _⟩ := hO3.spread
      rw [hm] at hv3 hI3
      subst hv3
      have hI23 := hI2.keep hb3
      have hC3 := (hC.keep hb2).keep hb3
      have hs3 := hsmc s2 s3 k2 k3 w3 hI23 hI3
      have hB3 := bt2 (bt2 hb1 hb2) hb3
      clear hcon hcos hO2 hO3 hI2 hI3 hC hb1 hb2 hb3
      go_wp2_with (first | (go_at_call 29; refine hs3.mono ?_; rintro e w4 ⟨rfl, hb4⟩) | fail)
      have hI24 := hI23.keep hb4
      have hC4 := hC3.keep hb4
      have hB4 := bt2 hB3 hb4
      have hsp := hspa s2 k2 _ hI24
      clear hs3 hb4 hB3 hI23 hC3 hspa
      refine hsp.mono ?_
      rintro e w5 ⟨v5, rfl, hO5, hb5⟩
      obtain ⟨s5, k5, rfl, hI5, _⟩ := hO5.spread
      have hI25 := hI24.keep hb5
      have hC5 := hC4.keep hb5
      have hB5 := bt2 hB4 hb5
      have hle := hlea s2 k2 _ hI25
      clear hsp hO5 hI5 hb5 hB4 hI24 hC4 hlea
      go_wp2_with fail
      refine hle.mono ?_
      rintro e w6 ⟨v6, rfl, ⟨s6, k6, room6, hv6, hO6⟩, hb6⟩
      have hI6 := spreadC hO6
      rw [hm] at hv6 hI6
      subst hv6
      have hI26 := hI25.keep hb6
      have hC6 := hC5.keep hb6
      have hB6 := bt2 hB5 hb6
      have hs6 := hsmc s6 s2 k6 k2 _ hI6 hI26
      clear hle hO6 hb6 hB5 hI25 hC5 hsmc hI6
      go_wp2_with (first | (go_at_call 29; refine hs6.mono ?_; rintro e w7 ⟨rfl, hb7⟩) | fail)
      have hI27 := hI26.keep hb7
      have hC7 := hC6.keep hb7
      have hB7 := bt2 hB6 hb7
      have hs7 := hsam s2 k2 _ hC7 hI27
      clear hs6 hb7 hB6 hI26 hC6 hsam
      refine hs7.mono ?_
      rintro e w8 ⟨rfl, hb8⟩
      have hB8 := bt2 hB7 hb8
      go_wp2_with fail
      go_ret
      exact ⟨rfl, hB8⟩
  · go_enter Try.func7, Try.ntmps7
    go_wp2_with fail
    go_ret
    exact ⟨rfl, Below.refl _ _⟩
end Go.Proofs.Ytfagjhccdbielaa
