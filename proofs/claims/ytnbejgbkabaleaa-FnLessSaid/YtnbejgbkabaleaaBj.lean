/- Chapter 5, the model: RestLess. -/
import Derived.Test.YtnbejgbkabaleaaBg
namespace Go.Proofs.Ytnbejgbkabaleaa
open Go.RowKit
theorem less_eq {zs ys xs : List Int} (h1 : okZ zs ys = true) (h2 : okZ zs xs = true) (i : Nat) (hi : i < zs.length) (he : ∀ j, i < j → j < zs.length → digZ zs ys j = digZ zs xs j) :
    numZ zs ys - numZ zs xs = (nuZ zs ys i - nuZ zs xs i) + (digZ zs ys i - digZ zs xs i) * pZ zs i := by
  have key : ∀ n, i < n → n ≤ zs.length → nuZ zs ys n - nuZ zs xs n = (nuZ zs ys i - nuZ zs xs i) + (digZ zs ys i - digZ zs xs i) * pZ zs i := by
    intro n
    induction n with
    | zero => intro h _; omega
    | succ n ih =>
      intro h hn
      rw [nuZ_succ, nuZ_succ]
      by_cases e : i = n
      · subst e
        rw [Int.sub_mul]; omega
      · have := ih (by omega) (by omega)
        rw [he n (by omega) (by omega)]
        omega
  rw [← nuZ_all h1, ← nuZ_all h2]
  exact key _ hi (Nat.le_refl _)
theorem less_iff {zs ys xs : List Int} (h1 : okZ zs ys = true) (h2 : okZ zs xs = true) (i : Nat) (hi : i < zs.length) (he : ∀ j, i < j → j < zs.length → digZ zs ys j = digZ zs xs j) (h0 : i = 0 ∨ digZ zs ys i ≠ digZ zs xs i) :
    decide (digZ zs ys i < digZ zs xs i) = decide (numZ zs ys < numZ zs xs) := by
  have hl := (bas_len (okZ_bas h1)).2
  have e := less_eq h1 h2 i hi he
  have b1 := nuZ_bd h1 i (by omega)
  have b2 := nuZ_bd h2 i (by omega)
  have hz : i = 0 → nuZ zs ys i = 0 ∧ nuZ zs xs i = 0 := fun e => by subst e; exact ⟨rfl, rfl⟩
  congr 1
  apply propext
  constructor
  · intro h
    have : (digZ zs ys i - digZ zs xs i) * pZ zs i ≤ (-1) * pZ zs i := Int.mul_le_mul_of_nonneg_right (by omega) (by omega)
    omega
  · intro h
    rcases Int.lt_trichotomy (digZ zs ys i) (digZ zs xs i) with h3 | h3 | h3
    · exact h3
    · rcases h0 with h4 | h4
      · have := hz h4
        rw [h3, Int.sub_self, Int.zero_mul] at e
        omega
      · exact absurd h3 h4
    · have : 1 * pZ zs i ≤ (digZ zs ys i - digZ zs xs i) * pZ zs i := Int.mul_le_mul_of_nonneg_right (by omega) (by omega)
      omega
set_option maxRecDepth 20000 in
set_option maxHeartbeats 2000000 in
theorem c_specRestLess (s u x : Option Addr) (n cap m cap2 l cap3 : Nat) (zs ys xs : List Int) (hn : n ≤ 1048576) (hm : m ≤ 1048576) (hl : l ≤ 1048576) (w : World) (hz : Ints w s n zs) (hy : Ints w u m ys) (hx : Ints w x l xs) :
    Calls Try.prog 38 #[.slice s n cap, .slice u m cap2, .slice x l cap3] w fun e w' => e = .returned (.bool (lesZ zs ys xs)) ∧ Below w.heap.size w w' := by
  have hcon := fun w hz hy => c_l5Rests s u n cap m cap2 zs ys hn hm w hz hy
  have hco2 := fun w hz hy => c_l5Rests s x n cap l cap3 zs xs hn hl w hz hy
  cases h1 : okZ zs ys
  · have ho : lesZ zs ys xs = false := by rw [lesZ, twoB_and, h1]; rfl
    rw [h1] at hcon
    rw [ho]
    clear h1 ho
    go_enter Try.func38, Try.ntmps38
    go_wp2_with (first | (go_at_call 58; refine (hcon _ hz hy).mono ?_; rintro e w2 ⟨rfl, hb2⟩) | fail)
    go_ret
    exact ⟨rfl, hb2⟩
  · cases h2 : okZ zs xs
    · have ho : lesZ zs ys xs = false := by rw [lesZ, twoB_and, h1, h2]; rfl
      rw [h1] at hcon
      rw [h2] at hco2
      rw [ho]
      clear h1 h2 ho
      go_enter Try.func38, Try.ntmps38
      go_wp2_with fail
      refine (hcon _ hz hy).mono ?_
      rintro e w2 ⟨rfl, hb2⟩
      go_wp2_with fail
      refine (hco2 _ (hz.keep hb2) (hx.keep hb2)).mono ?_
      rintro e w3 ⟨rfl, hb3⟩
      go_wp2_with fail
      go_ret
      exact ⟨rfl, bt2 hb2 hb3⟩
    · have ho : lesZ zs ys xs = decide (numZ zs ys < numZ zs xs) := by rw [lesZ, twoB_and, h1, h2]; rfl
      have hl4 := bas_len (okZ_bas h1)
      have HI := Lib.hid (fun i hi he h0 => less_iff h1 h2 i hi he h0)
      have hd1 := fun w hz hy => c_l5Digits s u n cap m cap2 zs ys h1 w hz hy
      have hd2 := fun w hz hy => c_l5Digits s x n cap l cap3 zs xs h2 w hz hy
      have HF1 := Lib.hid (show (digL zs ys).length = zs.length from four_len (f := digZ zs ys) hl4.2)
      have HF2 := Lib.hid (show (digL zs xs).length = zs.length from four_len (f := digZ zs xs) hl4.2)
      have HG1 := Lib.hid (fun k (h : k < zs.length) => show (digL zs ys)[k]?.getD 0 = digZ zs ys k from four_get hl4.2 h)
      have HG2 := Lib.hid (fun k (h : k < zs.length) => show (digL zs xs)[k]?.getD 0 = digZ zs xs k from four_get hl4.2 h)
      rw [h1] at hcon
      rw [h2] at hco2
      rw [ho]
      clear h1 h2 ho
      obtain ⟨hla, hlb⟩ := hl4
      go_enter Try.func38, Try.ntmps38
      go_wp2_with fail
      refine (hcon _ hz hy).mono ?_
      rintro e w2 ⟨rfl, hb2⟩
      go_wp2_with fail
      refine (hco2 _ (hz.keep hb2) (hx.keep hb2)).mono ?_
      rintro e w3 ⟨rfl, hb3⟩
      have hB3 := bt2 hb2 hb3
      go_wp2_with fail
      refine (hd1 _ (hz.keep hB3) (hy.keep hB3)).mono ?_
      rintro e w4 ⟨v4, rfl, hO4, hb4⟩
      have hB4 := bt2 hB3 hb4
      go_wp2_with fail
      refine (hd2 _ (hz.keep hB4) (hx.keep hB4)).mono ?_
      rintro e w5 ⟨v5, rfl, hO5, hb5⟩
      have hB5 := bt2 hB4 hb5
      have hO45 := hO4.keep hb5
      obtain ⟨so, co, hv, hI4, hso⟩ := hO45.spread
      obtain ⟨so2, co2, hv2, hI5, hso2⟩ := hO5.spread
      subst hv hv2
      rw [HF1.out] at hI4
      rw [HF2.out] at hI5
      have HF1 := HF1.out
      have HF2 := HF2.out
      clear hso hso2 hO4 hO45 hO5 hcon hco2 hd1 hd2 hz hy hx hb2 hb3 hB3 hb4 hB4 hb5
      generalize (digL zs ys).length = La at *
      generalize (digL zs xs).length = Lb at *
      subst HF1 HF2
      have hL1 : ((zs.length : Int) - 1) = ((zs.length - 1 : Nat) : Int) := by omega
      go_wp2_with fail
      go_loopw [9] (fun i wr => ∃ (k : Nat), k < zs.length ∧ i = .int .i64 k ∧ Hid (∀ j, k < j → j < zs.length → digZ zs ys j = digZ zs xs j) ∧ Ints wr so zs.length (digL zs ys) ∧ Ints wr so2 zs.length (digL zs xs) ∧ Below w.heap.size w wr) (fun i _ => (intOf i).toNat)
      case atStart => exact ⟨zs.length - 1, by omega, rfl, Lib.hid (fun j h1 h2 => by omega), hI4, hI5, hB5⟩
      case round =>
        clear hI4 hI5 hB5 hL1
        obtain ⟨k, hk, rfl, he, hI4, hI5, hB⟩ := hrel
        rcases hI4.lies with h0 | ⟨b, off, rfl, hbw, hcells⟩
        · omega
        rcases hI5.lies with h0 | ⟨b2, off2, rfl, hbw2, hcells2⟩
        · omega
        have hx := hcells k hk
        rw [HG1.out k hk] at hx
        have hx2 := hcells2 k hk
        rw [HG2.out k hk] at hx2
        have hkz0 : (0 : Int) ≤ (k : Int) := by omega
        have hkz1 : (k : Int) < (zs.length : Int) := by omega
        clear hcells hcells2
        by_cases hk0 : k = 0
        · have hd0 : decide (0 < k) = false := decide_eq_false (by omega)
          have HE := Lib.hid (HI.out k hk he.out (.inl hk0))
          clear hk0
          go_wp2_with fail
          go_quiet (fail)
          go_wp2_with fail
          go_quiet (fail)
          go_wp2_with fail
          go_ret
          exact ⟨rb HE.out, bel_drewN (bel_drewN hB _) _⟩
        · have hd0 : decide (0 < k) = true := decide_eq_true (by omega)
          by_cases hq : digZ zs ys k = digZ zs xs k
          · have hqb : (digZ zs ys k == digZ zs xs k) = true := by simp [hq]
            have HN : Hid (∀ j, k - 1 < j → j < zs.length → digZ zs ys j = digZ zs xs j) := Lib.hid (fun j h1 h2 => by
              by_cases e : j = k
              · subst e; exact hq
              · exact he.out j (by omega) h2)
            have hs1 : (k : Int) - 1 = ((k - 1 : Nat) : Int) := by omega
            have HS := Lib.hid hs1
            clear hq hs1
            go_wp2_with fail
            go_quiet (fail)
            go_wp2_with fail
            go_roundw
            case rel => exact ⟨k - 1, by omega, by rw [HS.out], HN, hI4.keep (bel_drewN (Below.refl _ _) _), hI5.keep (bel_drewN (Below.refl _ _) _), bel_drewN hB _⟩
            case measure => simp [intOf]; omega
          · have hqb : (digZ zs ys k == digZ zs xs k) = false := by simpa using hq
            have HE := Lib.hid (HI.out k hk he.out (.inr hq))
            clear hq
            go_wp2_with fail
            go_quiet (fail)
            go_wp2_with fail
            go_quiet (fail)
            go_wp2_with fail
            go_ret
            exact ⟨rb HE.out, bel_drewN (bel_drewN hB _) _⟩
end Go.Proofs.Ytnbejgbkabaleaa
