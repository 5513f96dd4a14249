/- Chapter 5, the model: RestIn, RestSize, and whether rests are told. -/
import Derived.Test.YtnbejgbkabaleaaBc
namespace Go.Proofs.Ytnbejgbkabaleaa
open Go.RowKit
/-- the first n are in their range, no two with a common divisor -/
def okP (zs : List Int) (n : Nat) : Prop := ∀ i, i < n → (2 ≤ mo zs i ∧ mo zs i ≤ 30) ∧ ∀ k, k < i → gcdI (mo zs i) (mo zs k) = 1
theorem pZ_succ (zs : List Int) (k : Nat) (hk : k < 4) : pZ zs (k + 1) = pZ zs k * mo zs k := by
  rcases (show k = 0 ∨ k = 1 ∨ k = 2 ∨ k = 3 by omega) with rfl | rfl | rfl | rfl
  · simp [pZ, pK]
  · rfl
  · rfl
  · rfl
theorem gcdI_mul {x y z : Int} (hx : 0 ≤ x) (hy : 0 ≤ y) : gcdI (x * y) z = 1 ↔ gcdI x z = 1 ∧ gcdI y z = 1 := by
  obtain ⟨a, rfl⟩ := Int.eq_ofNat_of_zero_le hx
  obtain ⟨b, rfl⟩ := Int.eq_ofNat_of_zero_le hy
  unfold gcdI
  rw [← Int.natCast_mul]
  simp only [Int.toNat_natCast]
  have c : ∀ n : Nat, ((n : Int) = 1 ↔ n = 1) := fun n => by omega
  rw [c, c, c]
  exact Nat.coprime_mul_iff_left
theorem gcdI_comm (x y : Int) : gcdI x y = gcdI y x := by unfold gcdI; rw [Nat.gcd_comm]
theorem pZ_gcd {zs : List Int} (n : Nat) (hn : n ≤ 4) (x : Int) (h : ∀ i, i < n → 2 ≤ mo zs i) : 0 ≤ pZ zs n ∧ (gcdI (pZ zs n) x = 1 ↔ ∀ k, k < n → gcdI x (mo zs k) = 1) := by
  induction n with
  | zero =>
    refine ⟨by simp [pZ, pK], fun _ k hk => by omega, fun _ => ?_⟩
    unfold gcdI pZ pK
    simp
  | succ n ih =>
    obtain ⟨i1, i2⟩ := ih (by omega) (fun i hi => h i (by omega))
    have h2 := h n (by omega)
    rw [pZ_succ zs n (by omega)]
    refine ⟨Int.mul_nonneg i1 (by omega), ?_⟩
    rw [gcdI_mul i1 (by omega), i2]
    constructor
    · rintro ⟨a, b⟩ k hk
      by_cases e : k = n
      · subst e; rw [gcdI_comm]; exact b
      · exact a k (by omega)
    · intro a
      exact ⟨fun k hk => a k (by omega), by rw [gcdI_comm]; exact a n (by omega)⟩
theorem okS_okP {zs : List Int} (n : Nat) (hn : n ≤ 4) : okS zs n = true ↔ okP zs n := by
  induction n with
  | zero => exact ⟨fun _ i hi => by omega, fun _ => rfl⟩
  | succ n ih =>
    simp only [okS, Bool.and_eq_true, decide_eq_true_eq, beq_iff_eq]
    rw [ih (by omega)]
    constructor
    · rintro ⟨⟨⟨a, b⟩, c⟩, d⟩ i hi
      by_cases e : i = n
      · subst e
        exact ⟨⟨b, c⟩, (pZ_gcd i (by omega) _ (fun j hj => (a j hj).1.1)).2.1 d⟩
      · exact a i (by omega)
    · intro a
      have hb := a n (by omega)
      have ha : okP zs n := fun i hi => a i (by omega)
      exact ⟨⟨⟨ha, hb.1.1⟩, hb.1.2⟩, (pZ_gcd n (by omega) _ (fun j hj => (ha j hj).1.1)).2.2 hb.2⟩
theorem basB_t {zs : List Int} (h : okP zs zs.length) : l6B zs.length 1 4 = basB zs := by
  unfold basB l6B
  by_cases hl : 1 ≤ zs.length ∧ zs.length ≤ 4
  · rw [(okS_okP zs.length hl.2).2 h, decide_eq_true (show (1 : Int) ≤ zs.length ∧ (zs.length : Int) ≤ 4 by omega), decide_eq_true hl]; rfl
  · rw [decide_eq_false (show ¬ ((1 : Int) ≤ zs.length ∧ (zs.length : Int) ≤ 4) by omega), decide_eq_false hl]; rfl
theorem basB_f {zs : List Int} (h : ¬ okP zs zs.length) : false = basB zs := by
  unfold basB
  by_cases hl : 1 ≤ zs.length ∧ zs.length ≤ 4
  · cases e : okS zs zs.length
    · simp
    · exact absurd ((okS_okP zs.length hl.2).1 e) h
  · rw [decide_eq_false hl]; rfl
theorem okP_next {zs : List Int} {n : Nat} (h : okP zs n) (h1 : 2 ≤ mo zs n) (h2 : mo zs n ≤ 30) (h3 : ∀ k, k < n → gcdI (mo zs n) (mo zs k) = 1) : okP zs (n + 1) := by
  intro i hi
  by_cases e : i = n
  · subst e; exact ⟨⟨h1, h2⟩, h3⟩
  · exact h i (by omega)
set_option maxRecDepth 20000 in
set_option maxHeartbeats 2000000 in
theorem c_specRestIn (s : Option Addr) (n cap : Nat) (zs : List Int) (hn : n ≤ 1048576) (w : World) (hz : Ints w s n zs) : Calls Try.prog 15 #[.slice s n cap] w fun e w' => e = .returned (.bool (basB zs)) ∧ Below w.heap.size w w' := by
  obtain rfl := hz.len
  have HT := Lib.hid (fun h => basB_t (zs := zs) h)
  have HF := Lib.hid (fun h => basB_f (zs := zs) h)
  go_enter Try.func15, Try.ntmps15
  go_wp2_with fail
  go_loopw [3] (fun i wr => ∃ (k : Nat), k ≤ zs.length ∧ i = .int .i64 k ∧ Hid (okP zs k) ∧ Below w.heap.size w wr) (fun i _ => zs.length - (intOf i).toNat)
  case atStart => exact ⟨0, by omega, rfl, Lib.hid (fun i hi => by omega), Below.refl _ _⟩
  case round =>
    obtain ⟨i, hi, rfl, hok, hB⟩ := hrel
    by_cases hlt : i < zs.length
    · rcases (hz.keep hB).lies with h0 | ⟨b, off, rfl, hbw, hcells⟩
      · omega
      have hx := hcells i hlt
      rw [mo_in hlt] at hx
      have hiz0 : (0 : Int) ≤ (i : Int) := by omega
      have hiz1 : (i : Int) < (zs.length : Int) := by omega
      by_cases hr : 2 ≤ mo zs i ∧ mo zs i ≤ 30
      · have hl6 := c_l6In (mo zs i) 2 30
        rw [l6B_t hr] at hl6
        have HG := Lib.hid hr
        have HC := Lib.hid (fun (wr : World) (hB : Below w.heap.size w wr) => (hz.keep hB).lies)
        clear hcells hr
        go_wp2_with (first | (go_at_call 47; refine (hl6 _).mono ?_; rintro e w' ⟨rfl, rfl⟩) | fail)
        go_loopw [4] (fun i2 wr => ∃ (k : Nat), k ≤ i ∧ i2 = .int .i64 k ∧ Hid (∀ j, j < k → gcdI (mo zs i) (mo zs j) = 1) ∧ Below w.heap.size w wr) (fun i2 _ => i - (intOf i2).toNat)
        case atStart => exact ⟨0, by omega, rfl, Lib.hid (fun j hj => by omega), hB⟩
        case round =>
          clear hB hx hbw
          obtain ⟨k, hk, rfl, hg, hB⟩ := hrel
          by_cases hlt2 : k < i
          · rcases HC.out _ hB with h0 | ⟨b', off', he, hbw, hcells⟩
            · omega
            cases he
            have hx := hcells i hlt
            have hy := hcells k (by omega)
            rw [mo_in hlt] at hx
            rw [mo_in (by omega)] at hy
            have hkz0 : (0 : Int) ≤ (k : Int) := by omega
            have hkz1 : (k : Int) < (zs.length : Int) := by omega
            have hkz2 : (k : Int) < (i : Int) := by omega
            have hrk := (hok.out k hlt2).1
            have hri := HG.out
            have hcg := fun w => c_l1Gcd (mo zs i) (mo zs k) (by omega) (by omega) (by omega) (by omega) w
            clear hcells hrk hri
            by_cases hgc : gcdI (mo zs i) (mo zs k) = 1
            · have hgb : (gcdI (mo zs i) (mo zs k) != 1) = false := by simp [hgc]
              have HN : Hid (∀ j, j < k + 1 → gcdI (mo zs i) (mo zs j) = 1) := Lib.hid (fun j hj => by
                by_cases e : j = k
                · subst e; exact hgc
                · exact hg.out j (by omega))
              clear hgc
              have q0 : ∀ p : Abv wr, p.x.cell? _ = some _ := fun p => p.cell hx
              have q1 : ∀ p : Abv wr, p.x.cell? _ = some _ := fun p => p.cell hy
              have hcb : ∀ y : Abv wr, Calls Try.prog 48 #[.int .i64 (mo zs i), .int .i64 (mo zs k)] y.x (fun e w' => e = .returned (.int .i64 (gcdI (mo zs i) (mo zs k))) ∧ Below y.x.heap.size y.x w') := fun y => (hcg y.x).mono (by rintro e w' ⟨rfl, rfl⟩; exact ⟨rfl, Below.refl _ _⟩)
              clear hcg hx hy
              go_wp2_with fail
              refine wp_region_above (by kernel_rfl) (by kernel_rfl) ?_
              repeat (refine q_step (fun K hK => ?_); go_simp; first | (refine hK _ ?_; clear hK K) | (apply Exists.intro; refine ⟨fun _ => ?_, hK _ ?_⟩; exact calls_above (hcb _); clear hK K))
              refine q_nil ?_
              intro _ hw'
              obtain ⟨y, hy'⟩ := hw'
              subst hy'
              have hB := bt2 hB y.h
              clear q0 q1 hcb
              go_wp2_with fail
              go_roundw
              case rel => exact ⟨k + 1, by omega, by go_num, HN, hB⟩
              case measure => simp [intOf]; omega
            · have hgb : (gcdI (mo zs i) (mo zs k) != 1) = true := by simpa using hgc
              have HN := Lib.hid (HF.out (fun h => hgc ((h i hlt).2 k hlt2)))
              clear hgc
              have q0 : ∀ p : Abv wr, p.x.cell? _ = some _ := fun p => p.cell hx
              have q1 : ∀ p : Abv wr, p.x.cell? _ = some _ := fun p => p.cell hy
              have hcb : ∀ y : Abv wr, Calls Try.prog 48 #[.int .i64 (mo zs i), .int .i64 (mo zs k)] y.x (fun e w' => e = .returned (.int .i64 (gcdI (mo zs i) (mo zs k))) ∧ Below y.x.heap.size y.x w') := fun y => (hcg y.x).mono (by rintro e w' ⟨rfl, rfl⟩; exact ⟨rfl, Below.refl _ _⟩)
              clear hcg hx hy
              go_wp2_with fail
              refine wp_region_above (by kernel_rfl) (by kernel_rfl) ?_
              repeat (refine q_step (fun K hK => ?_); go_simp; first | (refine hK _ ?_; clear hK K) | (apply Exists.intro; refine ⟨fun _ => ?_, hK _ ?_⟩; exact calls_above (hcb _); clear hK K))
              refine q_nil ?_
              intro _ hw'
              obtain ⟨y, hy'⟩ := hw'
              subst hy'
              have hB := bt2 hB y.h
              clear q0 q1 hcb
              go_wp2_with fail
              go_ret
              exact ⟨rb HN.out, hB⟩
          · have hk' : k = i := by omega
            subst hk'
            have HN := Lib.hid (okP_next hok.out HG.out.1 HG.out.2 hg.out)
            have hdk : decide ((k : Int) < (k : Int)) = false := by simp
            go_wp2_with fail
            go_roundw
            case rel => exact ⟨k + 1, by omega, by go_num, HN, hB⟩
            case measure => simp [intOf]; omega
      · have hl6 := c_l6In (mo zs i) 2 30
        rw [l6B_f hr] at hl6
        have HN := Lib.hid (HF.out (fun h => hr (h i hlt).1))
        clear hcells hr
        go_wp2_with (first | (go_at_call 47; refine (hl6 _).mono ?_; rintro e w' ⟨rfl, rfl⟩) | fail)
        go_ret
        exact ⟨rb HN.out, hB⟩
    · have hk' : i = zs.length := by omega
      subst hk'
      have hl6 := c_l6In (zs.length : Int) 1 4
      rw [HT.out hok.out] at hl6
      go_wp2_with (first | (go_at_call 47; refine (hl6 _).mono ?_; rintro e w' ⟨rfl, rfl⟩) | fail)
      go_ret
      exact ⟨rfl, hB⟩
end Go.Proofs.Ytnbejgbkabaleaa
