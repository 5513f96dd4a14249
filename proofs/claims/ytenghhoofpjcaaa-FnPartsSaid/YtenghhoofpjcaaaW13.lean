/- The walk of the promise law on parts: it returns true at every code. -/
import Derived.Test.YtenghhoofpjcaaaD6
import Derived.Test.YtenghhoofpjcaaaS4
import Derived.Test.YtenghhoofpjcaaaC3
import Derived.Test.YtenghhoofpjcaaaQ
import Derived.Deep.RegionHeld3
namespace Go.Proofs.Ytenghhoofpjcaaa
open Go.RowKit
theorem parL_r (r m : Int) (kn i : Nat) (h : i < kn) : rAt (parL r m (kn : Int)) i = r + (i : Int) * m := by simp [rAt, parL, h]
theorem parL_m (r m : Int) (kn i : Nat) (h : i < kn) : mAt (parL r m (kn : Int)) i = (kn : Int) * m := by simp [mAt, parL, h, Int.mul_comm]
theorem par_bel {r m : Int} {kn i : Nat} (h : parB r m (kn : Int) = true) (hi : i < kn) : belB (r + (i : Int) * m) ((kn : Int) * m) r m = true := by
  have h' : inB r m = true ∧ (1 ≤ (kn : Int) ∧ (kn : Int) ≤ 12) ∧ m * (kn : Int) ≤ 1000 := by simpa [parB, and_assoc] using h
  obtain ⟨h1, ⟨h2, h3⟩, h4⟩ := h'
  obtain ⟨m1, m2, r1, r2⟩ := inB_iff.1 h1
  rw [Int.mul_comm] at h4
  have a : 0 ≤ (i : Int) * m := Int.mul_nonneg (by omega) (by omega)
  have b : ((i : Int) + 1) * m ≤ (kn : Int) * m := Int.mul_le_mul_of_nonneg_right (by omega) (by omega)
  rw [Int.add_mul, Int.one_mul] at b
  have hi : inB (r + (i : Int) * m) ((kn : Int) * m) = true := inB_t ⟨by omega, h4, by omega, by omega⟩
  have e1 : (kn : Int) * m % m = 0 := Int.mul_emod_left _ _
  have e2 : (r + (i : Int) * m) % m = r := by rw [Int.add_mul_emod_self_right]; exact Int.emod_eq_of_lt r1 r2
  simp [belB, hi, h1, e1, e2]
/-- what lies above an own box -/
def Abx (w : World) (r m : Int) (w' : World) : Prop := Below (w.alloc (Obj.cells #[Value.int IntKind.i64 r, Value.int IntKind.i64 m] 24)).heap.size (w.alloc (Obj.cells #[Value.int IntKind.i64 r, Value.int IntKind.i64 m] 24)) w'
theorem Abx.c0 {w w' : World} {r m : Int} (h : Abx w r m w') : w'.cell? ⟨w.heap.size, 0, none⟩ = some (.int .i64 r) := kc h 0
theorem Abx.c1 {w w' : World} {r m : Int} (h : Abx w r m w') : w'.cell? ⟨w.heap.size, 1, none⟩ = some (.int .i64 m) := kc h 1
theorem Abx.z {w w' : World} {r m : Int} (h : Abx w r m w') : w.heap.size < w'.heap.size := kz h
theorem Abx.on {w a b : World} {r m : Int} (h : Abx w r m a) (k : Below a.heap.size a b) : Abx w r m b := bt2 (w := w.alloc (Obj.cells #[Value.int IntKind.i64 r, Value.int IntKind.i64 m] 24)) h k
theorem Abx.drew {w a : World} {r m : Int} (h : Abx w r m a) : Abx w r m a.drew := Below.drew h
theorem Abx.all {w a : World} {r m : Int} (h : Abx w r m a) : Below w.heap.size w a := bt2 (ba (Below.refl _ w) _) h
set_option maxHeartbeats 4000000 in
theorem w_FnParts (s : Option Addr) (len cap : Nat) (w : World) (h : Code0 w s len cap) : Calls Try.prog 12 #[.slice s len cap] w fun e w' => e = .returned (.bool true) ∧ Below w.heap.size w w' := by
  have hlc := h.lc
  have hcm := h.cm
  unfold maxLen at hcm
  by_cases hlen : len ≤ 1048576
  · go_enter Try.func12, Try.ntmps12
    go_wp2_with fail
    refine (c_DrawClassParts s len cap _ h).mono ?_
    rintro e w1 ⟨r, m, x, m1, m2, r1, r2, x1, x2, rfl, hb1⟩
    obtain ⟨kn, rfl⟩ := Int.eq_ofNat_of_zero_le x1
    have hLn : (parR r m (kn : Int)).length ≤ 1048576 := by have := parR_le r m (kn : Int); omega
    go_wp2_with fail
    refine (c_implClassParts _ _ _ _).mono ?_
    rintro e w2 ⟨v2, rfl, hO2, hB2⟩
    have h2 : Abx w1 r m w2 := hB2
    obtain ⟨s2, cap2, rfl, hC2, hs2⟩ := hO2.spread
    have k0 := h2.c0
    have k1 := h2.c1
    have z := h2.z
    go_wp2_with fail
    refine (c_specClassParts _ _ _ _).mono ?_
    rintro e w3 ⟨v3, rfl, hO3, hB3⟩
    have h3 := h2.on hB3
    have hC23 := hC2.keep hB3
    obtain ⟨s3, cap3, rfl, hC3, hs3⟩ := hO3.spread
    clear k0 k1 z
    have k0 := h3.c0
    have k1 := h3.c1
    have z := h3.z
    cases hin : parB r m (kn : Int)
    · go_wp2_with fail
      refine (c_sameClasses _ _ _ _ _ (parR r m (kn : Int)) hLn _ hC23 hC3).mono ?_
      rintro e w4 ⟨rfl, hB4⟩
      have hC24 := hC23.keep hB4
      have hC34 := hC3.keep hB4
      go_wp2_with fail
      refine (c_sameClasses _ _ _ _ _ (parR r m (kn : Int)) hLn _ hC24 hC34).mono ?_
      rintro e w5 ⟨rfl, hB5⟩
      go_wp2_with fail
      go_ret
      exact ⟨rfl, hb1.trans ((((h3.on hB4).on hB5).all).mono hb1.size)⟩
    · have hpl := parR_t hin
      have hll : (parL r m (kn : Int)).length = kn := by rw [parL_length]; exact Int.toNat_natCast kn
      rw [hpl, hll] at hC23 hC3
      rw [hpl, hll]
      have hin2 : inB r m = true ∧ (1 ≤ (kn : Int) ∧ (kn : Int) ≤ 12) ∧ m * (kn : Int) ≤ 1000 := by simpa [parB, and_assoc] using hin
      have HIN := Lib.hid hin
      clear hO2 hO3 hC2 hpl hll hLn
      go_wp2_with fail
      refine (c_sameClasses _ _ _ _ _ (parL r m (kn : Int)) (by omega) _ hC23 hC3).mono ?_
      rintro e w4 ⟨rfl, hB4⟩
      have hC4 := hC23.keep hB4
      have h4 := h3.on hB4
      clear k0 k1 z hC23 hC3 hs2 hs3
      have hknb : 0 ≤ (kn : Int) * m ∧ (kn : Int) * m ≤ 1000 := ⟨Int.mul_nonneg (by omega) (by omega), by rw [Int.mul_comm]; omega⟩
      go_wp2_with fail
      go_loopw [9] (fun i wr => ∃ k : Nat, k ≤ kn ∧ i = .int .i64 k ∧ Abx w1 r m wr ∧ Cls wr s2 kn (parL r m (kn : Int))) (fun i _ => kn - (intOf i).toNat)
      case atStart => exact ⟨0, Nat.zero_le _, rfl, h4, hC4⟩
      case round =>
        obtain ⟨i, hi, rfl, hA, hC⟩ := hrel
        have c0 := hA.c0
        have c1 := hA.c1
        have z := hA.z
        by_cases hlt : i < kn
        · have hbel := par_bel HIN.out hlt
          rcases hC.lies with h0 | ⟨b, off, rfl, hb', hcells⟩
          · omega
          obtain ⟨x0, x1'⟩ := hcells i hlt
          rw [parL_r r m kn i hlt] at x0
          rw [parL_m r m kn i hlt] at x1'
          have hwm : IntKind.i64.wrap ((kn : Int) * m) = (kn : Int) * m := IntWalk.i64_in _ (by omega)
          by_cases hp : 0 < i
          · obtain ⟨j, hj⟩ : ∃ j, i = j + 1 := ⟨i - 1, by omega⟩
            obtain ⟨y0, _⟩ := hcells j (by omega)
            rw [parL_r r m kn j (by omega)] at y0
            clear hcells
            have hlt2 : ¬ (r + (i : Int) * m ≤ r + (j : Int) * m) := by
              have e : (i : Int) * m = (j : Int) * m + m := by rw [hj, Int.natCast_add, Int.add_mul]; simp
              omega
            have hwj : IntKind.i64.wrap ((i : Int) - 1) = (j : Int) := by rw [IntWalk.i64_in _ (by omega)]; omega
            have hj0 : (0 : Int) ≤ j := by omega
            have hj1 : (j : Int) < kn := by omega
            have hi1 : (i : Int) < kn := by omega
            clear hj
            have hd := decide_eq_false hlt2
            clear hlt2
            generalize r + (i : Int) * m = p at x0 hd hbel
            generalize r + (j : Int) * m = q at y0 hd
            go_wp2_with fail
            first | (go_region_held3 (fun w' => w'.cell? ⟨b, off + i * 2, none⟩ = some (.int .i64 p) ∧ w'.cell? ⟨b, off + i * 2 + 1, none⟩ = some (.int .i64 ((kn : Int) * m)) ∧ w'.cell? ⟨b, off + j * 2, none⟩ = some (.int .i64 q) ∧ w'.cell? ⟨w1.heap.size, 0, none⟩ = some (.int .i64 r) ∧ w'.cell? ⟨w1.heap.size, 1, none⟩ = some (.int .i64 m)) (go_keep) (first | (go_at_call 18; refine (c_implClassBelow _ _ _ _ _).mono ?_; rintro e w6 ⟨rfl, hb6⟩; have hK := hA.drew.on hb6; have g0 := hK.c0; have g1 := hK.c1; have g2 := keepc hb6 (keep_drew x0); have g3 := keepc hb6 (keep_drew x1'); have g4 := keepc hb6 (keep_drew y0)) | fail)) | fail
            all_goals
              have hC7 := hC.keep ((Below.refl wr.heap.size wr).drew.trans (hb6.mono (Nat.le_refl _)))
              go_wp2_with fail
              go_roundw
              case rel => exact ⟨i + 1, by omega, by go_num, hK, hC7⟩
              case measure => simp [intOf]; omega
          · clear hcells
            have i0 : i = 0 := by omega
            subst i0
            have x0 : wr.cell? ⟨b, off, none⟩ = some (.int .i64 r) := by simpa using x0
            have x1' : wr.cell? ⟨b, off + 1, none⟩ = some (.int .i64 ((kn : Int) * m)) := by simpa using x1'
            have hbel : belB r ((kn : Int) * m) r m = true := by simpa using hbel
            have hk0 : (0 : Int) < kn := by omega
            have hcb : ∀ X : World, Calls Try.prog 18 #[.agg #[.int .i64 r, .int .i64 ((kn : Int) * m)], .agg #[.int .i64 r, .int .i64 m]] X fun e w' => e = .returned (.bool true) ∧ Below X.heap.size X w' := fun X => by
              have t := c_implClassBelow r ((kn : Int) * m) r m X
              rw [hbel] at t
              exact t
            have q0 : ∀ p : Abv wr, p.x.cell? ⟨b, off, none⟩ = some (.int .i64 r) := fun p => p.cell x0
            have q1 : ∀ p : Abv wr, p.x.cell? ⟨b, off + 1, none⟩ = some (.int .i64 ((kn : Int) * m)) := fun p => p.cell x1'
            have q2 : ∀ p : Abv wr, p.x.cell? ⟨w1.heap.size, 0, none⟩ = some (.int .i64 r) := fun p => p.cell c0
            have q3 : ∀ p : Abv wr, p.x.cell? ⟨w1.heap.size, 1, none⟩ = some (.int .i64 m) := fun p => p.cell c1
            go_wp2_with fail
            refine wp_region_above (by kernel_rfl) (by kernel_rfl) ?_
            repeat (refine q_step (fun K hK => ?_); go_simp; first | (refine hK _ ?_; clear hK K) | (apply Exists.intro; refine ⟨fun _ => ?_, hK _ ?_⟩; exact calls_above (hcb _); clear hK K))
            refine q_nil ?_
            intro _ hw'
            obtain ⟨p, hp'⟩ := hw'
            subst hp'
            have hK := hA.on p.h
            have hC7 := hC.keep p.h
            have g0 := hK.c0
            have g1 := hK.c1
            go_wp2_with fail
            go_roundw
            case rel => exact ⟨0 + 1, by omega, by go_num, hK, hC7⟩
            case measure => simp [intOf]; omega
        · have hk' : i = kn := by omega
          subst hk'
          go_wp2_with fail
          go_ret
          exact ⟨rfl, hb1.trans (hA.all.mono hb1.size)⟩
  · go_enter Try.func12, Try.ntmps12
    go_wp2_with fail
    go_ret
    exact ⟨rfl, Below.refl _ _⟩
end Go.Proofs.Ytenghhoofpjcaaa
