/- The model's l4Natural. -/
import Derived.Test.YtjempdnbbghnlaaDoorN1
import Derived.Test.YtjempdnbbghnlaaDoorS40
import Derived.Test.YtjempdnbbghnlaaDoorStepA
import Derived.Deep.RegionHeld3
namespace Go.Proofs.YtjempdnbbghnlaaDoor
open Go.RowKit
theorem pt_take (d r : Int) (zs : List Cl) (k : Nat) (h : k < zs.length) : pt d r (zs.take (k + 1)) = pt d r (zs.take k) ++ (bif rAt zs k % d == r then [((rAt zs k - r) / d, mAt zs k / d)] else []) := by
  unfold pt
  rw [List.take_succ_eq_append_getElem h, List.filter_append, List.map_append]
  congr 1
  have e : zs[k] = (rAt zs k, mAt zs k) := by simp [rAt, mAt, h]
  rw [e]
  cases hb : (rAt zs k % d == r) <;> simp [hb]
theorem nat_less {zs : List Cl} (hv : Vl 1000 zs) (h1 : zs.length ≠ 1) (hg : gcdL zs ≤ 1) : nat zs = false := by
  rw [nat_unf hv, show (zs.length == 1) = false by simpa using h1, decide_eq_true hg]; rfl
theorem nat_more {zs : List Cl} (hv : Vl 1000 zs) (h1 : zs.length ≠ 1) (hg : 2 ≤ gcdL zs) : nat zs = (List.range (lpd (gcdL zs))).all fun r => nat (pt (lpd (gcdL zs)) r zs) := by
  rw [nat_unf hv, show (zs.length == 1) = false by simpa using h1, decide_eq_false (show ¬ gcdL zs ≤ 1 by omega)]; rfl
theorem nat_single {zs : List Cl} (hv : Vl 1000 zs) (h1 : zs.length = 1) : nat zs = (mAt zs 0 == 1) := by
  rw [nat_unf hv, h1]; rfl
theorem len8 {zs : List Cl} {d r : Int} {k : Nat} (h : zs.length ≤ 8) : (pt d r (zs.take k)).length ≤ 8 := by
  have h1 := pt_len (d := d) (r := r) (s := zs.take k)
  rw [List.length_take] at h1
  omega
set_option maxRecDepth 20000 in
set_option maxHeartbeats 4000000 in
theorem c_l4Natural : ∀ (K : Nat), K ≤ 1000 → ∀ (s : Option Addr) (n cap : Nat) (zs : List Cl) (w : World), Vl K zs → n ≤ 8 → Cls w s n zs → Calls Tryd.prog 13 #[.slice s n cap] w fun e w' => e = .returned (.bool (nat zs)) ∧ Below w.heap.size w w' := by
  intro K
  induction K with
  | zero =>
    intro _ s n cap zs w hv hn hc
    have hz : zs = [] := nil_of (f := 0) hv rfl
    have hl := hc.len
    subst hz
    have hn0 : n = 0 := by simpa using hl.symm
    subst hn0
    go_enter Tryd.func13, Tryd.ntmps13
    go_wp2_with fail
    go_loop [3, 4] (fun g i => g = .int .i64 0 ∧ i = .int .i64 0) (fun _ _ => 0)
    case atStart => exact ⟨rfl, rfl⟩
    case round =>
      obtain ⟨rfl, rfl⟩ := hrel
      go_wp2_with fail
      go_ret
      exact ⟨rb nat_nil.symm, Below.refl _ _⟩
  | succ K ih =>
    intro hK s n cap zs w hv hn hc
    have hl := hc.len
    have h8 : zs.length ≤ 8 := by omega
    have hv1000 : Vl 1000 zs := fun c hc => by have := hv c hc; omega
    have HI := Lib.hid (ih (by omega))
    clear ih
    by_cases h1 : n = 1
    · subst h1
      have HR := Lib.hid (nat_single hv1000 hl)
      rcases hc.lies with h0 | ⟨b, off, rfl, hb, hcells⟩
      · omega
      obtain ⟨hx, hy⟩ := hcells 0 (by omega)
      simp only [Nat.zero_mul, Nat.add_zero] at hx hy
      clear hcells
      generalize mAt zs 0 = y at *
      go_enter Tryd.func13, Tryd.ntmps13
      go_wp2_with fail
      go_ret
      exact ⟨rb HR.out.symm, Below.refl _ _⟩
    · have HL := Lib.hid hl
      have hn1 : ((n : Int) == 1) = false := by simp; omega
      have HLess := Lib.hid (fun hg => nat_less hv1000 (by omega) hg)
      have HMore := Lib.hid (fun hg => nat_more hv1000 (by omega) hg)
      clear hl h1
      go_enter Tryd.func13, Tryd.ntmps13
      go_wp2_with fail
      go_loop [3, 4] (fun d i => ∃ k : Nat, k ≤ n ∧ i = .int .i64 k ∧ d = .int .i64 (gcdL (zs.take k) : Int)) (fun _ i => n - (intOf i).toNat)
      case atStart => exact ⟨0, Nat.zero_le _, rfl, rfl⟩
      case round =>
        obtain ⟨k, hk, rfl, rfl⟩ := hrel
        have hgl := gcdL_le hv1000 k
        by_cases hlt : k < n
        · rcases hc.lies with h0 | ⟨b, off, rfl, hb, hcells⟩
          · omega
          obtain ⟨hx, hy⟩ := hcells k hlt
          obtain ⟨v1, v2, v3⟩ := vl_at hv1000 (show k < zs.length by rw [HL.out]; exact hlt)
          have HG := Lib.hid (show gcdI (gcdL (zs.take k) : Int) (mAt zs k) = (gcdL (zs.take (k + 1)) : Int) by rw [gcdI_gcd, gcdL_take _ _ (by rw [HL.out]; exact hlt)])
          clear hcells
          generalize gcdL (zs.take k) = g at *
          generalize rAt zs k = a at *
          generalize mAt zs k = d at *
          go_wp2_with fail
          refine (c_l1Gcd (g : Int) d (by omega) (by omega) (by omega) (by omega) _).mono ?_
          rintro e w2 ⟨rfl, rfl⟩
          go_wp2_with fail
          go_round
          case rel => exact ⟨k + 1, by omega, by go_num, by rw [HG.out]⟩
          case measure => simp [intOf]; omega
        · have hk' : n = k := by omega
          subst hk'
          have hT : zs.take n = zs := List.take_of_length_le (by rw [HL.out]; exact Nat.le_refl _)
          rw [hT] at hgl ⊢
          clear hT
          by_cases hg : gcdL zs ≤ 1
          · have HR := Lib.hid (HLess.out hg)
            clear HLess HMore
            generalize gcdL zs = g at *
            go_wp2_with fail
            go_ret
            exact ⟨rb HR.out.symm, Below.refl _ _⟩
          · have hg2 : 2 ≤ gcdL zs := by omega
            have HR := Lib.hid (HMore.out hg2)
            obtain ⟨p1, p2, p3⟩ := lpd_facts (n := 1000) hg2
            have hle := Nat.le_of_dvd (by omega) p2
            have hm : ∀ c ∈ zs, ((lpd (gcdL zs) : Nat) : Int) ∣ c.2 := fun c hc => p3 c hc (hv1000 c hc)
            have HV := Lib.hid (fun r => pt_vl (r := r) p1 hv hm)
            have hpr := c_l4Prime (gcdL zs) hg2 (by omega) w
            clear HLess HMore p2 p3 hm
            generalize lpd (gcdL zs) = p at *
            generalize gcdL zs = g at *
            go_wp2_with fail
            refine hpr.mono ?_
            rintro e w2 ⟨rfl, hb2⟩
            have hc2 := hc.keep hb2
            clear hpr
            go_wp2_with fail
            go_loopw [6] (fun i wq => ∃ r : Nat, r ≤ p ∧ i = .int .i64 r ∧ Below w.heap.size w wq ∧ Hid (∀ t, t < r → nat (pt (p : Int) (t : Int) zs) = true)) (fun i _ => p - (intOf i).toNat)
            case atStart => exact ⟨0, Nat.zero_le _, rfl, hb2, Lib.hid (fun t ht => by omega)⟩
            case round =>
              clear hb2 hc2
              obtain ⟨r, hr, rfl, hB, HAll⟩ := hrel
              by_cases hlt : r < p
              · obtain ⟨i0, hi, hz0, hz1, hz2⟩ := info_parts infoC
                have hO0 : (wr.alloc (.cells #[] 33)).ownsRow wr.heap.size 33 2 (.slice (some ⟨wr.heap.size, 0, none⟩) 0 0) 0 [] := World.ownsRow_lit wr #[] 0 (Nat.le_refl _) (by unfold maxLen; omega) rfl
                have hB0 : Below wr.heap.size wr (wr.alloc (.cells #[] 33)) := ba (Below.refl _ _) _
                have hcr := hc.keep hB
                have HVr := Lib.hid (HV.out (r : Int))
                have HStop := Lib.hid (fun (h : nat (pt (p : Int) (r : Int) zs) = false) => show nat zs = false by rw [HR.out]; exact all_f (List.mem_range.2 hlt) h)
                clear HV
                go_wp2_with fail
                generalize wr.alloc (.cells #[] 33) = W1 at *
                generalize wr = w0 at *
                go_loopw [7, 8] (fun v i wq => ∃ k : Nat, k ≤ n ∧ i = .int .i64 k ∧ wq.ownsRow w0.heap.size 33 2 v (pt (p : Int) (r : Int) (zs.take k)).length (cells2 (pt (p : Int) (r : Int) (zs.take k))) ∧ Below w0.heap.size w0 wq) (fun _ i _ => n - (intOf i).toNat)
                case atStart => exact ⟨0, Nat.zero_le _, rfl, hO0, hB0⟩
                case round =>
                  clear hO0 hB0
                  obtain ⟨k, hk, rfl, hO, hBw⟩ := hrel
                  by_cases hlk : k < n
                  · rcases (hcr.keep hBw).lies with h0 | ⟨b, off, rfl, hb, hcells⟩
                    · omega
                    obtain ⟨hx, hy⟩ := hcells k hlk
                    obtain ⟨v1, v2, v3⟩ := vl_at hv1000 (show k < zs.length by rw [HL.out]; exact hlk)
                    have hT := pt_take (p : Int) (r : Int) zs k (by rw [HL.out]; exact hlk)
                    have hl8 := len8 (d := (p : Int)) (r := (r : Int)) (k := k) h8
                    clear hcells
                    generalize rAt zs k = a at *
                    generalize mAt zs k = d at *
                    have hk0 : (0 : Int) ≤ (k : Int) := by omega
                    have hkl : (k : Int) < (n : Int) := by omega
                    cases he : (a % (p : Int) == (r : Int))
                    · rw [he, cond_false, List.append_nil] at hT
                      have HT := Lib.hid hT
                      clear hT
                      go_wp2_with fail
                      go_roundw
                      case rel => exact ⟨k + 1, by omega, by go_num, by rw [HT.out]; exact hO, hBw⟩
                      case measure => simp [intOf]; omega
                    · rw [he, cond_true] at hT
                      have HT := Lib.hid hT
                      have har : a % (p : Int) = r := by simpa using he
                      have hpe := Int.mul_ediv_add_emod a (p : Int)
                      have hpn : (0 : Int) ≤ (p : Int) * (a / p) := Int.mul_nonneg (by omega) (Int.ediv_nonneg v1 (by omega))
                      have hle1 : (r : Int) ≤ a := by omega
                      have hX1 : 0 ≤ (a - (r : Int)) / p := Int.ediv_nonneg (by omega) (by omega)
                      have hX2 : (a - (r : Int)) / p ≤ a - r := Int.ediv_le_self _ (by omega)
                      have hY1 : 0 ≤ d / (p : Int) := Int.ediv_nonneg (by omega) (by omega)
                      have hY2 : d / (p : Int) ≤ d := Int.ediv_le_self _ (by omega)
                      have ht1 : (a - (r : Int)).tdiv p = (a - (r : Int)) / p := Int.tdiv_eq_ediv_of_nonneg (by omega)
                      have ht2 : d.tdiv (p : Int) = d / (p : Int) := Int.tdiv_eq_ediv_of_nonneg (by omega)
                      have hw1 : IntKind.i64.wrap (a - (r : Int)) = a - r := IntWalk.i64_in _ (by omega)
                      have hw2 : IntKind.i64.wrap ((a - (r : Int)) / p) = (a - (r : Int)) / p := IntWalk.i64_in _ (by omega)
                      have hw3 : IntKind.i64.wrap (d / (p : Int)) = d / (p : Int) := IntWalk.i64_in _ (by omega)
                      have hp0 : ¬ (p : Int) = 0 := by omega
                      have hp1 : ((p : Int) == 0) = false := by simpa using hp0
                      have hp2 : ¬ p = 0 := by omega
                      have hne0 : some b ≠ u7.ownBlock := fun e => by
                        have h := (hO.lt b e.symm).1
                        rcases hcr.lies with h0 | ⟨b', off', hs', hb', _⟩
                        · omega
                        · simp only [Option.some.injEq, Addr.mk.injEq, and_true] at hs'
                          obtain ⟨rfl, _⟩ := hs'
                          omega
                      have HOne := Lib.hid (show ∀ u ∈ [Value.int .i64 ((a - (r : Int)) / p), Value.int .i64 (d / (p : Int))], u.oneCell' = true by simp [Value.oneCell'])
                      have hbs := hBw.size
                      clear hpe hpn hT he
                      generalize hLe : (pt (p : Int) (r : Int) (zs.take k)).length = L at *
                      have hm1 : L + 1 ≤ maxLen := by unfold maxLen; omega
                      have hm2 : (L + 1) * 16 ≤ 140737488355328 := by omega
                      have HLE := Lib.hid hLe
                      clear hLe
                      have heb : (a % (p : Int) == (r : Int)) = true := by simpa using har
                      clear har
                      go_wp2_with fail
                      clear heb
                      go_region_held3 (fun w' => w'.cell? ⟨b, off + k * 2, none⟩ = some (.int .i64 a) ∧ w'.cell? ⟨b, off + k * 2 + 1, none⟩ = some (.int .i64 d)) (go_keep) (first
                        | (refine step_append_own rfl (.tmp 55) (.tmp 73) 25 rfl w0.heap.size 33 i0 (.agg #[.int .i64 0, .int .i64 0]) 2 16 Tryd.underlying25 hi hz0 hz1 hz2 rfl (by decide) u7 L _ rfl (World.ownsRow.alloc (show World.ownsRow _ _ _ _ _ _ _ from hO) _) ⟨wr.heap.size, 0, none⟩ 1 1 [.int .i64 ((a - (r : Int)) / p), .int .i64 (d / (p : Int))] rfl rfl (two_new wr _ _ _) HOne.out hm1 hm2 (by simp; omega) ?_; intro v7 w7 hown7 hgrow7 _; have g0 := hgrow7.cell (a := ⟨b, off + k * 2, none⟩) (v := .int .i64 a) (by go_keep) hne0; have g1 := hgrow7.cell (a := ⟨b, off + k * 2 + 1, none⟩) (v := .int .i64 d) (by go_keep) hne0)
                        | fail)
                      have hb7 : Below w0.heap.size w0 w7 := (ba hBw.drew (.cells #[.int .i64 ((a - (r : Int)) / p), .int .i64 (d / (p : Int))] 33)).grown hgrow7 (ba hBw.drew _).size (fun j e => (hO.lt j e).1)
                      clear hw1 hw2 hw3 ht1 ht2
                      go_wp2_with fail
                      go_roundw
                      case rel => exact ⟨k + 1, by omega, by go_num, by rw [HT.out, cells2_append, List.length_append, HLE.out]; exact hown7, hb7⟩
                      case measure => simp [intOf]; omega
                  · have hk' : n = k := by omega
                    subst hk'
                    have hTk : zs.take n = zs := List.take_of_length_le (by rw [HL.out]; exact Nat.le_refl _)
                    have hl8 := len8 (d := (p : Int)) (r := (r : Int)) (k := n) h8
                    rw [hTk] at hO hl8
                    clear hTk
                    have hOC : OwnC wr w0.heap.size 33 u7 (pt (p : Int) (r : Int) zs) := hO
                    obtain ⟨s7, c7, rfl, hc7, _⟩ := hOC.spread
                    clear hO hOC
                    by_cases hz : (pt (p : Int) (r : Int) zs).length = 0
                    · have HF := Lib.hid (HStop.out (by rw [List.eq_nil_of_length_eq_zero hz]; exact nat_nil))
                      have hB2 := bt2 hB hBw
                      rw [hz]
                      clear HStop HR HAll HVr hc7 hz
                      go_wp2_with fail
                      go_ret
                      exact ⟨rb HF.out.symm, hB2⟩
                    · have hih := HI.out s7 (pt (p : Int) (r : Int) zs).length c7 (pt (p : Int) (r : Int) zs) wr (by have := HVr.out; exact this) hl8 hc7
                      have hz' : (((pt (p : Int) (r : Int) zs).length : Int) == 0) = false := by simpa using hz
                      have HNT := Lib.hid (rfl : nat (pt (p : Int) (r : Int) zs) = nat (pt (p : Int) (r : Int) zs))
                      have hB2 := bt2 hB hBw
                      generalize (pt (p : Int) (r : Int) zs).length = L at *
                      cases hnt : nat (pt (p : Int) (r : Int) zs)
                      · have HF := Lib.hid (HStop.out hnt)
                        rw [hnt] at hih
                        clear HStop HR HAll HVr hc7 hz HNT hnt
                        go_wp2_with fail
                        refine hih.mono ?_
                        rintro e w5 ⟨rfl, hb5⟩
                        go_wp2_with fail
                        go_ret
                        exact ⟨rb HF.out.symm, bt2 hB2 hb5⟩
                      · have HAll' := Lib.hid (fun t (ht : t < r + 1) => show nat (pt (p : Int) (t : Int) zs) = true from by
                          by_cases e : t = r
                          · rw [e]; exact hnt
                          · exact HAll.out t (by omega))
                        rw [hnt] at hih
                        clear HStop HVr hc7 hz HNT hnt
                        go_wp2_with fail
                        refine hih.mono ?_
                        rintro e w5 ⟨rfl, hb5⟩
                        have hB5 := bt2 hB2 hb5
                        go_wp2_with fail
                        go_roundw
                        case rel => exact ⟨r + 1, by omega, by go_num, hB5, HAll'⟩
                        case measure => simp [intOf]; omega
              · have hrp : r = p := by omega
                subst hrp
                have HT := Lib.hid (show nat zs = true by rw [HR.out]; exact List.all_eq_true.2 fun t ht => HAll.out t (List.mem_range.1 ht))
                clear HR HAll HV
                go_wp2_with fail
                go_ret
                exact ⟨rb HT.out.symm, hB⟩
end Go.Proofs.YtjempdnbbghnlaaDoor
