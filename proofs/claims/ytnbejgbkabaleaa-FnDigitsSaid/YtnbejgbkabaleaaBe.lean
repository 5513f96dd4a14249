/- Chapter 5, the model: RestSize, RestOf, and whether rests are told. -/
import Derived.Test.YtnbejgbkabaleaaBd
namespace Go.Proofs.Ytnbejgbkabaleaa
open Go.RowKit
theorem one_newJ (w : World) (x : Value) (t : TypeId) : ∀ j u, [x][j]? = some u → (w.alloc (.cells #[x] t)).cell? ((⟨w.heap.size, 0, none⟩ : Addr).add j) = some u := by
  intro j u h
  match j, h with
  | 0, h => simpa [Addr.add] using h
theorem pZ_bd {zs : List Int} (h : ∀ i, MB (mo zs i)) (k : Nat) (hk : k ≤ 4) : 1 ≤ pZ zs k ∧ pZ zs k ≤ 810000 := pK_bd (h 0) (h 1) (h 2) (h 3) k hk
theorem pZ_all {zs : List Int} (hl : zs.length ≤ 4) : pZ zs zs.length = sizZ zs := by
  have h : ∀ j k, k + j = 4 → zs.length ≤ k → pZ zs k = pZ zs 4 := by
    intro j
    induction j with
    | zero => intro k hk _; rw [show k = 4 by omega]
    | succ j ih =>
      intro k hk hl
      rw [← ih (k + 1) (by omega) (by omega), pZ_succ zs k (by omega), mo_out hl, Int.mul_one]
  exact h (4 - zs.length) zs.length (by omega) (Nat.le_refl _)
set_option maxRecDepth 20000 in
theorem c_l5Size (s : Option Addr) (n cap : Nat) (zs : List Int) (hl : zs.length ≤ 4) (hm : ∀ i, MB (mo zs i)) (w : World) (hz : Ints w s n zs) : Calls Try.prog 52 #[.slice s n cap] w fun e w' => e = .returned (.int .i64 (sizZ zs)) ∧ w = w' := by
  obtain rfl := hz.len
  have HL := Lib.hid (pZ_all hl)
  go_enter Try.func52, Try.ntmps52
  go_wp2_with fail
  go_loopw [3, 4] (fun q i wr => ∃ (k : Nat), k ≤ zs.length ∧ i = .int .i64 k ∧ q = .int .i64 (pZ zs k) ∧ wr = w) (fun _ i _ => zs.length - (intOf i).toNat)
  case atStart => exact ⟨0, by omega, rfl, rfl, rfl⟩
  case round =>
    obtain ⟨k, hk, rfl, rfl, rfl⟩ := hrel
    by_cases hlt : k < zs.length
    · rcases hz.lies with h0 | ⟨b, off, rfl, hbw, hcells⟩
      · omega
      have hx := hcells k hlt
      rw [mo_in hlt] at hx
      have hkz0 : (0 : Int) ≤ (k : Int) := by omega
      have hkz1 : (k : Int) < (zs.length : Int) := by omega
      obtain ⟨m1, m2⟩ := hm k
      have hp := pZ_bd hm k (by omega)
      have hpm := mulb (show 0 ≤ pZ zs k by omega) hp.2 (show 0 ≤ mo zs k by omega) m2
      have HS := Lib.hid (pZ_succ zs k (by omega))
      clear hcells hz
      go_wp2_with fail
      go_roundw
      case rel => exact ⟨k + 1, by omega, by go_num, by rw [HS.out], by trivial⟩
      case measure => simp [intOf]; omega
    · have hk' : k = zs.length := by omega
      subst hk'
      go_wp2_with fail
      go_ret
      exact ⟨ri HL.out, by trivial⟩
theorem c_specRestSize (s : Option Addr) (n cap : Nat) (zs : List Int) (hn : n ≤ 1048576) (w : World) (hz : Ints w s n zs) : Calls Try.prog 19 #[.slice s n cap] w fun e w' => e = .returned (.tuple #[.int .i64 (selI (basB zs) (sizZ zs)), .bool (basB zs)]) ∧ Below w.heap.size w w' := by
  have hcon := c_specRestIn s n cap zs hn w hz
  cases hb : basB zs
  · rw [hb] at hcon
    simp only [selI_f]
    clear hb
    go_enter Try.func19, Try.ntmps19
    go_wp2_with (first | (go_at_call 15; refine hcon.mono ?_; rintro e w2 ⟨rfl, hb2⟩) | fail)
    go_ret2
    exact ⟨rfl, hb2⟩
  · rw [hb] at hcon
    have hsz := fun w hz => c_l5Size s n cap zs (bas_len hb).2 (bas_mb hb) w hz
    simp only [selI_t]
    clear hb
    go_enter Try.func19, Try.ntmps19
    go_wp2_with (first | (go_at_call 15; refine hcon.mono ?_; rintro e w2 ⟨rfl, hb2⟩) | (go_at_call 52; refine (hsz _ (hz.keep hb2)).mono ?_; rintro e w' ⟨rfl, rfl⟩) | fail)
    go_ret2
    exact ⟨rfl, hb2⟩
set_option maxRecDepth 20000 in
set_option maxHeartbeats 1000000 in
theorem c_l5Of (s : Option Addr) (n cap : Nat) (zs : List Int) (x : Int) (hx0 : 0 ≤ x) (hl : zs.length ≤ 4) (hm : ∀ i, MB (mo zs i)) (w : World) (hz : Ints w s n zs) : Calls Try.prog 54 #[.slice s n cap, .int .i64 x] w (RetL w (rofL zs x)) := by
  obtain rfl := hz.len
  obtain ⟨i0, hi, hz0, hz1, hz2⟩ := info_parts infoJ
  have hO0 : (w.alloc (.cells #[] 3)).ownsRow w.heap.size 3 1 (.slice (some ⟨w.heap.size, 0, none⟩) 0 0) 0 [] := World.ownsRow_lit w #[] 0 (Nat.le_refl _) (by unfold maxLen; omega) rfl
  have hB0 : Below w.heap.size w (w.alloc (.cells #[] 3)) := ba (Below.refl _ _) _
  have HR := Lib.hid (show four (fun i => x % mo zs i) zs.length = rofL zs x from rfl)
  have HF := Lib.hid (fun k (h : k < 4) => four_succ (f := fun i => x % mo zs i) h)
  have HN := Lib.hid (fun k (h : k ≤ 4) => four_len (f := fun i => x % mo zs i) h)
  go_enter Try.func54, Try.ntmps54
  go_wp2_with fail
  go_loopw [5, 6] (fun v i wr => ∃ (k : Nat), k ≤ zs.length ∧ i = .int .i64 k ∧ wr.ownsRow w.heap.size 3 1 v k ((four (fun i => x % mo zs i) k).map (Value.int .i64)) ∧ Below w.heap.size w wr) (fun _ i _ => zs.length - (intOf i).toNat)
  case atStart => exact ⟨0, Nat.zero_le _, rfl, hO0, hB0⟩
  case round =>
    clear hO0 hB0
    obtain ⟨k, hk, rfl, hOr, hB⟩ := hrel
    by_cases hlt : k < zs.length
    · rcases (hz.keep hB).lies with h0 | ⟨b, off, rfl, hbw, hcells⟩
      · omega
      have hx := hcells k hlt
      rw [mo_in hlt] at hx
      have hkz0 : (0 : Int) ≤ (k : Int) := by omega
      have hkz1 : (k : Int) < (zs.length : Int) := by omega
      obtain ⟨m1, m2⟩ := hm k
      have HT := Lib.hid (HF.out k (by omega))
      clear hcells hz
      have hbs := hB.size
      go_wp2_with (at_builtin; refine wpList_append_own_at _ rfl _ _ 23 rfl w.heap.size 3 i0 (.int .i64 0) 1 8 Try.underlying23 hi hz0 hz1 hz2 rfl (by decide) _ k _ rfl (hOr.alloc _) ⟨wr.heap.size, 0, none⟩ 1 1 [.int .i64 (x % mo zs k)] rfl rfl (one_newJ wr _ _) (by simp [Value.oneCell']) (by unfold maxLen; omega) (by omega) (by simp; omega) ?_; intro v7 w7 hown7 hgrow7 _ hloc)
      have hb7 : Below w.heap.size w w7 := (hB.alloc hbs _).grown hgrow7 (by simp; omega) (fun g e => (hOr.lt g e).1)
      go_roundw
      case rel => exact ⟨k + 1, by omega, by go_num, by rw [HT.out, List.map_append]; exact hown7, hb7⟩
      case measure => simp [intOf]; omega
    · have hk' : k = zs.length := by omega
      subst hk'
      rw [HR.out] at hOr
      have hOI : OwnI wr w.heap.size 3 u5 (rofL zs x) := by
        unfold OwnI; rw [← HR.out, HN.out _ hl]; rw [HR.out]; exact hOr
      clear hOr
      go_wp2_with fail
      go_ret
      exact ⟨_, rfl, hOI, hB⟩
theorem ofZ_l6 {zs : List Int} (x : Int) (h : basB zs = true) : l6B x 0 (sizZ zs - 1) = ofZ zs x := by
  unfold l6B ofZ
  rw [h, Bool.true_and]
  by_cases a : 0 ≤ x
  · by_cases b : x < sizZ zs
    · rw [decide_eq_true a, decide_eq_true b, decide_eq_true (by omega)]; rfl
    · rw [decide_eq_false b, decide_eq_false (by omega), Bool.and_false]
  · rw [decide_eq_false a, decide_eq_false (by omega), Bool.false_and]
theorem c_specRestOf (s : Option Addr) (n cap : Nat) (zs : List Int) (x : Int) (hn : n ≤ 1048576) (w : World) (hz : Ints w s n zs) : Calls Try.prog 21 #[.slice s n cap, .int .i64 x] w (RetJ w (rofR zs x) (ofZ zs x)) := by
  have hcon := c_specRestIn s n cap zs hn w hz
  have hlit : ∀ {w2 : World}, Below w.heap.size w w2 → OwnI (w2.alloc (.cells #[] 3)) w.heap.size 3 (.slice (some ⟨w2.heap.size, 0, none⟩) 0 0) [] := fun {w2} h => World.ownsRow_lit w2 #[] 0 h.size (by unfold maxLen; omega) rfl
  cases hb : basB zs
  · have ho : ofZ zs x = false := by rw [ofZ, hb]; rfl
    have hr : rofR zs x = [] := by rw [rofR, ho]; rfl
    rw [hb] at hcon
    rw [ho, hr]
    clear hb ho hr
    go_enter Try.func21, Try.ntmps21
    go_wp2_with (first | (go_at_call 15; refine hcon.mono ?_; rintro e w2 ⟨rfl, hb2⟩) | fail)
    go_ret2
    exact ⟨_, rfl, hlit hb2, ba hb2 _⟩
  · rw [hb] at hcon
    have hsz := fun w hz => c_l5Size s n cap zs (bas_len hb).2 (bas_mb hb) w hz
    have hof := fun hx w hz => c_l5Of s n cap zs x hx (bas_len hb).2 (bas_mb hb) w hz
    have hl6 := c_l6In x 0 (sizZ zs - 1)
    have hsb : 1 ≤ sizZ zs ∧ sizZ zs ≤ 810000 := pZ_bd (bas_mb hb) 4 (by omega)
    rw [ofZ_l6 x hb] at hl6
    cases ho : ofZ zs x
    · have hr : rofR zs x = [] := by rw [rofR, ho]; rfl
      rw [hr]
      rw [ho] at hl6
      clear hb ho hr
      go_enter Try.func21, Try.ntmps21
      go_wp2_with (first | (go_at_call 15; refine hcon.mono ?_; rintro e w2 ⟨rfl, hb2⟩) | (go_at_call 52; refine (hsz _ (hz.keep hb2)).mono ?_; rintro e w' ⟨rfl, rfl⟩) | (go_at_call 47; refine (hl6 _).mono ?_; rintro e w' ⟨rfl, rfl⟩) | fail)
      go_ret2
      exact ⟨_, rfl, hlit hb2, ba hb2 _⟩
    · have hr : rofR zs x = rofL zs x := by rw [rofR, ho]; rfl
      have hx0 : 0 ≤ x := by
        unfold ofZ at ho
        simp only [Bool.and_eq_true, decide_eq_true_eq] at ho
        exact ho.1.2
      rw [hr]
      rw [ho] at hl6
      clear hb ho hr
      go_enter Try.func21, Try.ntmps21
      go_wp2_with (first | (go_at_call 15; refine hcon.mono ?_; rintro e w2 ⟨rfl, hb2⟩) | (go_at_call 52; refine (hsz _ (hz.keep hb2)).mono ?_; rintro e w' ⟨rfl, rfl⟩) | (go_at_call 47; refine (hl6 _).mono ?_; rintro e w' ⟨rfl, rfl⟩) | (go_at_call 54; refine (hof hx0 _ (hz.keep hb2)).mono ?_; rintro e w3 ⟨v, rfl, hO, hb3⟩) | fail)
      go_ret2
      exact ⟨_, rfl, hO.low hb2.size, bt2 hb2 hb3⟩
theorem zA_in {ys : List Int} {k : Nat} : ys[k]?.getD 0 = zA ys k := rfl
theorem zA_out {ys : List Int} {k : Nat} (h : ys.length ≤ k) : zA ys k = 0 := by simp [zA, h]
theorem emod_self_iff {x m : Int} (hm : 1 ≤ m) : (x % m == x) = true ↔ 0 ≤ x ∧ x < m := by
  have hb := emod_bd x m hm
  constructor
  · intro h
    have e : x % m = x := by simpa using h
    omega
  · rintro ⟨a, b⟩
    simp [Int.emod_eq_of_lt a b]
theorem tolZ_iff {zs ys : List Int} (h : basB zs = true) : tolZ zs ys = true ↔ ys.length = zs.length ∧ ∀ i, i < zs.length → 0 ≤ zA ys i ∧ zA ys i < mo zs i := by
  have hm := bas_mb h
  have hl := bas_len h
  have key : ys.length = zs.length → ∀ i, ((zA ys i % mo zs i == zA ys i) = true ↔ (i < zs.length → 0 ≤ zA ys i ∧ zA ys i < mo zs i)) := by
    intro he i
    rw [emod_self_iff (hm i).1]
    constructor
    · intro h _; exact h
    · intro h
      by_cases hi : i < zs.length
      · exact h hi
      · rw [zA_out (by omega), mo_out (zs := zs) (by omega)]; omega
  unfold tolZ tolB
  simp only [Bool.and_eq_true]
  constructor
  · rintro ⟨⟨⟨⟨a, b0⟩, b1⟩, b2⟩, b3⟩
    have a' : ys.length = zs.length := by simpa using a
    refine ⟨a', fun i hi => ?_⟩
    have hk := key a'
    rcases (show i = 0 ∨ i = 1 ∨ i = 2 ∨ i = 3 by omega) with rfl | rfl | rfl | rfl
    · exact (hk 0).1 b0 hi
    · exact (hk 1).1 b1 hi
    · exact (hk 2).1 b2 hi
    · exact (hk 3).1 b3 hi
  · rintro ⟨a, b⟩
    have hk := key a
    exact ⟨⟨⟨⟨by simp [a], (hk 0).2 (b 0)⟩, (hk 1).2 (b 1)⟩, (hk 2).2 (b 2)⟩, (hk 3).2 (b 3)⟩
theorem okZ_f {zs ys : List Int} (h : ¬ (ys.length = zs.length ∧ ∀ i, i < zs.length → 0 ≤ zA ys i ∧ zA ys i < mo zs i)) : false = okZ zs ys := by
  cases hb : basB zs
  · rw [okZ, hb]; rfl
  · cases ht : tolZ zs ys
    · rw [okZ, ht, Bool.and_false]
    · exact absurd ((tolZ_iff hb).1 ht) h
theorem okZ_t {zs ys : List Int} (hb : basB zs = true) (h1 : ys.length = zs.length) (h : ∀ i, i < zs.length → 0 ≤ zA ys i ∧ zA ys i < mo zs i) : true = okZ zs ys := by
  rw [okZ, hb, (tolZ_iff hb).2 ⟨h1, h⟩]; rfl
set_option maxRecDepth 20000 in
set_option maxHeartbeats 2000000 in
theorem c_l5Rests (s u : Option Addr) (n cap m cap2 : Nat) (zs ys : List Int) (hn : n ≤ 1048576) (hm : m ≤ 1048576) (w : World) (hz : Ints w s n zs) (hy : Ints w u m ys) : Calls Try.prog 58 #[.slice s n cap, .slice u m cap2] w fun e w' => e = .returned (.bool (okZ zs ys)) ∧ Below w.heap.size w w' := by
  have hcon := c_specRestIn s n cap zs hn w hz
  obtain rfl := hz.len
  obtain rfl := hy.len
  cases hb : basB zs
  · have ho : okZ zs ys = false := by rw [okZ, hb]; rfl
    rw [hb] at hcon
    rw [ho]
    clear hb ho
    go_enter Try.func58, Try.ntmps58
    go_wp2_with (first | (go_at_call 15; refine hcon.mono ?_; rintro e w2 ⟨rfl, hb2⟩) | fail)
    go_ret
    exact ⟨rfl, hb2⟩
  · rw [hb] at hcon
    by_cases hl : ys.length = zs.length
    · have HT := Lib.hid (fun h => okZ_t hb hl h)
      have HF := Lib.hid (fun h => okZ_f (zs := zs) (ys := ys) h)
      have HM := Lib.hid (bas_mb hb)
      have hl4 := (bas_len hb).2
      have HZ := Lib.hid (fun (wr : World) (hB : Below w.heap.size w wr) => (hz.keep hB).lies)
      have HY := Lib.hid (fun (wr : World) (hB : Below w.heap.size w wr) => (hy.keep hB).lies)
      rw [hl]
      rw [hl] at HY
      have HLL := Lib.hid hl
      clear hb hz hy hl
      go_enter Try.func58, Try.ntmps58
      go_wp2_with (first | (go_at_call 15; refine hcon.mono ?_; rintro e w2 ⟨rfl, hb2⟩) | fail)
      go_loopw [5] (fun i wr => ∃ (k : Nat), k ≤ zs.length ∧ i = .int .i64 k ∧ Hid (∀ j, j < k → 0 ≤ zA ys j ∧ zA ys j < mo zs j) ∧ Below w.heap.size w wr) (fun i _ => zs.length - (intOf i).toNat)
      case atStart => exact ⟨0, by omega, rfl, Lib.hid (fun i hi => by omega), hb2⟩
      case round =>
        clear hb2 hcon
        obtain ⟨k, hk, rfl, hok, hB⟩ := hrel
        by_cases hlt : k < zs.length
        · rcases HZ.out _ hB with h0 | ⟨b, off, rfl, hbw, hcells⟩
          · omega
          rcases HY.out _ hB with h0 | ⟨b', off', rfl, hbw', hcells'⟩
          · omega
          have hx := hcells k hlt
          rw [mo_in hlt] at hx
          have hx' := hcells' k hlt
          rw [zA_in] at hx'
          have hkz0 : (0 : Int) ≤ (k : Int) := by omega
          have hkz1 : (k : Int) < (zs.length : Int) := by omega
          obtain ⟨m1, m2⟩ := HM.out k
          have hw : IntKind.i64.wrap (mo zs k - 1) = mo zs k - 1 := IntWalk.i64_in _ (by omega)
          have hcg := c_l6In (zA ys k) 0 (mo zs k - 1)
          have q0 : ∀ p : Abv wr, p.x.cell? _ = some _ := fun p => p.cell hx
          have q1 : ∀ p : Abv wr, p.x.cell? _ = some _ := fun p => p.cell hx'
          have hcb : ∀ y : Abv wr, Calls Try.prog 47 #[.int .i64 (zA ys k), .int .i64 0, .int .i64 (mo zs k - 1)] y.x (fun e w' => e = .returned (.bool (l6B (zA ys k) 0 (mo zs k - 1))) ∧ Below y.x.heap.size y.x w') := fun y => (hcg y.x).mono (by rintro e w' ⟨rfl, rfl⟩; exact ⟨rfl, Below.refl _ _⟩)
          clear hcg hx hx' hcells hcells'
          by_cases hr : 0 ≤ zA ys k ∧ zA ys k ≤ mo zs k - 1
          · rw [l6B_t hr] at hcb
            have HN : Hid (∀ j, j < k + 1 → 0 ≤ zA ys j ∧ zA ys j < mo zs j) := Lib.hid (fun j hj => by
              by_cases e : j = k
              · subst e; omega
              · exact hok.out j (by omega))
            clear hr
            go_wp2_with fail
            refine wp_region_above (by kernel_rfl) (by kernel_rfl) ?_
            repeat (refine q_step (fun K hK => ?_); go_simp; refine hK _ ?_; clear hK K)
            refine q_step (fun K hK => ?_)
            go_simp
            apply Exists.intro
            refine ⟨fun _ => calls_above (hcb _), hK _ ?_⟩
            clear hK K
            repeat (refine q_step (fun K hK => ?_); go_simp; refine hK _ ?_; clear hK K)
            refine q_nil ?_
            intro _ hw'
            obtain ⟨y, hy'⟩ := hw'
            subst hy'
            have hB := bt2 hB y.h
            clear q0 q1 hcb
            go_wp2_with fail
            go_roundw
            case rel => exact ⟨k + 1, by omega, by go_num, HN, hB⟩
            case measure => simp [intOf]; omega
          · rw [l6B_f hr] at hcb
            have HN := Lib.hid (HF.out (fun h => hr (by have := h.2 k hlt; omega)))
            clear hr
            go_wp2_with fail
            refine wp_region_above (by kernel_rfl) (by kernel_rfl) ?_
            repeat (refine q_step (fun K hK => ?_); go_simp; refine hK _ ?_; clear hK K)
            refine q_step (fun K hK => ?_)
            go_simp
            apply Exists.intro
            refine ⟨fun _ => calls_above (hcb _), hK _ ?_⟩
            clear hK K
            repeat (refine q_step (fun K hK => ?_); go_simp; refine hK _ ?_; clear hK K)
            refine q_nil ?_
            intro _ hw'
            obtain ⟨y, hy'⟩ := hw'
            subst hy'
            have hB := bt2 hB y.h
            clear q0 q1 hcb
            go_wp2_with fail
            go_ret
            exact ⟨rb HN.out, hB⟩
        · have hk' : k = zs.length := by omega
          subst hk'
          have HN := Lib.hid (HT.out hok.out)
          go_wp2_with fail
          go_ret
          exact ⟨rb HN.out, hB⟩
    · have ho := okZ_f (zs := zs) (ys := ys) (fun h => hl h.1)
      have hne : ((ys.length : Int) != (zs.length : Int)) = true := by
        have : ¬ (ys.length : Int) = (zs.length : Int) := by omega
        simpa using this
      rw [← ho]
      clear ho hb
      go_enter Try.func58, Try.ntmps58
      go_wp2_with (first | (go_at_call 15; refine hcon.mono ?_; rintro e w2 ⟨rfl, hb2⟩) | fail)
      go_ret
      exact ⟨rfl, hb2⟩
end Go.Proofs.Ytnbejgbkabaleaa
