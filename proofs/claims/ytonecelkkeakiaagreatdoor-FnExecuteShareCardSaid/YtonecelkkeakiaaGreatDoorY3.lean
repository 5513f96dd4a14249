/- Chapter 6: SolveUnits, the program (by the iterator) and the model. -/
import Derived.Test.YtonecelkkeakiaaGreatDoorR4
import Derived.Test.YtonecelkkeakiaaGreatDoorY1
import Derived.Test.YtonecelkkeakiaaGreatDoorMathS
import Derived.Stop.RegionWithIn
import Derived.RangeFuncBox
namespace Go.Proofs.YtonecelkkeakiaaGreatDoor
open Go.RowKit Go.Shelf
attribute [local go_sem] Oper.semAt_some
/-- how many of a list have no common divisor with m -/
def uniC (m : Int) (ys : List Int) : Nat := (ys.filter fun x => gcdI x m == 1).length
theorem uniC_snoc (m : Int) (ys : List Int) (x : Int) : uniC m (ys ++ [x]) = uniC m ys + (bif gcdI x m == 1 then 1 else 0) := by
  unfold uniC
  rw [List.filter_append, List.length_append]
  cases h : gcdI x m == 1 <;> simp [h]
theorem uniC_le (m : Int) (ys : List Int) : uniC m ys ≤ ys.length := List.length_filter_le _ _
/-- 1, 2, .. k -/
def oneTo (k : Nat) : List Int := (List.range k).map fun (j : Nat) => (j : Int) + 1
theorem oneTo_succ (k : Nat) : oneTo (k + 1) = oneTo k ++ [(k : Int) + 1] := by simp [oneTo, List.range_succ]
theorem oneTo_length (k : Nat) : (oneTo k).length = k := by simp [oneTo]
def uniI (m : Int) : Int := uniC m (oneTo m.toNat)
theorem numK_one (k : Nat) : numK 0 1 1 k = (k : Int) + 1 := by
  unfold numK firI
  omega
theorem seqTo_one (k : Nat) : seqTo (numK 0 1 1) k = oneTo k := by
  unfold seqTo oneTo
  congr 1
  funext j
  exact numK_one j
theorem num_one {m : Int} {ys : List Int} (m1 : 1 ≤ m) (h : NumAll 0 1 1 (m + 1) ys) : ys = oneTo m.toNat := by
  obtain ⟨k, rfl, h1, h2⟩ := h
  rw [seqTo_one]
  rw [numK_one] at h1
  have : k = m.toNat := by
    rcases Nat.lt_trichotomy k m.toNat with h | h | h
    · omega
    · exact h
    · have := h2 m.toNat h
      rw [numK_one] at this
      omega
  rw [this]
theorem box_own {β : Type} (B : Nat) (t : TypeId) (g : β → Value) : Own (fun s W => Boxed W B t (g s)) := by
  intro s X Y row hv hg hrow
  refine Boxed.kept hv hg (fun e' => ?_)
  obtain ⟨o, ho, hc⟩ := hrow B e'.symm
  rw [show X.heap[B]? = _ from hv] at ho; cases ho; cases hc
theorem Boxed.drewN {W : World} {B : Nat} {t : TypeId} {v : Value} (h : Boxed W B t v) (n : Nat) : Boxed (W.drewN n) B t v := h
theorem keeps_drewN (W : World) (n : Nat) : KeepsOthers W (W.drewN n) := ⟨Nat.le_refl _, fun _ _ h _ => h⟩
theorem kp3_drewN (C A E : Nat) (W : World) (n : Nat) : Kp3 C A E W (W.drewN n) := Kp3.of fun _ _ => rfl
theorem kp3_set {C A E : Nat} {W : World} {B : Nat} (v : Value) (h1 : B < C) (h2 : C < A) (h3 : A < E) : Kp3 C A E W (W.setCell ⟨B, 0, none⟩ v) := Kp3.of fun j hj => by
  rw [Below.heap_setCell _ _ _ _ (by show j ≠ B; omega)]
/-- it goes on, with R -/
def AtN (R : Act → World → Prop) : Exit → Act → World → Prop
  | .normal, a, w => R a w
  | _, _, _ => False
set_option maxRecDepth 100000 in
set_option maxHeartbeats 4000000 in
theorem c_implUnits1 (m : Int) (m1 : 1 ≤ m) (m2 : m ≤ 1000) (w : World) : Calls Tryz.prog 19 #[.int .i64 m] w fun e w' => e = .returned (.tuple #[.int .i64 (uniI m), .bool true]) ∧ Below w.heap.size w w' := by
  have hmod : modB m = true := modB_t ⟨m1, m2⟩
  refine (callsIn_wide (n := 5)).1 ?_
  refine callsIn_of_wp_marks Tryz.func19 rfl trivial ?_ rfl
  simp only [Tryz.ntmps19, List.size_toArray, List.length_cons, List.length_nil, Nat.reduceAdd, Nat.reduceSub, Array.replicate_succ, Array.replicate_zero, List.push_toArray, List.append_toArray, List.nil_append, List.cons_append]
  gi_wp2_with (refine ⟨trivial, ?_⟩; gi_at_call 39; refine (callsIn_wide.2 (c_inModuli _ _)).mono ?_; rintro e w1 ⟨rfl, rfl⟩)
  have hwr : IntKind.i64.wrap (m + 1) = m + 1 := IntWalk.i64_in _ (by omega)
  refine Code.wpIn_mono (Q := AtN fun a W => ∃ w3, Below ((w.alloc (.cells #[.int .i64 m] 3)).alloc (.cells #[.int .i64 0] 3)).heap.size ((w.alloc (.cells #[.int .i64 m] 3)).alloc (.cells #[.int .i64 0] 3)) w3 ∧
    W = ((w3.alloc (Obj.cells #[Value.int IntKind.i64 0, Value.int IntKind.i64 1] 41)).alloc (.cells #[.int .i64 1] 3)).alloc (.cells #[.int .i64 (m + 1)] 3) ∧
    a = { tmps := #[.int .i64 m, .pointer (some ⟨w.heap.size, 0, none⟩), .int .i64 0, .bool false, .pointer (some ⟨w.heap.size + 1, 0, none⟩), undef, .int .i64 m, .bool true, .bool false, .agg #[.int .i64 0, .int .i64 1], .int .i64 m, .int .i64 (m + 1), .func (.func 90) #[] #[.pointer (some ⟨w3.heap.size, 0, none⟩), .pointer (some ⟨w3.heap.size + 1, 0, none⟩), .pointer (some ⟨w3.heap.size + 1 + 1, 0, none⟩)], undef, undef, undef, undef, undef, undef, undef, undef], defers := [] }) ?_ ?_
  · rintro e a W h
    cases e with
    | normal =>
      obtain ⟨w3, hb3, rfl, rfl⟩ := h
      clear hwr
      have hsz3 : w.heap.size + 2 ≤ w3.heap.size := by have := hb3.size; simp at this; omega
      obtain ⟨W0, hW0⟩ : ∃ W0, ((w3.alloc (Obj.cells #[Value.int IntKind.i64 0, Value.int IntKind.i64 1] 41)).alloc (.cells #[.int .i64 1] 3)).alloc (.cells #[.int .i64 (m + 1)] 3) = W0 := ⟨_, rfl⟩
      have hsz : W0.heap.size = w3.heap.size + 3 := by rw [← hW0]; simp
      have b0 : W0.cell? ⟨w3.heap.size, 0, none⟩ = some (.int .i64 0) := by rw [← hW0]; exact keep_alloc (keep_alloc (by simp))
      have b1 : W0.cell? ⟨w3.heap.size, 1, none⟩ = some (.int .i64 1) := by rw [← hW0]; exact keep_alloc (keep_alloc (by simp))
      have b2 : W0.cell? ⟨w3.heap.size + 1, 0, none⟩ = some (.int .i64 1) := by rw [← hW0]; exact keep_alloc (by simp)
      have b3 : W0.cell? ⟨w3.heap.size + 1 + 1, 0, none⟩ = some (.int .i64 (m + 1)) := by rw [← hW0]; exact cell_new2 _ _ _ _ _
      have hm3 : w3.cell? ⟨w.heap.size, 0, none⟩ = some (.int .i64 m) := keepc hb3 (keep_alloc (by simp))
      have q0 : W0.cell? ⟨w.heap.size, 0, none⟩ = some (.int .i64 m) := by rw [← hW0]; exact keep_alloc (keep_alloc (keep_alloc hm3))
      have hu3 : Boxed w3 (w.heap.size + 1) 3 (.int .i64 0) := by
        have h := Boxed.new (w.alloc (.cells #[.int .i64 m] 3)) 3 (.int .i64 0)
        simp only [World.size_alloc] at h
        exact (hb3.block (w.heap.size + 1) (by simp)).trans h
      have hu : Boxed W0 (w.heap.size + 1) 3 (.int .i64 0) := by rw [← hW0]; exact ((hu3.alloc _).alloc _).alloc _
      have hB0 : Below w.heap.size w W0 := by
        rw [← hW0]
        exact ba (ba (ba (bt2 (ba (ba (Below.refl _ _) _) _) hb3) _) _) _
      rw [hW0]
      clear hW0 hb3 hm3 hu3
      have HSZ := Lib.hid hsz
      gi_wp2
      refine wpIn_rangeFunc_ownG rfl (by omega) (gf := 90) (lb := #[.pointer (some ⟨w3.heap.size, 0, none⟩), .pointer (some ⟨w3.heap.size + 1, 0, none⟩), .pointer (some ⟨w3.heap.size + 1 + 1, 0, none⟩)]) rfl trivial (enters_of Tryz.func90 (by kernel_rfl) rfl)
        (num2_stops _ (by omega) w3.heap.size (w3.heap.size + 1) (w3.heap.size + 1 + 1) 1000 0 1 1 (m + 1) (by omega) (by omega) (by omega) (by omega) (by omega) (by omega) (by omega) (fun k hk => by rw [numK_one] at hk; omega) (Kp3 w3.heap.size (w3.heap.size + 1) (w3.heap.size + 1 + 1)) (fun W W' h => h) W0 (by rw [hsz]; omega) (by rw [hsz]; omega) (by rw [hsz]; omega) b0 b1 b2 b3) Kp3.t (Kp3.b (by rw [hsz]; omega) (by rw [hsz]; omega) (by rw [hsz]; omega)) (Below.refl _ _) (fun _ => rfl)
        (fun pre W => Boxed W (w.heap.size + 1) 3 (.int .i64 (uniC m (vals pre))) ∧ Below (w.heap.size + 1) W0 W)
        (fun _ _ _ => False)
        (OwnFrom.and (Own.from (box_own (w.heap.size + 1) 3 (fun (pre : List (Rng 1 (m + 1))) => .int .i64 (uniC m (vals pre)))) _) (ownFrom_below (by rw [hsz]; omega) (by rw [hsz]; omega)))
        (fun _ _ _ _ _ hs _ _ => hs)
        ⟨hu, Below.refl _ _⟩
        (fun x => { tmps := #[.int .i64 m, .pointer (some ⟨w.heap.size, 0, none⟩), .int .i64 0, .bool false, .pointer (some ⟨w.heap.size + 1, 0, none⟩), .int .i64 x.1, .int .i64 m, .bool true, .bool false, .agg #[.int .i64 0, .int .i64 1], .int .i64 m, .int .i64 (m + 1), .func (.func 90) #[] #[.pointer (some ⟨w3.heap.size, 0, none⟩), .pointer (some ⟨w3.heap.size + 1, 0, none⟩), .pointer (some ⟨w3.heap.size + 1 + 1, 0, none⟩)], .int .i64 x.1, undef, undef, undef, undef, undef, undef, undef], defers := [] }) ?assign ?body ?done ?stop
      case assign =>
        intro l x W K hK
        gi_wp2
        exact hK
      case body =>
        rintro l pre x W ⟨hv, hB⟩ hlt
        have HV := Lib.hid hv
        have hc := hv.cell
        have hf := hv.frozen
        have hmb := (hB.cell (p := ⟨w.heap.size, 0, none⟩) (by show w.heap.size < w.heap.size + 1; omega)).trans q0
        have hx1 := x.2.1
        have hx2 := x.2.2
        have hU := uniC_le m (vals pre)
        rw [vals_length] at hU
        have hU2 : (uniC m (vals pre) : Int) ≤ 1000 := by omega
        have hS := uniC_snoc m (vals pre) x.1
        rw [← vals_snoc] at hS
        clear hsz hu b0 b1 b2 b3 q0 hU hv
        cases he : (gcdI x.1 m == 1)
        · rw [he, cond_false, Nat.add_zero] at hS
          have HS := Lib.hid hS
          clear hS
          gi_wp2_with (refine ⟨trivial, ?_⟩; gi_at_call 41; refine (CallsIn.inRound l (callsIn_wide.2 (c_commonDivisor _ _ (by omega) (by omega) (by omega) m2 _))).mono ?_; rintro e w5 ⟨nq, rfl, rfl⟩)
          refine ⟨(keeps_drewN W nq).from _, kp3_drewN _ _ _ _ _, ?_, bel_drewN hB nq⟩
          rw [HS.out]
          exact Boxed.drewN HV.out nq
        · rw [he, cond_true] at hS
          have HS := Lib.hid (show ((uniC m (vals (pre ++ [x])) : Nat) : Int) = (uniC m (vals pre) : Int) + 1 by omega)
          clear hS
          gi_wp2_with (refine ⟨trivial, ?_⟩; gi_at_call 41; refine (CallsIn.inRound l (callsIn_wide.2 (c_commonDivisor _ _ (by omega) (by omega) (by omega) m2 _))).mono ?_; rintro e w5 ⟨nq, rfl, rfl⟩; have hc5 := Boxed.cell (Boxed.drewN HV.out nq); have hf5 := Boxed.frozen (Boxed.drewN HV.out nq))
          refine ⟨((keeps_drewN W nq).trans (KeepsOthers.setCell _ _ _)).from _, (kp3_drewN _ _ _ _ _).t (kp3_set _ (by omega) (by omega) (by omega)), ?_, (bel_drewN hB nq).setCell (by show w.heap.size + 1 ≤ w.heap.size + 1; omega) _⟩
          rw [HS.out]
          exact Boxed.set _ (Boxed.drewN HV.out nq)
      case done =>
        rintro D ys W hD hS ⟨hv, hB⟩ hK
        have hc := hv.cell
        have hy := num_one m1 hS
        rw [hy] at hc
        have HU := Lib.hid (show ((uniC m (oneTo m.toNat) : Nat) : Int) = uniI m from rfl)
        have hdw : w.heap.size ≤ D := by rw [HSZ.out] at hD; omega
        have hBW := (hB0.trans (hB.mono (by omega))).trans (belowK_b (w := w) (Nat.le_refl _) W D _ (.deferred none) hdw hK rfl rfl)
        clear hsz hu b0 b1 b2 b3 q0 hy hv
        gi_wp2
        refine ⟨by simp, .inl ⟨_, _, rfl, run_takeDeferred hK, ?_⟩⟩
        refine ⟨.tuple #[.int .i64 (uniC m (oneTo m.toNat) : Int), .bool true], ?_, ⟨by rw [HU.out], hBW⟩⟩
        simp [results, Tryz.f19, go_sem]
      case stop =>
        rintro D c pre W _ _ h _
        exact h.elim
    | _ => exact h.elim
  · have hb0 : Below ((w.alloc (.cells #[.int .i64 m] 3)).alloc (.cells #[.int .i64 0] 3)).heap.size ((w.alloc (.cells #[.int .i64 m] 3)).alloc (.cells #[.int .i64 0] 3)) ((w.alloc (.cells #[.int .i64 m] 3)).alloc (.cells #[.int .i64 0] 3)).drew := (Below.refl _ _).drew
    gi_region_with (refine ⟨trivial, ?_⟩; first | (gi_at_call 25; refine (callsIn_wide.2 (c_wholeClass _)).mono ?_; rintro e w3 ⟨rfl, hb3⟩; have k3 : w3.cell? ⟨w.heap.size, 0, none⟩ = some (.int .i64 m) := keepc hb3 (by first | exact keep_drew (keep_alloc (by simp)) | exact keep_alloc (by simp))) | (gi_at_call 40; refine (callsIn_wide.2 (c_numbers _ _ _ _ _)).mono ?_; rintro e w4 ⟨rfl, rfl⟩))
    all_goals exact ⟨_, bt2 hb0 hb3, rfl, rfl⟩
def uniR (m : Int) : Int := selI (modB m) (uniI m)
theorem c_implSolveUnits (m : Int) (w : World) : Calls Tryz.prog 19 #[.int .i64 m] w fun e w' => e = .returned (.tuple #[.int .i64 (uniR m), .bool (modB m)]) ∧ Below w.heap.size w w' := by
  cases hm : modB m
  · simp only [uniR, hm, selI_f]
    go_enter Tryz.func19, Tryz.ntmps19
    go_wp2_with (go_at_call 39; refine (c_inModuli _ _).mono ?_; rintro e w1 ⟨rfl, rfl⟩)
    go_ret2
    exact ⟨rfl, by repeat (first | exact Below.refl _ _ | assumption | refine Below.drew ?_ | refine bel_drewN ?_ _ | refine ba ?_ _ | refine bt2 ?_ (by assumption) | refine Below.setCell ?_ (by simp <;> omega) _)⟩
  · obtain ⟨m1, m2⟩ := modB_iff.1 hm
    simp only [uniR, hm, selI_t]
    exact c_implUnits1 m m1 m2 w
theorem uni_step {m : Int} {k : Nat} : uniC m (oneTo (k + 1)) = uniC m (oneTo k) + (bif gcdI ((k : Int) + 1) m == 1 then 1 else 0) := by rw [oneTo_succ, uniC_snoc]
set_option maxRecDepth 20000 in
set_option maxHeartbeats 2000000 in
theorem c_l6sUnits (m : Int) (m1 : 1 ≤ m) (m2 : m ≤ 1000) (w : World) : Calls Tryz.prog 43 #[.int .i64 m] w fun e w' => e = .returned (.int .i64 (uniI m)) ∧ w = w' := by
  obtain ⟨M, rfl⟩ : ∃ M : Nat, m = (M : Int) := ⟨m.toNat, by omega⟩
  have HT := Lib.hid (show uniI (M : Int) = (uniC (M : Int) (oneTo M) : Int) from rfl)
  go_enter Tryz.func43, Tryz.ntmps43
  go_wp2
  go_loop [3, 4] (fun n x => ∃ k : Nat, k ≤ M ∧ n = .int .i64 (uniC (M : Int) (oneTo k) : Int) ∧ x = .int .i64 ((k : Int) + 1)) (fun _ x => (M + 1 - intOf x).toNat)
  case atStart => exact ⟨0, by omega, rfl, rfl⟩
  case round =>
    obtain ⟨k, hk, rfl, rfl⟩ := hrel
    by_cases hlt : k < M
    · have hU := uniC_le (M : Int) (oneTo k)
      rw [oneTo_length] at hU
      have hst := uni_step (m := (M : Int)) (k := k)
      cases he : (gcdI ((k : Int) + 1) (M : Int) == 1)
      · rw [he, cond_false] at hst
        have HS := Lib.hid (show uniC (M : Int) (oneTo (k + 1)) = uniC (M : Int) (oneTo k) by omega)
        clear hst
        go_wp2_with (go_at_call 89; refine (c_l1Gcd _ _ (by omega) (by omega) (by omega) m2 _).mono ?_; rintro e w1 ⟨rfl, rfl⟩)
        go_round
        case rel => exact ⟨k + 1, by omega, by rw [HS.out], by go_num⟩
        case measure => simp [intOf]; omega
      · rw [he, cond_true] at hst
        have HS := Lib.hid (show ((uniC (M : Int) (oneTo (k + 1)) : Nat) : Int) = (uniC (M : Int) (oneTo k) : Int) + 1 by omega)
        clear hst
        go_wp2_with (go_at_call 89; refine (c_l1Gcd _ _ (by omega) (by omega) (by omega) m2 _).mono ?_; rintro e w1 ⟨rfl, rfl⟩)
        go_round
        case rel => exact ⟨k + 1, by omega, by rw [HS.out], by go_num⟩
        case measure => simp [intOf]; omega
    · have hk' : k = M := by omega
      subst hk'
      go_wp2
      go_ret
      exact ⟨ri HT.out.symm, rfl⟩
theorem c_specSolveUnits (m : Int) (w : World) : Calls Tryz.prog 20 #[.int .i64 m] w fun e w' => e = .returned (.tuple #[.int .i64 (uniR m), .bool (modB m)]) ∧ w = w' := by
  have hl : l6B m 1 1000 = modB m := rfl
  cases hm : modB m
  · rw [hm] at hl
    simp only [uniR, hm, selI_f]
    go_enter Tryz.func20, Tryz.ntmps20
    go_wp2_with (go_at_call 42; refine (c_l6In _ _ _ _).mono ?_; rintro e w1 ⟨rfl, rfl⟩)
    go_ret2
    exact ⟨rfl, rfl⟩
  · obtain ⟨m1, m2⟩ := modB_iff.1 hm
    rw [hm] at hl
    simp only [uniR, hm, selI_t]
    go_enter Tryz.func20, Tryz.ntmps20
    go_wp2_with (first | (go_at_call 42; refine (c_l6In _ _ _ _).mono ?_; rintro e w1 ⟨rfl, rfl⟩) | (go_at_call 43; refine (c_l6sUnits _ m1 m2 _).mono ?_; rintro e w1 ⟨rfl, rfl⟩))
    go_ret2
    exact ⟨rfl, rfl⟩
end Go.Proofs.YtonecelkkeakiaaGreatDoor
