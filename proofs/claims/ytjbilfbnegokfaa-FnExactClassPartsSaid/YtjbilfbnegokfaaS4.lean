/- Contracts of ClassParts, in the program (by the iterator) and in the model. -/
import Derived.Test.YtjbilfbnegokfaaR4
import Derived.Test.YtjbilfbnegokfaaS3
import Derived.RangeFuncBox
import Derived.Maps.AppendAt
namespace Go.Proofs.Ytjbilfbnegokfaa
open Go.RowKit Go.Shelf
attribute [local go_sem] Oper.semAt_some
def parB (r m k : Int) : Bool := inB r m && decide (1 ≤ k ∧ k ≤ 12) && decide (m * k ≤ 1000)
def parL (r m k : Int) : List Cl := (List.range k.toNat).map fun (i : Nat) => (r + (i : Int) * m, m * k)
def parR (r m k : Int) : List Cl := bif parB r m k then parL r m k else []
theorem parL_length (r m k : Int) : (parL r m k).length = k.toNat := by simp [parL]
theorem parL_take (r m k : Int) (i : Nat) (h : i < k.toNat) : (parL r m k).take (i + 1) = (parL r m k).take i ++ [(r + (i : Int) * m, m * k)] := by
  rw [List.take_succ_eq_append_getElem (by simp [parL, h])]
  simp [parL]
theorem parB_f0 {r m k : Int} (h : inB r m = false) : parB r m k = false := by simp [parB, h]
theorem parB_f1 {r m k : Int} (h : ¬ (1 ≤ k ∧ k ≤ 12)) : parB r m k = false := by simp [parB, h]
theorem parB_f2 {r m k : Int} (h : 1000 < m * k) : parB r m k = false := by simp [parB]; omega
theorem parB_tt {r m k : Int} (h1 : inB r m = true) (h2 : 1 ≤ k ∧ k ≤ 12) (h3 : m * k ≤ 1000) : parB r m k = true := by simp [parB, h1, h2, h3]
theorem par_cases (r m k : Int) : inB r m = false ∨ (inB r m = true ∧ ¬ (1 ≤ k ∧ k ≤ 12)) ∨ (inB r m = true ∧ (1 ≤ k ∧ k ≤ 12) ∧ 1000 < m * k) ∨ (inB r m = true ∧ (1 ≤ k ∧ k ≤ 12) ∧ m * k ≤ 1000) := by
  cases inB r m
  · simp
  · by_cases h : 1 ≤ k ∧ k ≤ 12
    · by_cases h2 : m * k ≤ 1000
      · exact .inr (.inr (.inr ⟨rfl, h, h2⟩))
      · exact .inr (.inr (.inl ⟨rfl, h, by omega⟩))
    · exact .inr (.inl ⟨rfl, h⟩)
theorem mul12 {m k : Int} (h1 : 1 ≤ m) (h2 : m ≤ 1000) (h3 : 1 ≤ k) (h4 : k ≤ 12) : 1 ≤ m * k ∧ m * k ≤ 12000 ∧ m ≤ m * k := by
  have a := Int.mul_le_mul h2 h4 (by omega) (by omega)
  have b := Int.mul_le_mul_of_nonneg_left h3 (show 0 ≤ m by omega)
  omega
theorem lt3 {w : World} {A B C : Obj} {n : Nat} (h : (((w.alloc A).alloc B).alloc C).heap.size ≤ n) : w.heap.size < n ∧ w.heap.size + 1 + 1 < n := by simp at h; omega
theorem firI_0 {r m : Int} (h0 : 0 ≤ r) (h1 : r < m) : firI r m 0 = r := by
  unfold firI; rw [Int.sub_zero, Int.emod_eq_of_lt h0 h1, Int.zero_add]
theorem seqTo_map {f : Nat → Int} {g : Int → Cl} {h : Nat → Cl} (k : Nat) (e : ∀ i, g (f i) = h i) : (seqTo f k).map g = (List.range k).map h := by
  simp [seqTo, e]
theorem par_lt {r m : Int} {kn : Nat} (m1 : 1 ≤ m) (h0 : 0 ≤ r) (h1 : r < m) {M : Int} (hM : m * (kn : Int) = M) (k : Nat) (h : numK r m 0 k < M) : k < kn := by
  unfold numK at h
  rw [firI_0 h0 h1] at h
  rcases Nat.lt_or_ge k kn with hk | hk
  · exact hk
  · exfalso
    have : (kn : Int) * m ≤ (k : Int) * m := Int.mul_le_mul_of_nonneg_right (by omega) (by omega)
    rw [Int.mul_comm (kn : Int) m] at this
    omega
/-- all numbers of a class below k times its modulus: as many as k -/
theorem par_all {r m : Int} {kn : Nat} {ys : List Int} (m1 : 1 ≤ m) (h0 : 0 ≤ r) (h1 : r < m) (hS : NumAll r m 0 (m * (kn : Int)) ys) : ys.map (fun x => (x, m * (kn : Int))) = parL r m (kn : Int) := by
  obtain ⟨K, rfl, hb, hj⟩ := hS
  have e : ∀ i : Nat, numK r m 0 i = r + (i : Int) * m := fun i => by unfold numK; rw [firI_0 h0 h1]
  have hK : K = kn := by
    rw [e] at hb
    rcases Nat.lt_trichotomy K kn with h | h | h
    · exfalso
      have : ((K : Int) + 1) * m ≤ (kn : Int) * m := Int.mul_le_mul_of_nonneg_right (by omega) (by omega)
      rw [Int.add_mul, Int.one_mul, Int.mul_comm (kn : Int) m] at this
      omega
    · exact h
    · exfalso
      have h2 := hj kn h
      rw [e, Int.mul_comm (kn : Int) m] at h2
      omega
  subst hK
  rw [seqTo_map K (h := fun i => (r + (i : Int) * m, m * (K : Int))) (fun i => by rw [e])]
  simp [parL]
theorem cells2_snoc (pre : List Int) (x M : Int) : cells2 ((pre ++ [x]).map fun x => (x, M)) = cells2 (pre.map fun x => (x, M)) ++ [.int .i64 x, .int .i64 M] := by
  rw [List.map_append, cells2_append]; rfl
theorem parR_t {r m k : Int} (h : parB r m k = true) : parR r m k = parL r m k := by simp [parR, h]
theorem parR_f {r m k : Int} (h : parB r m k = false) : parR r m k = [] := by simp [parR, h]
theorem parR_le (r m k : Int) : (parR r m k).length ≤ 12 := by
  cases h : parB r m k
  · simp [parR_f h]
  · rw [parR_t h, parL_length]
    simp only [parB, Bool.and_eq_true, decide_eq_true_eq] at h
    omega
set_option maxRecDepth 100000 in
set_option maxRecDepth 20000 in
set_option maxHeartbeats 4000000 in
theorem c_implParts1 (r m k : Int) (hc : inB r m = true) (hk : 1 ≤ k ∧ k ≤ 12) (hl : m * k ≤ 1000) (w : World) : Calls Try.prog 16 #[.agg #[.int .i64 r, .int .i64 m], .int .i64 k] w (RetC w (parL r m k) true) := by
  obtain ⟨m1, m2, r1, r2⟩ := inB_iff.1 hc
  obtain ⟨k1, k2⟩ := hk
  obtain ⟨l1, l2, l3⟩ := mul12 m1 m2 k1 k2
  have hmod : modB (m * k) = true := modB_t ⟨l1, hl⟩
  obtain ⟨kn, rfl⟩ := Int.eq_ofNat_of_zero_le (show 0 ≤ k by omega)
  obtain ⟨i0, hi, hz0, hz1, hz2⟩ := info_parts infoC
  have hd1 : decide ((kn : Int) < 1) = false := by simp; omega
  have hd2 : decide (12 < (kn : Int)) = false := by simp; omega
  refine (callsIn_wide (n := 5)).1 ?_
  refine callsIn_of_wp_marks Try.func16 rfl trivial ?_ rfl
  simp only [Try.ntmps16, List.size_toArray, List.length_cons, List.length_nil, Nat.reduceAdd, Nat.reduceSub, Array.replicate_succ, Array.replicate_zero, List.push_toArray, List.append_toArray, List.nil_append, List.cons_append]
  gi_wp2_with (first | (gi_at_make; go_loud (refine wpListIn_make_own _ rfl _ _ 30 rfl (w.heap.size + 1 + 1 + 1) 24 i0 (.agg #[.int .i64 0, .int .i64 0]) 2 Try.underlying30 hi hz0 hz1 .i64 .i64 _ kn rfl rfl rfl (by rw [hz2]; omega) (by unfold maxLen; omega) (by simp) ?_; intro w3 hown hgrow; have hbg := (Below.refl _ _).grown hgrow (Nat.le_refl _) (fun k h => by cases h); obtain ⟨qA, qB, qC, qD⟩ := two_below hbg; have q0 : w3.cell? ⟨w.heap.size, 0, none⟩ = some (.int .i64 r) := qA 0; have q1 : w3.cell? ⟨w.heap.size, 1, none⟩ = some (.int .i64 m) := qA 1; have q2 : w3.cell? ⟨w.heap.size + 1 + 1, 0, none⟩ = some (.int .i64 (m * (kn : Int))) := qC 0; clear qA qB qC qD; obtain ⟨z0, z2⟩ := lt3 hgrow.size)) | (refine ⟨trivial, ?_⟩; first | (gi_at_call 40; refine (callsIn_wide.2 (c_valid _ _ _)).mono ?_; rintro e w1 ⟨rfl, rfl⟩) | (gi_at_call 42; refine (callsIn_wide.2 (c_inModuli _ _)).mono ?_; rintro e w1 ⟨rfl, rfl⟩) | (gi_at_call 43; refine (callsIn_wide.2 (c_numbers _ _ _ _ _)).mono ?_; rintro e w1 ⟨rfl, rfl⟩)))
  simp only [World.size_alloc] at hown
  obtain ⟨W0, hW0⟩ : ∃ W0, ((((w3.alloc (.cells #[.slice (some ⟨w.heap.size + 1 + 1 + 1, 0, none⟩) 0 kn] 30)).alloc (Obj.cells #[Value.int IntKind.i64 r, Value.int IntKind.i64 m] 24)).alloc (.cells #[.int .i64 0] 3)).alloc (.cells #[.int .i64 (m * (kn : Int))] 3)) = W0 := ⟨_, rfl⟩
  have hsz : W0.heap.size = w3.heap.size + 4 := by rw [← hW0]; simp
  have hbx : Boxed W0 w3.heap.size 30 (.slice (some ⟨w.heap.size + 1 + 1 + 1, 0, none⟩) 0 kn) := by rw [← hW0]; exact (((Boxed.new w3 _ _).alloc _).alloc _).alloc _
  have hrw : W0.ownsRow (w.heap.size + 1 + 1 + 1) 24 2 (.slice (some ⟨w.heap.size + 1 + 1 + 1, 0, none⟩) 0 kn) 0 [] := by rw [← hW0]; exact (((hown.alloc _).alloc _).alloc _).alloc _
  have q2' : W0.cell? ⟨w.heap.size + 1 + 1, 0, none⟩ = some (.int .i64 (m * (kn : Int))) := by rw [← hW0]; exact keep_alloc (keep_alloc (keep_alloc (keep_alloc q2)))
  have b0 : W0.cell? ⟨w3.heap.size + 1, 0, none⟩ = some (.int .i64 r) := by rw [← hW0]; exact keep_alloc (keep_alloc (by simp))
  have b1 : W0.cell? ⟨w3.heap.size + 1, 1, none⟩ = some (.int .i64 m) := by rw [← hW0]; exact keep_alloc (keep_alloc (by simp))
  have b2 : W0.cell? ⟨w3.heap.size + 1 + 1, 0, none⟩ = some (.int .i64 0) := by rw [← hW0]; exact keep_alloc (cell_new2 _ _ _ _ _)
  have b3 : W0.cell? ⟨w3.heap.size + 1 + 1 + 1, 0, none⟩ = some (.int .i64 (m * (kn : Int))) := by rw [← hW0]; exact cell_new3 _ _ _ _ _ _
  have hB0 : Below w.heap.size w W0 := by
    rw [← hW0]
    exact ba (ba (ba (ba ((ba (ba (ba (Below.refl _ _) _) _) _).trans (hbg.mono (by simp <;> omega))) _) _) _) _
  rw [hW0]
  clear hW0 hgrow hbg hown q0 q1 q2
  generalize hM : m * (kn : Int) = M at *
  have HM := Lib.hid hM
  clear hM
  have HSZ := Lib.hid hsz
  have hpl := fun k => par_lt m1 r1 r2 HM.out k
  refine wpIn_rangeFunc_ownG rfl (by omega) (gf := 57) (lb := #[.pointer (some ⟨w3.heap.size + 1, 0, none⟩), .pointer (some ⟨w3.heap.size + 1 + 1, 0, none⟩), .pointer (some ⟨w3.heap.size + 1 + 1 + 1, 0, none⟩)]) rfl trivial (enters_of Try.func57 (by kernel_rfl) rfl)
    (num2_stops _ (by omega) (w3.heap.size + 1) (w3.heap.size + 1 + 1) (w3.heap.size + 1 + 1 + 1) kn r m 0 M m1 m2 r1 r2 (by omega) (by omega) (by omega) hpl (Kp3 (w3.heap.size + 1) (w3.heap.size + 1 + 1) (w3.heap.size + 1 + 1 + 1)) (fun W W' h => h) W0 (by rw [hsz]; omega) (by rw [hsz]; omega) (by rw [hsz]; omega) b0 b1 b2 b3) Kp3.t (Kp3.b (by rw [hsz]; omega) (by rw [hsz]; omega) (by rw [hsz]; omega)) (Below.refl _ _) (fun _ => rfl)
    (fun pre W => (∃ v, Boxed W w3.heap.size 30 v ∧ W.ownsRow (w.heap.size + 1 + 1 + 1) 24 2 v pre.length (cells2 ((vals pre).map fun x => (x, M))) ∧ v = .slice (some ⟨w.heap.size + 1 + 1 + 1, 0, none⟩) pre.length kn) ∧ Below (w.heap.size + 1 + 1 + 1) W0 W)
    (fun _ _ _ => False)
    (OwnFrom.and (Own.from (holdsRow_own (w.heap.size + 1 + 1 + 1) w3.heap.size 30 24 2 (fun (pre : List (Rng 0 M)) => pre.length) (fun pre => cells2 ((vals pre).map fun x => (x, M))) (fun pre v => v = .slice (some ⟨w.heap.size + 1 + 1 + 1, 0, none⟩) pre.length kn)) _) (ownFrom_below (by rw [hsz]; omega) (by rw [hsz]; omega)))
    (fun _ _ _ _ _ hs _ _ => hs)
    ⟨⟨_, hbx, hrw, rfl⟩, Below.refl _ _⟩
    (fun x => { tmps := #[.agg #[.int .i64 r, .int .i64 m], .int .i64 (kn : Int), .pointer (some ⟨w.heap.size, 0, none⟩), undef, .slice none 0 0, .bool false, .pointer (some ⟨w.heap.size + 1 + 1, 0, none⟩), .pointer (some ⟨w3.heap.size, 0, none⟩), .int .i64 x.1, .agg #[.int .i64 r, .int .i64 m], .bool true, .bool false, .bool false, .int .i64 (kn : Int), .bool false, .bool false, .bool false, .int .i64 (kn : Int), .bool false, .bool false, .bool false, .pointer (some ⟨w.heap.size, 1, none⟩), .int .i64 m, .int .i64 (kn : Int), .int .i64 M, .bool true, .bool false, .bool false, .pointer (some ⟨w.heap.size, 1, none⟩), .int .i64 m, .int .i64 (kn : Int), .int .i64 M, .int .i64 (kn : Int), .slice (some ⟨w.heap.size + 1 + 1 + 1, 0, none⟩) 0 kn, .agg #[.int .i64 r, .int .i64 m], .int .i64 M, .func (.func 57) #[] #[.pointer (some ⟨w3.heap.size + 1, 0, none⟩), .pointer (some ⟨w3.heap.size + 1 + 1, 0, none⟩), .pointer (some ⟨w3.heap.size + 1 + 1 + 1, 0, none⟩)], .int .i64 x.1, undef, undef, undef, undef, undef, undef, undef], defers := [] }) ?assign ?body ?done ?stop
  case assign =>
    intro l x W K hK
    gi_wp2
    exact hK
  case body =>
    rintro l pre x W ⟨⟨v, hv, hrow, rfl⟩, hB⟩ hlt
    have hc := hv.cell
    have hf := hv.frozen
    have hbs : w.heap.size + 1 + 1 + 1 ≤ W.heap.size := by have := hB.size; rw [HSZ.out] at this; omega
    have hws : w3.heap.size + 4 ≤ W.heap.size := by have := hB.size; rw [HSZ.out] at this; exact this
    have hM := (hB.cell (p := ⟨w.heap.size + 1 + 1, 0, none⟩) (by show w.heap.size + 1 + 1 < w.heap.size + 1 + 1 + 1; omega)).trans q2'
    have hnb : some w3.heap.size ≠ some (w.heap.size + 1 + 1 + 1) := hv.not_row (by decide) hrow
    have hnb' : w3.heap.size ≠ w.heap.size + 1 + 1 + 1 := fun e => hnb (by rw [e])
    have hlt' : pre.length + 1 ≤ kn := hlt
    clear hsz hbx hrw q2' b0 b1 b2 b3 hpl hnb
    gi_wp2_with (gi_at_builtin; refine wpListIn_append_fits _ rfl _ _ 30 rfl (w.heap.size + 1 + 1 + 1) 24 i0 2 Try.underlying30 hi hz1 (w.heap.size + 1 + 1 + 1) pre.length kn _ rfl (hrow.alloc _) ⟨W.heap.size, 0, none⟩ 1 1 [.int .i64 x.1, .int .i64 M] rfl rfl (two_new W _ _ _) (by simp [Value.oneCell']) hlt' ?_; intro w1 hown' hgrow; obtain ⟨hv1, hv2, hr2, hk2, hb2⟩ := hv.appended (by decide) hrow hbs (by omega) hown' hgrow; have hc1 := hv1.cell; have hf1 := hv1.frozen)
    have hkp : Kp3 (w3.heap.size + 1) (w3.heap.size + 1 + 1) (w3.heap.size + 1 + 1 + 1) W (w1.setCell ⟨w3.heap.size, 0, none⟩ (.slice (some ⟨w.heap.size + 1 + 1 + 1, 0, none⟩) (pre.length + 1) kn)) := Kp3.of fun j hj => by
      rw [Below.heap_setCell _ _ _ _ (by show j ≠ w3.heap.size; omega), heap_grown hgrow (by simp; omega) (by omega)]
      exact Below.heap_alloc _ _ _ (by omega)
    exact ⟨hk2.from _, hkp, ⟨_, hv2, by rw [vals_snoc, cells2_snoc, List.length_append]; exact hr2, by simp⟩, hB.trans hb2⟩
  case done =>
    rintro D ys W hD hS ⟨⟨v, hv, hrow, rfl⟩, hB⟩ hK
    have hc := hv.cell
    have hy := par_all m1 r1 r2 (show NumAll r m 0 (m * (kn : Int)) (vals ys) by rw [HM.out]; exact hS)
    rw [HM.out] at hy
    have hyl : ys.length = (parL r m (kn : Int)).length := by rw [← hy, List.length_map, vals_length]
    have hdw : w.heap.size ≤ D := by rw [HSZ.out] at hD; omega
    have hBW := (hB0.trans (hB.mono (by omega))).trans (belowK_b (w := w) (Nat.le_refl _) W D _ (.deferred none) hdw hK rfl rfl)
    have hrow2 := ownsRow_putObj hrow (.deferred none) hK rfl
    rw [hy, hyl] at hrow2
    have hO : OwnC (W.putObj D (.deferred none)) w.heap.size 24 (.slice (some ⟨w.heap.size + 1 + 1 + 1, 0, none⟩) ys.length kn) (parL r m (kn : Int)) := OwnC.low (base := w.heap.size + 1 + 1 + 1) (by rw [hyl]; exact hrow2) (by omega)
    clear hy hyl hrow2 hsz b0 b1 b2 b3 q2' hpl
    gi_wp2
    refine ⟨by simp, .inl ⟨_, _, rfl, run_takeDeferred hK, ?_⟩⟩
    refine ⟨.tuple #[.slice (some ⟨w.heap.size + 1 + 1 + 1, 0, none⟩) ys.length kn, .bool true], ?_, ⟨_, rfl, hO, hBW⟩⟩
    simp [results, Try.f16, go_sem]
  case stop =>
    rintro D c pre W _ _ h _
    exact h.elim
theorem c_implClassParts (r m k : Int) (w : World) : Calls Try.prog 16 #[.agg #[.int .i64 r, .int .i64 m], .int .i64 k] w (RetC w (parR r m k) (parB r m k)) := by
  rcases par_cases r m k with h1 | ⟨h1, h2⟩ | ⟨h1, h2, h3⟩ | ⟨h1, h2, h3⟩
  · rw [parR_f (parB_f0 h1), parB_f0 h1]
    go_enter Try.func16, Try.ntmps16
    go_wp2_with (go_at_call 40; refine (c_valid _ _ _).mono ?_; rintro e w1 ⟨rfl, rfl⟩)
    go_ret2
    exact ⟨_, rfl, OwnC.nil _ _ _, by repeat (first | exact Below.refl _ _ | assumption | refine Below.drew ?_ | refine bel_drewN ?_ _ | refine ba ?_ _ | refine bt2 ?_ (by assumption) | refine Below.setCell ?_ (by simp <;> omega) _)⟩
  · rw [parR_f (parB_f1 h2), parB_f1 h2]
    by_cases hk : k < 1
    · go_enter Try.func16, Try.ntmps16
      go_wp2_with (go_at_call 40; refine (c_valid _ _ _).mono ?_; rintro e w1 ⟨rfl, rfl⟩)
      go_ret2
      exact ⟨_, rfl, OwnC.nil _ _ _, by repeat (first | exact Below.refl _ _ | assumption | refine Below.drew ?_ | refine bel_drewN ?_ _ | refine ba ?_ _ | refine bt2 ?_ (by assumption) | refine Below.setCell ?_ (by simp <;> omega) _)⟩
    · have hk2 : 12 < k := by omega
      go_enter Try.func16, Try.ntmps16
      go_wp2_with (go_at_call 40; refine (c_valid _ _ _).mono ?_; rintro e w1 ⟨rfl, rfl⟩)
      go_ret2
      exact ⟨_, rfl, OwnC.nil _ _ _, by repeat (first | exact Below.refl _ _ | assumption | refine Below.drew ?_ | refine bel_drewN ?_ _ | refine ba ?_ _ | refine bt2 ?_ (by assumption) | refine Below.setCell ?_ (by simp <;> omega) _)⟩
  · rw [parR_f (parB_f2 h3), parB_f2 h3]
    obtain ⟨m1, m2, r1, r2⟩ := inB_iff.1 h1
    obtain ⟨k1, k2⟩ := h2
    obtain ⟨l1, l2, l3⟩ := mul12 m1 m2 k1 k2
    have hmod : modB (m * k) = false := modB_f (by omega)
    go_enter Try.func16, Try.ntmps16
    go_wp2_with (first | (go_at_call 40; refine (c_valid _ _ _).mono ?_; rintro e w1 ⟨rfl, rfl⟩) | (go_at_call 42; refine (c_inModuli _ _).mono ?_; rintro e w1 ⟨rfl, rfl⟩))
    go_ret2
    exact ⟨_, rfl, OwnC.nil _ _ _, by repeat (first | exact Below.refl _ _ | assumption | refine Below.drew ?_ | refine bel_drewN ?_ _ | refine ba ?_ _ | refine bt2 ?_ (by assumption) | refine Below.setCell ?_ (by simp <;> omega) _)⟩
  · rw [parR_t (parB_tt h1 h2 h3), parB_tt h1 h2 h3]
    exact c_implParts1 r m k h1 h2 h3 w
set_option maxRecDepth 20000 in
set_option maxHeartbeats 1000000 in
theorem c_specClassParts (r m k : Int) (w : World) : Calls Try.prog 15 #[.agg #[.int .i64 r, .int .i64 m], .int .i64 k] w (RetC w (parR r m k) (parB r m k)) := by
  have hO1 : OwnC ((w.alloc (Obj.cells #[Value.int IntKind.i64 r, Value.int IntKind.i64 m] 24)).alloc (.cells #[] 24)) (w.heap.size + 1) 24 (.slice (some ⟨w.heap.size + 1, 0, none⟩) 0 0) [] := by
    have := World.ownsRow_lit (w.alloc (Obj.cells #[Value.int IntKind.i64 r, Value.int IntKind.i64 m] 24)) (e := 24) (size := 2) (base := w.heap.size + 1) #[] 0 (by simp) (by unfold maxLen; omega) rfl
    simpa [OwnC, cells2] using this
  rcases par_cases r m k with h1 | ⟨h1, h2⟩ | ⟨h1, h2, h3⟩ | ⟨h1, h2, h3⟩
  · rw [parR_f (parB_f0 h1), parB_f0 h1]
    go_enter Try.func15, Try.ntmps15
    go_wp2_with (first | (go_at_call 37; refine (c_specClassIn _ _ _).mono ?_; rintro e w1 ⟨rfl, rfl⟩))
    go_ret2
    exact ⟨_, rfl, (hO1.low (by omega)).keep (by repeat (first | exact Below.refl _ _ | assumption | refine Below.drew ?_ | refine bel_drewN ?_ _ | refine ba ?_ _ | refine bt2 ?_ (by assumption) | refine Below.setCell ?_ (by simp <;> omega) _)), by repeat (first | exact Below.refl _ _ | assumption | refine Below.drew ?_ | refine bel_drewN ?_ _ | refine ba ?_ _ | refine bt2 ?_ (by assumption) | refine Below.setCell ?_ (by simp <;> omega) _)⟩
  · rw [parR_f (parB_f1 h2), parB_f1 h2]
    have hl := l6B_f h2
    go_enter Try.func15, Try.ntmps15
    go_wp2_with (first | (go_at_call 37; refine (c_specClassIn _ _ _).mono ?_; rintro e w1 ⟨rfl, rfl⟩) | (go_at_call 45; refine (c_l6In _ _ _ _).mono ?_; rintro e w1 ⟨rfl, rfl⟩))
    go_ret2
    exact ⟨_, rfl, (hO1.low (by omega)).keep (by repeat (first | exact Below.refl _ _ | assumption | refine Below.drew ?_ | refine bel_drewN ?_ _ | refine ba ?_ _ | refine bt2 ?_ (by assumption) | refine Below.setCell ?_ (by simp <;> omega) _)), by repeat (first | exact Below.refl _ _ | assumption | refine Below.drew ?_ | refine bel_drewN ?_ _ | refine ba ?_ _ | refine bt2 ?_ (by assumption) | refine Below.setCell ?_ (by simp <;> omega) _)⟩
  · rw [parR_f (parB_f2 h3), parB_f2 h3]
    have hl := l6B_t h2
    obtain ⟨m1, m2, r1, r2⟩ := inB_iff.1 h1
    obtain ⟨k1, k2⟩ := h2
    obtain ⟨l1, l2, l3⟩ := mul12 m1 m2 k1 k2
    go_enter Try.func15, Try.ntmps15
    go_wp2_with (first | (go_at_call 37; refine (c_specClassIn _ _ _).mono ?_; rintro e w1 ⟨rfl, rfl⟩) | (go_at_call 45; refine (c_l6In _ _ _ _).mono ?_; rintro e w1 ⟨rfl, rfl⟩))
    go_ret2
    exact ⟨_, rfl, (hO1.low (by omega)).keep (by repeat (first | exact Below.refl _ _ | assumption | refine Below.drew ?_ | refine bel_drewN ?_ _ | refine ba ?_ _ | refine bt2 ?_ (by assumption) | refine Below.setCell ?_ (by simp <;> omega) _)), by repeat (first | exact Below.refl _ _ | assumption | refine Below.drew ?_ | refine bel_drewN ?_ _ | refine ba ?_ _ | refine bt2 ?_ (by assumption) | refine Below.setCell ?_ (by simp <;> omega) _)⟩
  · rw [parR_t (parB_tt h1 h2 h3), parB_tt h1 h2 h3]
    have hl := l6B_t h2
    obtain ⟨m1, m2, r1, r2⟩ := inB_iff.1 h1
    obtain ⟨k1, k2⟩ := h2
    obtain ⟨l1, l2, l3⟩ := mul12 m1 m2 k1 k2
    obtain ⟨i0, hi, hz0, hz1, hz2⟩ := info_parts infoC
    obtain ⟨kn, rfl⟩ := Int.eq_ofNat_of_zero_le (show 0 ≤ k by omega)
    have hLL := Lib.hid (show (parL r m (kn : Int)).length = kn by rw [parL_length]; exact Int.toNat_natCast kn)
    go_enter Try.func15, Try.ntmps15
    go_wp2_with (first | (go_at_call 37; refine (c_specClassIn _ _ _).mono ?_; rintro e w1 ⟨rfl, rfl⟩) | (go_at_call 45; refine (c_l6In _ _ _ _).mono ?_; rintro e w1 ⟨rfl, rfl⟩))
    obtain ⟨W1, hW1⟩ : ∃ W1, ((w.alloc (Obj.cells #[Value.int IntKind.i64 r, Value.int IntKind.i64 m] 24)).alloc (.cells #[] 24)).alloc (Obj.cells #[Value.int IntKind.i64 r, Value.int IntKind.i64 m] 24) = W1 := ⟨_, rfl⟩
    have hO2 : OwnC W1 (w.heap.size + 1) 24 (.slice (some ⟨w.heap.size + 1, 0, none⟩) 0 0) [] := by rw [← hW1]; exact hO1.keep (by repeat (first | exact Below.refl _ _ | assumption | refine Below.drew ?_ | refine bel_drewN ?_ _ | refine ba ?_ _ | refine bt2 ?_ (by assumption) | refine Below.setCell ?_ (by simp <;> omega) _))
    have hB1 : Below (w.heap.size + 1) (w.alloc (Obj.cells #[Value.int IntKind.i64 r, Value.int IntKind.i64 m] 24)) W1 := by rw [← hW1]; exact ((Below.refl _ _).alloc (by simp) _).alloc (by simp) _
    rw [hW1]
    clear hO1 hW1
    have hO3 : W1.ownsRow (w.heap.size + 1) 24 2 (.slice (some ⟨w.heap.size + 1, 0, none⟩) 0 0) 0 [] := hO2
    clear hO2
    go_loopw [6, 7] (fun v i wr => ∃ (j : Nat), j ≤ kn ∧ i = .int .i64 j ∧ wr.ownsRow (w.heap.size + 1) 24 2 v j (cells2 ((parL r m (kn : Int)).take j)) ∧ Below (w.heap.size + 1) (w.alloc (Obj.cells #[Value.int IntKind.i64 r, Value.int IntKind.i64 m] 24)) wr) (fun _ i _ => kn - (intOf i).toNat)
    case atStart => exact ⟨0, Nat.zero_le _, rfl, hO3, hB1⟩
    case round =>
      obtain ⟨j, hj, rfl, hO, hB⟩ := hrel
      by_cases hlt : j < kn
      · have HT := Lib.hid (parL_take r m (kn : Int) j (by omega))
        have c0 : wr.cell? ⟨w.heap.size, 0, none⟩ = some (.int .i64 r) := kc (w := w) (hB.mono (by simp)) 0
        have c1 : wr.cell? ⟨w.heap.size, 1, none⟩ = some (.int .i64 m) := kc (w := w) (hB.mono (by simp)) 1
        have hjm : 0 ≤ (j : Int) * m ∧ (j : Int) * m ≤ 12000 := ⟨Int.mul_nonneg (by omega) (by omega), by
          have := Int.mul_le_mul (show (j : Int) ≤ 12 by omega) m2 (by omega) (by omega); omega⟩
        have hbs : w.heap.size + 1 ≤ wr.heap.size := by have := hB.size; simp at this; omega
        go_wp2_with (at_builtin; refine wpList_append_own _ rfl _ _ 30 rfl (w.heap.size + 1) 24 i0 (.agg #[.int .i64 0, .int .i64 0]) 2 16 Try.underlying30 hi hz0 hz1 hz2 rfl (by decide) u6 j _ rfl (hO.alloc _) ⟨wr.heap.size, 0, none⟩ 1 1 [.int .i64 (r + (j : Int) * m), .int .i64 (m * (kn : Int))] rfl rfl (two_new wr _ _ _) (by simp [Value.oneCell']) (by unfold maxLen; omega) (by omega) (by simp; omega) ?_; intro v7 w7 hown7 hgrow7 _)
        have hb7 : Below (w.heap.size + 1) (w.alloc (Obj.cells #[Value.int IntKind.i64 r, Value.int IntKind.i64 m] 24)) w7 := (hB.alloc hbs _).grown hgrow7 (by simp; omega) (fun g e => (hO.lt g e).1)
        go_roundw
        case rel => exact ⟨j + 1, by omega, by go_num, by rw [HT.out, cells2_append]; exact hown7, hb7⟩
        case measure => simp [intOf]; omega
      · have hj' : j = kn := by omega
        subst hj'
        have hT : (parL r m (j : Int)).take j = parL r m (j : Int) := List.take_of_length_le (by rw [hLL.out]; exact Nat.le_refl _)
        rw [hT] at hO
        have hOC : OwnC wr w.heap.size 24 u6 (parL r m (j : Int)) := OwnC.low (base := w.heap.size + 1) (by unfold OwnC; rw [hLL.out]; exact hO) (by omega)
        have hBw : Below w.heap.size w wr := (ba (Below.refl _ w) _).trans (hB.mono (by omega))
        clear hT hO
        go_wp2_with fail
        go_ret2
        exact ⟨_, rfl, hOC, hBw⟩
end Go.Proofs.Ytjbilfbnegokfaa
