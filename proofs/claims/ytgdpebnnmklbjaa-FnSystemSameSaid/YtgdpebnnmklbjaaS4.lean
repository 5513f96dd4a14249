/- Contracts of ClassParts, in the program (by the iterator) and in the model. -/
import Derived.Test.YtgdpebnnmklbjaaR4
import Derived.Test.YtgdpebnnmklbjaaS3
import Derived.RangeFuncBox
import Derived.Maps.AppendAt
namespace Go.Proofs.Ytgdpebnnmklbjaa
open Go.RowKit Go.Shelf
attribute [local go_sem] Oper.semAt_some
def parB (r m k : Int) : Bool := inB r m && decide (1 ≤ k ∧ k ≤ 12) && decide (m * k ≤ 1000)
def parL (r m k : Int) : List Cl := (List.range k.toNat).map fun (i : Nat) => (r + (i : Int) * m, m * k)
def parR (r m k : Int) : List Cl := bif parB r m k then parL r m k else []
theorem parL_length (r m k : Int) : (parL r m k).length = k.toNat := by simp [parL]
theorem parL_take (r m k : Int) (i : Nat) (h : i < k.toNat) : (parL r m k).take (i + 1) = (parL r m k).take i ++ [(r + (i : Int) * m, m * k)] := by
  rw [List.take_succ_eq_append_getElem (by simp [parL, h])]
  simp [parL]
theorem parB_f0 {r m k : Int} (h : inB r m = false) : parB r m k = false := by simp [parB, h]
theorem parB_f1 {r m k : Int} (h : ¬ (1 ≤ k ∧ k ≤ 12)) : parB r m k = false := by simp [parB, h]
theorem parB_f2 {r m k : Int} (h : 1000 < m * k) : parB r m k = false := by simp [parB]; omega
theorem parB_tt {r m k : Int} (h1 : inB r m = true) (h2 : 1 ≤ k ∧ k ≤ 12) (h3 : m * k ≤ 1000) : parB r m k = true := by simp [parB, h1, h2, h3]
theorem par_cases (r m k : Int) : inB r m = false ∨ (inB r m = true ∧ ¬ (1 ≤ k ∧ k ≤ 12)) ∨ (inB r m = true ∧ (1 ≤ k ∧ k ≤ 12) ∧ 1000 < m * k) ∨ (inB r m = true ∧ (1 ≤ k ∧ k ≤ 12) ∧ m * k ≤ 1000) := by
  cases inB r m
  · simp
  · by_cases h : 1 ≤ k ∧ k ≤ 12
    · by_cases h2 : m * k ≤ 1000
      · exact .inr (.inr (.inr ⟨rfl, h, h2⟩))
      · exact .inr (.inr (.inl ⟨rfl, h, by omega⟩))
    · exact .inr (.inl ⟨rfl, h⟩)
theorem mul12 {m k : Int} (h1 : 1 ≤ m) (h2 : m ≤ 1000) (h3 : 1 ≤ k) (h4 : k ≤ 12) : 1 ≤ m * k ∧ m * k ≤ 12000 ∧ m ≤ m * k := by
  have a := Int.mul_le_mul h2 h4 (by omega) (by omega)
  have b := Int.mul_le_mul_of_nonneg_left h3 (show 0 ≤ m by omega)
  omega
theorem lt3 {w : World} {A B C : Obj} {n : Nat} (h : (((w.alloc A).alloc B).alloc C).heap.size ≤ n) : w.heap.size < n ∧ w.heap.size + 1 + 1 < n := by simp at h; omega
theorem firI_0 {r m : Int} (h0 : 0 ≤ r) (h1 : r < m) : firI r m 0 = r := by
  unfold firI; rw [Int.sub_zero, Int.emod_eq_of_lt h0 h1, Int.zero_add]
theorem seqTo_map {f : Nat → Int} {g : Int → Cl} {h : Nat → Cl} (k : Nat) (e : ∀ i, g (f i) = h i) : (seqTo f k).map g = (List.range k).map h := by
  simp [seqTo, e]
theorem par_lt {r m : Int} {kn : Nat} (m1 : 1 ≤ m) (h0 : 0 ≤ r) (h1 : r < m) {M : Int} (hM : m * (kn : Int) = M) (k : Nat) (h : numK r m 0 k < M) : k < kn := by
  unfold numK at h
  rw [firI_0 h0 h1] at h
  rcases Nat.lt_or_ge k kn with hk | hk
  · exact hk
  · exfalso
    have : (kn : Int) * m ≤ (k : Int) * m := Int.mul_le_mul_of_nonneg_right (by omega) (by omega)
    rw [Int.mul_comm (kn : Int) m] at this
    omega
/-- all numbers of a class below k times its modulus: as many as k -/
theorem par_all {r m : Int} {kn : Nat} {ys : List Int} (m1 : 1 ≤ m) (h0 : 0 ≤ r) (h1 : r < m) (hS : NumAll r m 0 (m * (kn : Int)) ys) : ys.map (fun x => (x, m * (kn : Int))) = parL r m (kn : Int) := by
  obtain ⟨K, rfl, hb, hj⟩ := hS
  have e : ∀ i : Nat, numK r m 0 i = r + (i : Int) * m := fun i => by unfold numK; rw [firI_0 h0 h1]
  have hK : K = kn := by
    rw [e] at hb
    rcases Nat.lt_trichotomy K kn with h | h | h
    · exfalso
      have : ((K : Int) + 1) * m ≤ (kn : Int) * m := Int.mul_le_mul_of_nonneg_right (by omega) (by omega)
      rw [Int.add_mul, Int.one_mul, Int.mul_comm (kn : Int) m] at this
      omega
    · exact h
    · exfalso
      have h2 := hj kn h
      rw [e, Int.mul_comm (kn : Int) m] at h2
      omega
  subst hK
  rw [seqTo_map K (h := fun i => (r + (i : Int) * m, m * (K : Int))) (fun i => by rw [e])]
  simp [parL]
theorem cells2_snoc (pre : List Int) (x M : Int) : cells2 ((pre ++ [x]).map fun x => (x, M)) = cells2 (pre.map fun x => (x, M)) ++ [.int .i64 x, .int .i64 M] := by
  rw [List.map_append, cells2_append]; rfl
theorem parR_t {r m k : Int} (h : parB r m k = true) : parR r m k = parL r m k := by simp [parR, h]
theorem parR_f {r m k : Int} (h : parB r m k = false) : parR r m k = [] := by simp [parR, h]
theorem parR_le (r m k : Int) : (parR r m k).length ≤ 12 := by
  cases h : parB r m k
  · simp [parR_f h]
  · rw [parR_t h, parL_length]
    simp only [parB, Bool.and_eq_true, decide_eq_true_eq] at h
    omega
set_option maxRecDepth 20000 in
set_option maxHeartbeats 1000000 in
theorem c_specClassParts (r m k : Int) (w : World) : Calls Try.prog 95 #[.agg #[.int .i64 r, .int .i64 m], .int .i64 k] w (RetC w (parR r m k) (parB r m k)) := by
  have hO1 : OwnC ((w.alloc (Obj.cells #[Value.int IntKind.i64 r, Value.int IntKind.i64 m] 34)).alloc (.cells #[] 34)) (w.heap.size + 1) 34 (.slice (some ⟨w.heap.size + 1, 0, none⟩) 0 0) [] := by
    have := World.ownsRow_lit (w.alloc (Obj.cells #[Value.int IntKind.i64 r, Value.int IntKind.i64 m] 34)) (e := 34) (size := 2) (base := w.heap.size + 1) #[] 0 (by simp) (by unfold maxLen; omega) rfl
    simpa [OwnC, cells2] using this
  rcases par_cases r m k with h1 | ⟨h1, h2⟩ | ⟨h1, h2, h3⟩ | ⟨h1, h2, h3⟩
  · rw [parR_f (parB_f0 h1), parB_f0 h1]
    go_enter Try.func95, Try.ntmps95
    go_wp2_with (first | (go_at_call 48; refine (c_specClassIn _ _ _).mono ?_; rintro e w1 ⟨rfl, rfl⟩))
    go_ret2
    exact ⟨_, rfl, (hO1.low (by omega)).keep (by repeat (first | exact Below.refl _ _ | assumption | refine Below.drew ?_ | refine bel_drewN ?_ _ | refine ba ?_ _ | refine bt2 ?_ (by assumption) | refine Below.setCell ?_ (by simp <;> omega) _)), by repeat (first | exact Below.refl _ _ | assumption | refine Below.drew ?_ | refine bel_drewN ?_ _ | refine ba ?_ _ | refine bt2 ?_ (by assumption) | refine Below.setCell ?_ (by simp <;> omega) _)⟩
  · rw [parR_f (parB_f1 h2), parB_f1 h2]
    have hl := l6B_f h2
    go_enter Try.func95, Try.ntmps95
    go_wp2_with (first | (go_at_call 48; refine (c_specClassIn _ _ _).mono ?_; rintro e w1 ⟨rfl, rfl⟩) | (go_at_call 49; refine (c_l6In _ _ _ _).mono ?_; rintro e w1 ⟨rfl, rfl⟩))
    go_ret2
    exact ⟨_, rfl, (hO1.low (by omega)).keep (by repeat (first | exact Below.refl _ _ | assumption | refine Below.drew ?_ | refine bel_drewN ?_ _ | refine ba ?_ _ | refine bt2 ?_ (by assumption) | refine Below.setCell ?_ (by simp <;> omega) _)), by repeat (first | exact Below.refl _ _ | assumption | refine Below.drew ?_ | refine bel_drewN ?_ _ | refine ba ?_ _ | refine bt2 ?_ (by assumption) | refine Below.setCell ?_ (by simp <;> omega) _)⟩
  · rw [parR_f (parB_f2 h3), parB_f2 h3]
    have hl := l6B_t h2
    obtain ⟨m1, m2, r1, r2⟩ := inB_iff.1 h1
    obtain ⟨k1, k2⟩ := h2
    obtain ⟨l1, l2, l3⟩ := mul12 m1 m2 k1 k2
    go_enter Try.func95, Try.ntmps95
    go_wp2_with (first | (go_at_call 48; refine (c_specClassIn _ _ _).mono ?_; rintro e w1 ⟨rfl, rfl⟩) | (go_at_call 49; refine (c_l6In _ _ _ _).mono ?_; rintro e w1 ⟨rfl, rfl⟩))
    go_ret2
    exact ⟨_, rfl, (hO1.low (by omega)).keep (by repeat (first | exact Below.refl _ _ | assumption | refine Below.drew ?_ | refine bel_drewN ?_ _ | refine ba ?_ _ | refine bt2 ?_ (by assumption) | refine Below.setCell ?_ (by simp <;> omega) _)), by repeat (first | exact Below.refl _ _ | assumption | refine Below.drew ?_ | refine bel_drewN ?_ _ | refine ba ?_ _ | refine bt2 ?_ (by assumption) | refine Below.setCell ?_ (by simp <;> omega) _)⟩
  · rw [parR_t (parB_tt h1 h2 h3), parB_tt h1 h2 h3]
    have hl := l6B_t h2
    obtain ⟨m1, m2, r1, r2⟩ := inB_iff.1 h1
    obtain ⟨k1, k2⟩ := h2
    obtain ⟨l1, l2, l3⟩ := mul12 m1 m2 k1 k2
    obtain ⟨i0, hi, hz0, hz1, hz2⟩ := info_parts infoC
    obtain ⟨kn, rfl⟩ := Int.eq_ofNat_of_zero_le (show 0 ≤ k by omega)
    have hLL := Lib.hid (show (parL r m (kn : Int)).length = kn by rw [parL_length]; exact Int.toNat_natCast kn)
    go_enter Try.func95, Try.ntmps95
    go_wp2_with (first | (go_at_call 48; refine (c_specClassIn _ _ _).mono ?_; rintro e w1 ⟨rfl, rfl⟩) | (go_at_call 49; refine (c_l6In _ _ _ _).mono ?_; rintro e w1 ⟨rfl, rfl⟩))
    obtain ⟨W1, hW1⟩ : ∃ W1, ((w.alloc (Obj.cells #[Value.int IntKind.i64 r, Value.int IntKind.i64 m] 34)).alloc (.cells #[] 34)).alloc (Obj.cells #[Value.int IntKind.i64 r, Value.int IntKind.i64 m] 34) = W1 := ⟨_, rfl⟩
    have hO2 : OwnC W1 (w.heap.size + 1) 34 (.slice (some ⟨w.heap.size + 1, 0, none⟩) 0 0) [] := by rw [← hW1]; exact hO1.keep (by repeat (first | exact Below.refl _ _ | assumption | refine Below.drew ?_ | refine bel_drewN ?_ _ | refine ba ?_ _ | refine bt2 ?_ (by assumption) | refine Below.setCell ?_ (by simp <;> omega) _))
    have hB1 : Below (w.heap.size + 1) (w.alloc (Obj.cells #[Value.int IntKind.i64 r, Value.int IntKind.i64 m] 34)) W1 := by rw [← hW1]; exact ((Below.refl _ _).alloc (by simp) _).alloc (by simp) _
    rw [hW1]
    clear hO1 hW1
    have hO3 : W1.ownsRow (w.heap.size + 1) 34 2 (.slice (some ⟨w.heap.size + 1, 0, none⟩) 0 0) 0 [] := hO2
    clear hO2
    go_loopw [6, 7] (fun v i wr => ∃ (j : Nat), j ≤ kn ∧ i = .int .i64 j ∧ wr.ownsRow (w.heap.size + 1) 34 2 v j (cells2 ((parL r m (kn : Int)).take j)) ∧ Below (w.heap.size + 1) (w.alloc (Obj.cells #[Value.int IntKind.i64 r, Value.int IntKind.i64 m] 34)) wr) (fun _ i _ => kn - (intOf i).toNat)
    case atStart => exact ⟨0, Nat.zero_le _, rfl, hO3, hB1⟩
    case round =>
      obtain ⟨j, hj, rfl, hO, hB⟩ := hrel
      by_cases hlt : j < kn
      · have HT := Lib.hid (parL_take r m (kn : Int) j (by omega))
        have c0 : wr.cell? ⟨w.heap.size, 0, none⟩ = some (.int .i64 r) := kc (w := w) (hB.mono (by simp)) 0
        have c1 : wr.cell? ⟨w.heap.size, 1, none⟩ = some (.int .i64 m) := kc (w := w) (hB.mono (by simp)) 1
        have hjm : 0 ≤ (j : Int) * m ∧ (j : Int) * m ≤ 12000 := ⟨Int.mul_nonneg (by omega) (by omega), by
          have := Int.mul_le_mul (show (j : Int) ≤ 12 by omega) m2 (by omega) (by omega); omega⟩
        have hbs : w.heap.size + 1 ≤ wr.heap.size := by have := hB.size; simp at this; omega
        go_wp2_with (at_builtin; refine wpList_append_own _ rfl _ _ 23 rfl (w.heap.size + 1) 34 i0 (.agg #[.int .i64 0, .int .i64 0]) 2 16 Try.underlying23 hi hz0 hz1 hz2 rfl (by decide) u6 j _ rfl (hO.alloc _) ⟨wr.heap.size, 0, none⟩ 1 1 [.int .i64 (r + (j : Int) * m), .int .i64 (m * (kn : Int))] rfl rfl (two_new wr _ _ _) (by simp [Value.oneCell']) (by unfold maxLen; omega) (by omega) (by simp; omega) ?_; intro v7 w7 hown7 hgrow7 _)
        have hb7 : Below (w.heap.size + 1) (w.alloc (Obj.cells #[Value.int IntKind.i64 r, Value.int IntKind.i64 m] 34)) w7 := (hB.alloc hbs _).grown hgrow7 (by simp; omega) (fun g e => (hO.lt g e).1)
        go_roundw
        case rel => exact ⟨j + 1, by omega, by go_num, by rw [HT.out, cells2_append]; exact hown7, hb7⟩
        case measure => simp [intOf]; omega
      · have hj' : j = kn := by omega
        subst hj'
        have hT : (parL r m (j : Int)).take j = parL r m (j : Int) := List.take_of_length_le (by rw [hLL.out]; exact Nat.le_refl _)
        rw [hT] at hO
        have hOC : OwnC wr w.heap.size 34 u6 (parL r m (j : Int)) := OwnC.low (base := w.heap.size + 1) (by unfold OwnC; rw [hLL.out]; exact hO) (by omega)
        have hBw : Below w.heap.size w wr := (ba (Below.refl _ w) _).trans (hB.mono (by omega))
        clear hT hO
        go_wp2_with fail
        go_ret2
        exact ⟨_, rfl, hOC, hBw⟩
end Go.Proofs.Ytgdpebnnmklbjaa
