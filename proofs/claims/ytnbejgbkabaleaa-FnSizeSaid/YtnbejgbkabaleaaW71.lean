/- The walk of the promise law FnSize. -/
import Derived.Test.YtnbejgbkabaleaaDd
import Derived.Test.YtnbejgbkabaleaaMathX
namespace Go.Proofs.Ytnbejgbkabaleaa
open Go.RowKit
theorem OwnI.allJ {w : World} {base : Nat} {e : TypeId} {v : Value} {zs : List Int} (h : OwnI w base e v zs) : ∃ s cap, v = .slice s zs.length cap ∧ Ints w s zs.length zs ∧ zs.length ≤ cap ∧ cap ≤ 9223372036854775807 := by
  obtain ⟨s3, cap3, rfl, hC3, _⟩ := h.spread
  refine ⟨s3, cap3, rfl, hC3, ?_⟩
  rcases h.2 with ⟨h1, h2⟩ | ⟨g', cap', cur, h1, _, _, h3, h4, _⟩
  · simp only [Value.slice.injEq] at h1
    omega
  · simp only [Value.slice.injEq] at h1
    unfold maxLen at h4
    omega
set_option maxRecDepth 20000 in
set_option maxHeartbeats 4000000 in
theorem w_FnSize (s : Option Addr) (len cap : Nat) (w : World) (h : Code0 w s len cap) : Calls Try.prog 4 #[.slice s len cap] w fun e w' => e = .returned (.bool true) ∧ Below w.heap.size w w' := by
  have hlc := h.lc
  have hcm := h.cm
  unfold maxLen at hcm
  by_cases hlen : ¬ len ≤ 1048576
  · go_enter Try.func4, Try.ntmps4
    go_wp2_with fail
    go_ret
    exact ⟨rfl, Below.refl _ _⟩
  have hlen2 : len ≤ 1048576 := by omega
  clear hlen
  go_enter Try.func4, Try.ntmps4
  go_wp2_with fail
  refine (c_DrawRestSize s len cap _ h).mono ?_
  rintro e w0 ⟨v_zs, zs, rfl, hO_zs, hl_zs, hT⟩
  obtain ⟨so_zs, co_zs, rfl, hI_zs, hc1, hc2⟩ := hO_zs.allJ
  have hm_zs : zs.length ≤ 1048576 := by omega
  clear hO_zs h
  go_wp2_with fail
  refine (c_implRestSize so_zs zs.length co_zs zs hm_zs _ hI_zs).mono ?_
  rintro e w1 ⟨rfl, hb1⟩
  have hI_zs := hI_zs.keep hb1
  have hT := bt2 hT hb1
  go_wp2_with fail
  refine (c_specRestSize so_zs zs.length co_zs zs hm_zs _ hI_zs).mono ?_
  rintro e w2 ⟨rfl, hb2⟩
  have hI_zs := hI_zs.keep hb2
  have hT := bt2 hT hb2
  cases hb : basB zs
  · simp only [selI_f]
    clear hb
    go_wp2_with fail
    go_ret
    exact ⟨rfl, hT⟩
  · simp only [selI_t]
    have hll := bas_len hb
    have hlast := siz_last hb
    have hsb : 1 ≤ sizZ zs ∧ sizZ zs ≤ 810000 := pZ_bd (bas_mb hb) 4 (by omega)
    have hpb := pZ_bd (bas_mb hb) (zs.length - 1) (by omega)
    obtain ⟨K, hK⟩ : ∃ K, zs.length = K + 1 := ⟨zs.length - 1, by omega⟩
    have hmK := bas_mb hb K
    rw [show zs.length - 1 = K by omega] at hlast hpb
    obtain ⟨m1, m2⟩ := hmK
    have HK := Lib.hid hK
    have HZ := Lib.hid hI_zs
    have HM := Lib.hid (fun (W : World) (hB : Below w2.heap.size w2 W) => (hI_zs.keep hB).lies)
    have hc3 : K + 1 ≤ co_zs := by omega
    have hlb : K ≤ 3 := by omega
    have HB := Lib.hid hb
    rw [hK]
    clear hll hK hc1 hI_zs hm_zs hl_zs hb
    by_cases hK0 : K = 0
    · subst hK0
      have hp0 : pZ zs 0 = 1 := rfl
      rw [hp0, Int.one_mul] at hlast
      have hd0 : decide ((0 : Int) < 0) = false := rfl
      rcases HM.out _ (Below.refl _ _) with h0 | ⟨b, off, rfl, hbw, hcells⟩
      · rw [HK.out] at h0; omega
      have hx := hcells 0 (by rw [HK.out]; omega)
      rw [mo_in (by rw [HK.out]; omega), Nat.add_zero, hlast] at hx
      clear hcells
      generalize sizZ zs = Z at *
      go_wp2_with fail
      go_ret
      exact ⟨rfl, hT⟩
    · have hbt := bas_take HB.out K (by omega) (by rw [HK.out]; omega)
      have hlt : (zs.take K).length = K := by rw [List.length_take, HK.out]; omega
      have k1 := fun (so : Option Addr) (co : Nat) (W : World) (hI : Ints W so K (zs.take K)) => c_implRestSize so K co (zs.take K) (by omega) W hI
      rw [hbt.1, hbt.2] at k1
      simp only [selI_t] at k1
      obtain ⟨i0, hi, hz0, hz1, hz2⟩ := info_parts infoJ
      have hO0 := litJ w2 w2 (Below.refl _ _)
      have hB0 : Below w2.heap.size w2 (w2.alloc (.cells #[] 3)) := ba (Below.refl _ _) _
      rcases HM.out _ (Below.refl _ _) with h0 | ⟨b, off, rfl, hbw, hcells⟩
      · rw [HK.out] at h0; omega
      have HN := Lib.hid (ints_cells (n := K) (zs := zs.take K) hlt (w := w2.alloc (.cells #[] 3)) (b := b) (off := off) (fun i hi => by
        rw [hB0.cell (p := ⟨b, off + i, none⟩) hbw, hcells i (by rw [HK.out]; omega), List.getElem?_take]; simp [hi]))
      have HL := Lib.hid (show ((zs.take K).map (Value.int .i64)).length = K * 1 by rw [List.length_map, hlt, Nat.mul_one])
      have HO := Lib.hid (oneInts (zs.take K))
      have HLT := Lib.hid hlt
      have hx := hcells K (by rw [HK.out]; omega)
      rw [mo_in (by rw [HK.out]; omega)] at hx
      have hkz0 : (0 : Int) ≤ (K : Int) := by omega
      have hkz1 : (K : Int) < (K : Int) + 1 := by omega
      have hkz2 : (K : Int) ≤ (co_zs : Int) := by omega
      have hkz3 : K ≤ co_zs := by omega
      have hd0 : decide (0 < K) = true := decide_eq_true (by omega)
      have hKp : 0 < K := by omega
      have hkb : (0 + K) * 8 ≤ 140737488355328 := by omega
      have hkm : 0 + K ≤ maxLen := by unfold maxLen; omega
      clear hcells hbt hlt HB HZ hlb
      generalize sizZ zs = Z at *
      go_wp2_with (first
        | (at_builtin; refine wpList_append_own_at _ rfl _ _ 23 rfl w2.heap.size 3 i0 (.int .i64 0) 1 8 Try.underlying23 hi hz0 hz1 hz2 rfl (by decide) _ 0 [] rfl hO0 ⟨b, off, none⟩ K co_zs ((zs.take K).map (Value.int .i64)) rfl HL.out HN.out HO.out hkm hkb hB0.size ?_; intro v7 w7 hown7 hgrow7 _ hloc)
        | fail)
      have hO7 : OwnI w7 w2.heap.size 3 v7 (zs.take K) := by
        unfold OwnI
        rw [HLT.out, show K = 0 + K by omega]
        simpa using hown7
      have hb7 : Below w2.heap.size w2 w7 := hB0.grown hgrow7 hB0.size (fun g e => by cases e; exact Nat.le_refl _)
      obtain ⟨so7, co7, hv7, hI7, _⟩ := hO7.spread
      rw [HLT.out] at hv7 hI7
      subst hv7
      refine (k1 so7 co7 _ hI7).mono ?_
      rintro e w8 ⟨rfl, hb8⟩
      have hb9 := bt2 hb7 hb8
      have hx9 := (hb9.cell (p := ⟨b, off + K, none⟩) hbw).trans hx
      have hT9 := bt2 hT hb9
      have HLS := Lib.hid hlast
      have hw : wrap64 (pZ zs K * mo zs K) = pZ zs K * mo zs K := by rw [hlast]; unfold wrap64; omega
      rw [hlast] at hw
      clear hx k1 hO7 hI7 hb7 hb8
      have hq : (Z == pZ zs K * mo zs K) = true := by rw [hlast]; simp
      have hmul : pZ zs K * mo zs K = Z := hlast
      clear hlast hq
      generalize pZ zs K = P at *
      generalize mo zs K = M at *
      go_wp2_with fail
      go_ret
      exact ⟨rfl, hT9⟩
end Go.Proofs.Ytnbejgbkabaleaa
