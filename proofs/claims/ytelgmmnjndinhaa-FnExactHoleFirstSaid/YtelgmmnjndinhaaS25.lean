/- The program's without. -/
import Derived.Test.YtelgmmnjndinhaaS24
namespace Go.Proofs.Ytelgmmnjndinhaa
open Go.RowKit
theorem eraseIdx_len {zs : List Cl} {i : Nat} (h : i < zs.length) : (zs.eraseIdx i).length = zs.length - 1 := List.length_eraseIdx_of_lt h
theorem slc_part {P : Prop} [Decidable P] {g d : Nat} (h : P) : (if P then (some ⟨g, d, none⟩ : Option Addr) else some ⟨g, 0, none⟩) = some ⟨g, d, none⟩ := if_pos h
set_option maxRecDepth 20000 in
set_option maxHeartbeats 1000000 in
theorem c_without (s : Option Addr) (n cap : Nat) (zs : List Cl) (i : Nat) (hn : n ≤ 1048576) (hi : i < n) (w : World) (hc : Cls w s n zs) :
    Calls Try.prog 61 #[.slice s n cap, .int .i64 i] w fun e w' => ∃ v, e = .returned v ∧ WidC w' w.heap.size v (zs.eraseIdx i) ∧ Below w.heap.size w w' := by
  have hlen := hc.len
  obtain ⟨i0, hi0, hz0, hz1, hz2⟩ := info_parts infoC
  have hsz : (Try.prog.info? 45).map (·.size) = some 2 := by simp [hi0, hz1]
  have HL := Lib.hid hlen
  clear hlen
  rcases hc.lies with h0 | ⟨b, off, rfl, hbw, hcells⟩
  · omega
  have HC := Lib.hid (cls_cells HL.out hcells)
  have HO := Lib.hid (cells2_oc zs)
  have HOd := Lib.hid (cells2_oc (zs.drop (i + 1)))
  have HN := Lib.hid (show (cells2 zs).length = Nat.min n n * 2 by rw [cells2_length, HL.out]; simp)
  have HNd := Lib.hid (show (cells2 (zs.drop (i + 1))).length = Nat.min (n - (i + 1)) (n - i) * 2 by
    rw [cells2_length, List.length_drop, HL.out, show Nat.min (n - (i + 1)) (n - i) = n - (i + 1) from Nat.min_eq_left (by omega)])
  have HNz := Lib.hid (show (cells2 zs).length = n * 2 by rw [cells2_length, HL.out])
  have HNe := Lib.hid (show (cells2 (zs.drop (i + 1))).length = (n - (i + 1)) * 2 by rw [cells2_length, List.length_drop, HL.out])
  clear hcells
  have hiz : (i : Int) < (n : Int) := by omega
  have hiz1 : (i : Int) ≤ (n : Int) := by omega
  have hiz0 : (0 : Int) ≤ (i : Int) := by omega
  go_enter Try.func61, Try.ntmps61
  go_wp2_with (first
    | (at_make; refine wpList_make_full _ rfl _ _ 27 rfl w.heap.size 45 i0 (.agg #[.int .i64 0, .int .i64 0]) 2 Try.underlying27 hi0 hz0 hz1 .i64 .i64 _ _ n rfl rfl rfl rfl (by rw [hz2]; omega) (by unfold maxLen; omega) (Nat.le_refl _) ?_; intro w1 hown hgrow; obtain ⟨L, hgL, hLl⟩ := row_cur hown; have hB1 : Below w.heap.size w w1 := (Below.refl _ _).grown hgrow (Nat.le_refl _) (fun k h => by cases h); have HC1 := Lib.hid (fun j (v : Value) (hj : (cells2 zs)[j]? = some v) => show w1.cell? ((⟨b, off, none⟩ : Addr).add j) = some v by rw [Addr.add_lit]; exact keepc hB1 (HC.out j v hj)); clear hown hgrow)
    | (refine wpList_copyK rfl _ _ 27 27 rfl 45 2 (by decide) Try.underlying27 hsz _ _ _ _ _ _ rfl rfl w.heap.size 0 L 45 hgL (cells2 zs) HN.out (fun _ => ⟨rfl, _, rfl, HC1.out⟩) (by rw [HNz.out, hLl]; omega) HO.out w.heap.size w hB1 (Nat.le_refl _) ?_; intro w2 HG2 hB2)
    | fail)
  have hg2 : w2.heap[w.heap.size]? = some (.cells (cells2 zs).toArray 45 (0, 0)) := by
    have := HG2.out
    rwa [splice_all _ _ (by rw [HNz.out, hLl])] at this
  clear HG2 hgL hLl HC1 hB1 HC
  have HCd := Lib.hid (fun (W : World) (hW : W.heap[w.heap.size]? = some (.cells (cells2 zs).toArray 45 (0, 0))) j (v : Value) (hj : (cells2 (zs.drop (i + 1)))[j]? = some v) => show W.cell? ((⟨w.heap.size, (i + 1) * 2, none⟩ : Addr).add j) = some v by
    rw [Addr.add_lit]
    rw [← cells2_drop, List.getElem?_drop] at hj
    simp [World.cell?, hW, hj])
  have hs1 : (n : Int) - 1 = ((n - 1 : Nat) : Int) := by omega
  have hs2 : ((n - 1 : Nat) : Int) ≤ (n : Int) := by omega
  have hw : IntKind.i64.wrap ((i : Int) + 1) = (i : Int) + 1 := IntWalk.i64_in _ (by omega)
  by_cases hA : i + 1 < n
  · have hAz : (i : Int) + 1 < (n : Int) := by omega
    have hA1 : (i : Int) + 1 ≤ (n : Int) := by omega
    have hA0 : (0 : Int) ≤ (i : Int) + 1 := by omega
    have hAn : ¬ n = i + 1 := by omega
    have hAm : ¬ n = i := by omega
    have hAt : ((i : Int) + 1).toNat = i + 1 := by omega
    go_region_held3 (fun _ => True) (trivial) (first
      | (refine step_copyK rfl _ _ 27 27 rfl 45 2 (by decide) Try.underlying27 hsz _ _ _ _ _ _ rfl rfl w.heap.size (i * 2) (cells2 zs) 45 hg2 (cells2 (zs.drop (i + 1))) HNd.out (fun _ => ⟨rfl, _, rfl, HCd.out _ hg2⟩) (by rw [HNe.out, HNz.out]; omega) HOd.out w.heap.size w hB2.drew (Nat.le_refl _) ?_; intro w5 HG5 hB5)
      | fail)
    all_goals
      clear hw
      have HW := Lib.hid (show w5.heap[w.heap.size]? = some (.cells (splice (cells2 zs) (i * 2) (cells2 (zs.drop (i + 1)))).toArray 45 (0, 0)) from HG5.out)
      clear HG5 hg2
      go_wp2_with fail
      go_ret
      refine ⟨_, rfl, ⟨w.heap.size, n - 1, _, ?_, Nat.le_refl _, Nat.le_of_eq ?_, HW.out, ?_, n, ?_, by unfold maxLen; omega, ?_⟩, hB5⟩
      · rw [eraseIdx_len (by rw [HL.out]; exact hi), HL.out]
        simp
      · rw [eraseIdx_len (by rw [HL.out]; exact hi), HL.out]
      · rw [eraseIdx_len (by rw [HL.out]; exact hi)]
        simpa using splice_erase zs i (by rw [HL.out]; exact hi)
      · rw [eraseIdx_len (by rw [HL.out]; exact hi), HL.out]; omega
      · rw [List.size_toArray, length_splice _ _ _ (by rw [HNe.out, HNz.out]; omega)]; exact HNz.out
  · have hA1 : (i : Int) + 1 ≤ (n : Int) := by omega
    have hA0 : (0 : Int) ≤ (i : Int) + 1 := by omega
    have hAn : n = i + 1 := by omega
    have hAm : ¬ n = i := by omega
    have hAt : ((i : Int) + 1).toNat = i + 1 := by omega
    have hz1 : (i : Int) ≤ (i : Int) + 1 := by omega
    have hz2 : (i : Int) < (i : Int) + 1 := by omega
    have hz3 : i < i + 1 := by omega
    have hz4 : i ≤ i + 1 := by omega
    have HV := Lib.hid (show (cells2 (zs.drop (i + 1))).length = 0 by rw [HNe.out]; omega)
    go_region_held3 (fun _ => True) (trivial) (first
      | (refine step_copyK rfl _ _ 27 27 rfl 45 2 (by decide) Try.underlying27 hsz _ _ 1 1 0 0 rfl rfl w.heap.size (i * 2) (cells2 zs) 45 hg2 (cells2 (zs.drop (i + 1))) HV.out (fun h => absurd h (by rw [HV.out]; omega)) (by rw [HV.out, HNz.out]; omega) HOd.out w.heap.size w hB2.drew (Nat.le_refl _) ?_; intro w5 HG5 hB5)
      | fail)
    all_goals
      clear hw
      have HW := Lib.hid (show w5.heap[w.heap.size]? = some (.cells (splice (cells2 zs) (i * 2) (cells2 (zs.drop (i + 1)))).toArray 45 (0, 0)) from HG5.out)
      clear HG5 hg2
      go_wp2_with fail
      go_ret
      refine ⟨_, rfl, ⟨w.heap.size, n - 1, _, ?_, Nat.le_refl _, Nat.le_of_eq ?_, HW.out, ?_, n, ?_, by unfold maxLen; omega, ?_⟩, hB5⟩
      · rw [eraseIdx_len (by rw [HL.out]; exact hi), HL.out]
        simp [hAn]
      · rw [eraseIdx_len (by rw [HL.out]; exact hi), HL.out]
      · rw [eraseIdx_len (by rw [HL.out]; exact hi)]
        simpa using splice_erase zs i (by rw [HL.out]; exact hi)
      · rw [eraseIdx_len (by rw [HL.out]; exact hi), HL.out]; omega
      · rw [List.size_toArray, length_splice _ _ _ (by rw [HNe.out, HNz.out]; omega)]; exact HNz.out
end Go.Proofs.Ytelgmmnjndinhaa
