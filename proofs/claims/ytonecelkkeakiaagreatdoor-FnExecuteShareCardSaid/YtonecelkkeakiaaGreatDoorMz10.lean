/- Contracts of SystemSame, in the program and in the model. -/
import Derived.Test.YtonecelkkeakiaaGreatDoorMz7
import Derived.Test.YtonecelkkeakiaaGreatDoorMz9
import Derived.Test.YtonecelkkeakiaaGreatDoorS15
import Derived.Shelf.Slices.Equal
import Derived.Shelf.Slices.Empties2
import Derived.Test.YtonecelkkeakiaaGreatDoorMz3
import Derived.Test.YtonecelkkeakiaaGreatDoorS3
import Derived.Maps.AppendAt
import Derived.Test.YtonecelkkeakiaaGreatDoorMz2
import Derived.Test.YtonecelkkeakiaaGreatDoorCopy
namespace Go.Proofs.YtonecelkkeakiaaGreatDoor
open Go.RowKit
open Go.Maps
theorem ints_cells {w : World} {b off n : Nat} {xs : List Int} (h : Ints w (some ⟨b, off, none⟩) n xs) (h0 : 0 < n) : ∀ j, j < xs.length → w.cell? ⟨b, off + j, none⟩ = some (.int .i64 (xs.getD j 0)) := by
  intro j hj
  have hl := h.len
  rcases h.lies with h1 | ⟨b', off', e, _, hcells⟩
  · omega
  · simp only [Option.some.injEq, Addr.mk.injEq, and_true] at e
    obtain ⟨rfl, rfl⟩ := e
    rw [hcells j (by omega), List.getD_eq_getElem?_getD]
theorem holK_len (zs : List Cl) (k : Nat) (h : k ≤ 1000) : (holK zs k).length ≤ 1048576 := by have := holK_le zs k; omega
end Go.Proofs.YtonecelkkeakiaaGreatDoor
namespace Go.Proofs.YtonecelkkeakiaaGreatDoor
open Go.RowKit
end Go.Proofs.YtonecelkkeakiaaGreatDoor
namespace Go.Proofs.YtonecelkkeakiaaGreatDoor
open Go.RowKit
/-- the meets of a class and the first j of a system -/
def mrow (c : Cl) (ys : List Cl) : Nat → List Cl
  | 0 => []
  | j + 1 => bif metB c.2 (rAt ys j) (mAt ys j) c.1 then mrow c ys j ++ [(metX c.2 (rAt ys j) (mAt ys j) c.1, lcmI c.2 (mAt ys j))] else mrow c ys j
def mall (zs ys : List Cl) : Nat → List Cl
  | 0 => []
  | i + 1 => mall zs ys i ++ mrow (rAt zs i, mAt zs i) ys ys.length
theorem mrow_le (c : Cl) (ys : List Cl) (j : Nat) : (mrow c ys j).length ≤ j := by
  induction j with
  | zero => simp [mrow]
  | succ j ih =>
    simp only [mrow]
    cases metB c.2 (rAt ys j) (mAt ys j) c.1
    · simp only [cond_false]; omega
    · simp only [cond_true, List.length_append, List.length_singleton]; omega
theorem mall_le (zs ys : List Cl) (i : Nat) : (mall zs ys i).length ≤ i * ys.length := by
  induction i with
  | zero => simp [mall]
  | succ i ih =>
    have := mrow_le (rAt zs i, mAt zs i) ys ys.length
    simp only [mall, List.length_append, Nat.add_mul, Nat.one_mul]
    omega
def hmeL (zs ys : List Cl) : List Cl := mall zs ys zs.length
def hmeB (zs ys : List Cl) : Bool := comB zs ys && sysB (hmeL zs ys)
def hmeR (zs ys : List Cl) : List Cl := bif hmeB zs ys then hmeL zs ys else []
theorem hmeR_le (zs ys : List Cl) : (hmeR zs ys).length ≤ 8 := by
  unfold hmeR
  cases h : hmeB zs ys
  · simp
  · unfold hmeB at h
    simp only [Bool.and_eq_true] at h
    have := (sysB_facts h.2).2.1
    simpa using this
end Go.Proofs.YtonecelkkeakiaaGreatDoor
namespace Go.Proofs.YtonecelkkeakiaaGreatDoor
open Go.RowKit
/-- a list of classes in a block of its own, perhaps with room behind it -/
def WidC (w : World) (base : Nat) (v : Value) (zs : List Cl) : Prop := ∃ g cap cur, v = .slice (some ⟨g, 0, none⟩) zs.length cap ∧ base ≤ g ∧ zs.length ≤ cap ∧ w.heap[g]? = some (.cells cur 41 (0, 0)) ∧ cur.toList.take (zs.length * 2) = cells2 zs ∧ ∃ room, zs.length ≤ room ∧ room ≤ maxLen ∧ cur.size = room * 2
theorem WidC.keep {w w' : World} {base : Nat} {v : Value} {zs : List Cl} (h : WidC w base v zs) (k : Below w.heap.size w w') : WidC w' base v zs := by
  obtain ⟨g, cap, cur, hv, hg, hc, hh, r⟩ := h
  exact ⟨g, cap, cur, hv, hg, hc, by rw [k.block g (block_lt hh)]; exact hh, r⟩
theorem WidC.low {w : World} {base b2 : Nat} {v : Value} {zs : List Cl} (h : WidC w base v zs) (k : b2 ≤ base) : WidC w b2 v zs := by
  obtain ⟨g, cap, cur, hv, hg, hc, hh, r⟩ := h
  exact ⟨g, cap, cur, hv, Nat.le_trans k hg, hc, hh, r⟩
theorem OwnC.wid {w : World} {base g n cap : Nat} {zs : List Cl} (h : OwnC w base 41 (.slice (some ⟨g, 0, none⟩) n cap) zs) (hn : zs.length = n) : WidC w base (.slice (some ⟨g, 0, none⟩) n cap) zs := by
  subst hn
  have h' : w.ownsRow base 41 2 (.slice (some ⟨g, 0, none⟩) zs.length cap) zs.length (cells2 zs) := h
  rcases h'.2 with ⟨h1, _⟩ | ⟨g', cap', cur, h1, hb, hg, hn, hm, hz, ht⟩
  · simp at h1
  · simp only [Value.slice.injEq, Option.some.injEq, Addr.mk.injEq, and_true] at h1
    obtain ⟨rfl, _, rfl⟩ := h1
    exact ⟨g, cap, cur, rfl, hb, hn, hg, ht, cap, hn, hm, hz⟩
theorem WidC.own {w : World} {base : Nat} {v : Value} {zs : List Cl} (h : WidC w base v zs) : ∃ s cap room, v = .slice s zs.length cap ∧ OwnC w base 41 (.slice s zs.length room) zs := by
  obtain ⟨g, cap, cur, hv, hg, hc, hh, ht, room, r1, r2, r3⟩ := h
  exact ⟨_, cap, room, hv, by rw [cells2_length], .inr ⟨g, room, cur, rfl, hg, hh, r1, r2, r3, ht⟩⟩
theorem wid_cells {w : World} {g : Nat} {zs : List Cl} {cur : Array Value} (hh : w.heap[g]? = some (.cells cur 41 (0, 0))) (ht : cur.toList.take (zs.length * 2) = cells2 zs) (j : Nat) (u : Value) (hj : (cells2 zs)[j]? = some u) : w.cell? ⟨g, j, none⟩ = some u := by
  have hlt : j < zs.length * 2 := by rw [← cells2_length]; exact (List.getElem?_eq_some_iff.1 hj).1
  rw [← ht, List.getElem?_take_of_lt hlt, Array.getElem?_toList] at hj
  simp [World.cell?, hh, hj]
theorem WidC.cls {w : World} {base g n cap : Nat} {zs : List Cl} (h : WidC w base (.slice (some ⟨g, 0, none⟩) n cap) zs) : Cls w (some ⟨g, 0, none⟩) n zs ∧ base ≤ g ∧ n ≤ cap ∧ zs.length = n := by
  obtain ⟨g', cap', cur, hv, hg, hc, hh, ht, _⟩ := h
  simp only [Value.slice.injEq, Option.some.injEq, Addr.mk.injEq, and_true] at hv
  obtain ⟨rfl, rfl, rfl⟩ := hv
  refine ⟨⟨rfl, .inr ⟨g, 0, rfl, block_lt hh, fun i hi => ?_⟩⟩, hg, hc, rfl⟩
  rw [Nat.zero_add]
  exact ⟨wid_cells hh ht _ _ (cells2_0 zs i hi), wid_cells hh ht _ _ (cells2_1 zs i hi)⟩
theorem splice_erase (zs : List Cl) (i : Nat) (hi : i < zs.length) : (splice (cells2 zs) (i * 2) (cells2 (zs.drop (i + 1)))).take ((zs.length - 1) * 2) = cells2 (zs.eraseIdx i) := by
  unfold splice
  rw [List.eraseIdx_eq_take_drop_succ, cells2_append, ← List.append_assoc, cells2_take]
  refine List.take_left' ?_
  rw [List.length_append, cells2_length, cells2_length, List.length_take, List.length_drop]
  omega
end Go.Proofs.YtonecelkkeakiaaGreatDoor
namespace Go.Proofs.YtonecelkkeakiaaGreatDoor
open Go.RowKit
theorem eraseIdx_len {zs : List Cl} {i : Nat} (h : i < zs.length) : (zs.eraseIdx i).length = zs.length - 1 := List.length_eraseIdx_of_lt h
theorem slc_part {P : Prop} [Decidable P] {g d : Nat} (h : P) : (if P then (some ⟨g, d, none⟩ : Option Addr) else some ⟨g, 0, none⟩) = some ⟨g, d, none⟩ := if_pos h
set_option maxRecDepth 20000 in
set_option maxHeartbeats 1000000 in
theorem c_without (s : Option Addr) (n cap : Nat) (zs : List Cl) (i : Nat) (hn : n ≤ 1048576) (hi : i < n) (w : World) (hc : Cls w s n zs) :
    Calls Tryz.prog 96 #[.slice s n cap, .int .i64 i] w fun e w' => ∃ v, e = .returned v ∧ WidC w' w.heap.size v (zs.eraseIdx i) ∧ Below w.heap.size w w' := by
  have hlen := hc.len
  obtain ⟨i0, hi0, hz0, hz1, hz2⟩ := info_parts infoC
  have hsz : (Tryz.prog.info? 41).map (·.size) = some 2 := by simp [hi0, hz1]
  have HL := Lib.hid hlen
  clear hlen
  rcases hc.lies with h0 | ⟨b, off, rfl, hbw, hcells⟩
  · omega
  have HC := Lib.hid (cls_cells HL.out hcells)
  have HO := Lib.hid (cells2_oc zs)
  have HOd := Lib.hid (cells2_oc (zs.drop (i + 1)))
  have HN := Lib.hid (show (cells2 zs).length = Nat.min n n * 2 by rw [cells2_length, HL.out]; simp)
  have HNd := Lib.hid (show (cells2 (zs.drop (i + 1))).length = Nat.min (n - (i + 1)) (n - i) * 2 by
    rw [cells2_length, List.length_drop, HL.out, show Nat.min (n - (i + 1)) (n - i) = n - (i + 1) from Nat.min_eq_left (by omega)])
  have HNz := Lib.hid (show (cells2 zs).length = n * 2 by rw [cells2_length, HL.out])
  have HNe := Lib.hid (show (cells2 (zs.drop (i + 1))).length = (n - (i + 1)) * 2 by rw [cells2_length, List.length_drop, HL.out])
  clear hcells
  have hiz : (i : Int) < (n : Int) := by omega
  have hiz1 : (i : Int) ≤ (n : Int) := by omega
  have hiz0 : (0 : Int) ≤ (i : Int) := by omega
  go_enter Tryz.func96, Tryz.ntmps96
  go_wp2_with (first
    | (at_make; refine wpList_make_full _ rfl _ _ 26 rfl w.heap.size 41 i0 (.agg #[.int .i64 0, .int .i64 0]) 2 Tryz.underlying26 hi0 hz0 hz1 .i64 .i64 _ _ n rfl rfl rfl rfl (by rw [hz2]; omega) (by unfold maxLen; omega) (Nat.le_refl _) ?_; intro w1 hown hgrow; obtain ⟨L, hgL, hLl⟩ := row_cur hown; have hB1 : Below w.heap.size w w1 := (Below.refl _ _).grown hgrow (Nat.le_refl _) (fun k h => by cases h); have HC1 := Lib.hid (fun j (v : Value) (hj : (cells2 zs)[j]? = some v) => show w1.cell? ((⟨b, off, none⟩ : Addr).add j) = some v by rw [Addr.add_lit]; exact keepc hB1 (HC.out j v hj)); clear hown hgrow)
    | (refine wpList_copyK rfl _ _ 26 26 rfl 41 2 (by decide) Tryz.underlying26 hsz _ _ _ _ _ _ rfl rfl w.heap.size 0 L 41 hgL (cells2 zs) HN.out (fun _ => ⟨rfl, _, rfl, HC1.out⟩) (by rw [HNz.out, hLl]; omega) HO.out w.heap.size w hB1 (Nat.le_refl _) ?_; intro w2 HG2 hB2)
    | fail)
  have hg2 : w2.heap[w.heap.size]? = some (.cells (cells2 zs).toArray 41 (0, 0)) := by
    have := HG2.out
    rwa [splice_all _ _ (by rw [HNz.out, hLl])] at this
  clear HG2 hgL hLl HC1 hB1 HC
  have HCd := Lib.hid (fun (W : World) (hW : W.heap[w.heap.size]? = some (.cells (cells2 zs).toArray 41 (0, 0))) j (v : Value) (hj : (cells2 (zs.drop (i + 1)))[j]? = some v) => show W.cell? ((⟨w.heap.size, (i + 1) * 2, none⟩ : Addr).add j) = some v by
    rw [Addr.add_lit]
    rw [← cells2_drop, List.getElem?_drop] at hj
    simp [World.cell?, hW, hj])
  have hs1 : (n : Int) - 1 = ((n - 1 : Nat) : Int) := by omega
  have hs2 : ((n - 1 : Nat) : Int) ≤ (n : Int) := by omega
  have hw : IntKind.i64.wrap ((i : Int) + 1) = (i : Int) + 1 := IntWalk.i64_in _ (by omega)
  by_cases hA : i + 1 < n
  · have hAz : (i : Int) + 1 < (n : Int) := by omega
    have hA1 : (i : Int) + 1 ≤ (n : Int) := by omega
    have hA0 : (0 : Int) ≤ (i : Int) + 1 := by omega
    have hAn : ¬ n = i + 1 := by omega
    have hAm : ¬ n = i := by omega
    have hAt : ((i : Int) + 1).toNat = i + 1 := by omega
    go_region_held3 (fun _ => True) (trivial) (first
      | (refine step_copyK rfl _ _ 26 26 rfl 41 2 (by decide) Tryz.underlying26 hsz _ _ _ _ _ _ rfl rfl w.heap.size (i * 2) (cells2 zs) 41 hg2 (cells2 (zs.drop (i + 1))) HNd.out (fun _ => ⟨rfl, _, rfl, HCd.out _ hg2⟩) (by rw [HNe.out, HNz.out]; omega) HOd.out w.heap.size w hB2.drew (Nat.le_refl _) ?_; intro w5 HG5 hB5)
      | fail)
    all_goals
      clear hw
      have HW := Lib.hid (show w5.heap[w.heap.size]? = some (.cells (splice (cells2 zs) (i * 2) (cells2 (zs.drop (i + 1)))).toArray 41 (0, 0)) from HG5.out)
      clear HG5 hg2
      go_wp2_with fail
      go_ret
      refine ⟨_, rfl, ⟨w.heap.size, n - 1, _, ?_, Nat.le_refl _, Nat.le_of_eq ?_, HW.out, ?_, n, ?_, by unfold maxLen; omega, ?_⟩, hB5⟩
      · rw [eraseIdx_len (by rw [HL.out]; exact hi), HL.out]
        simp
      · rw [eraseIdx_len (by rw [HL.out]; exact hi), HL.out]
      · rw [eraseIdx_len (by rw [HL.out]; exact hi)]
        simpa using splice_erase zs i (by rw [HL.out]; exact hi)
      · rw [eraseIdx_len (by rw [HL.out]; exact hi), HL.out]; omega
      · rw [List.size_toArray, length_splice _ _ _ (by rw [HNe.out, HNz.out]; omega)]; exact HNz.out
  · have hA1 : (i : Int) + 1 ≤ (n : Int) := by omega
    have hA0 : (0 : Int) ≤ (i : Int) + 1 := by omega
    have hAn : n = i + 1 := by omega
    have hAm : ¬ n = i := by omega
    have hAt : ((i : Int) + 1).toNat = i + 1 := by omega
    have hz1 : (i : Int) ≤ (i : Int) + 1 := by omega
    have hz2 : (i : Int) < (i : Int) + 1 := by omega
    have hz3 : i < i + 1 := by omega
    have hz4 : i ≤ i + 1 := by omega
    have HV := Lib.hid (show (cells2 (zs.drop (i + 1))).length = 0 by rw [HNe.out]; omega)
    go_region_held3 (fun _ => True) (trivial) (first
      | (refine step_copyK rfl _ _ 26 26 rfl 41 2 (by decide) Tryz.underlying26 hsz _ _ 1 1 0 0 rfl rfl w.heap.size (i * 2) (cells2 zs) 41 hg2 (cells2 (zs.drop (i + 1))) HV.out (fun h => absurd h (by rw [HV.out]; omega)) (by rw [HV.out, HNz.out]; omega) HOd.out w.heap.size w hB2.drew (Nat.le_refl _) ?_; intro w5 HG5 hB5)
      | fail)
    all_goals
      clear hw
      have HW := Lib.hid (show w5.heap[w.heap.size]? = some (.cells (splice (cells2 zs) (i * 2) (cells2 (zs.drop (i + 1)))).toArray 41 (0, 0)) from HG5.out)
      clear HG5 hg2
      go_wp2_with fail
      go_ret
      refine ⟨_, rfl, ⟨w.heap.size, n - 1, _, ?_, Nat.le_refl _, Nat.le_of_eq ?_, HW.out, ?_, n, ?_, by unfold maxLen; omega, ?_⟩, hB5⟩
      · rw [eraseIdx_len (by rw [HL.out]; exact hi), HL.out]
        simp [hAn]
      · rw [eraseIdx_len (by rw [HL.out]; exact hi), HL.out]
      · rw [eraseIdx_len (by rw [HL.out]; exact hi)]
        simpa using splice_erase zs i (by rw [HL.out]; exact hi)
      · rw [eraseIdx_len (by rw [HL.out]; exact hi), HL.out]; omega
      · rw [List.size_toArray, length_splice _ _ _ (by rw [HNe.out, HNz.out]; omega)]; exact HNz.out
end Go.Proofs.YtonecelkkeakiaaGreatDoor
