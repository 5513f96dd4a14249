/- The program's without: a copy of a list of classes without one. -/
import Derived.Test.YtgdpebnnmklbjaaS22
import Derived.Test.YtgdpebnnmklbjaaH1
import Derived.Test.YtgdpebnnmklbjaaCopy
import Derived.Test.YtgdpebnnmklbjaaR2
import Derived.Test.YtgdpebnnmklbjaaS5
import Derived.Test.YtgdpebnnmklbjaaStepA
namespace Go.Proofs.Ytgdpebnnmklbjaa
open Go.RowKit
/-- a list of classes in a block of its own, perhaps with room behind it -/
def WidC (w : World) (base : Nat) (v : Value) (zs : List Cl) : Prop := ∃ g cap cur, v = .slice (some ⟨g, 0, none⟩) zs.length cap ∧ base ≤ g ∧ zs.length ≤ cap ∧ w.heap[g]? = some (.cells cur 34 (0, 0)) ∧ cur.toList.take (zs.length * 2) = cells2 zs ∧ ∃ room, zs.length ≤ room ∧ room ≤ maxLen ∧ cur.size = room * 2
theorem WidC.keep {w w' : World} {base : Nat} {v : Value} {zs : List Cl} (h : WidC w base v zs) (k : Below w.heap.size w w') : WidC w' base v zs := by
  obtain ⟨g, cap, cur, hv, hg, hc, hh, r⟩ := h
  exact ⟨g, cap, cur, hv, hg, hc, by rw [k.block g (block_lt hh)]; exact hh, r⟩
theorem WidC.low {w : World} {base b2 : Nat} {v : Value} {zs : List Cl} (h : WidC w base v zs) (k : b2 ≤ base) : WidC w b2 v zs := by
  obtain ⟨g, cap, cur, hv, hg, hc, hh, r⟩ := h
  exact ⟨g, cap, cur, hv, Nat.le_trans k hg, hc, hh, r⟩
theorem OwnC.wid {w : World} {base g n cap : Nat} {zs : List Cl} (h : OwnC w base 34 (.slice (some ⟨g, 0, none⟩) n cap) zs) (hn : zs.length = n) : WidC w base (.slice (some ⟨g, 0, none⟩) n cap) zs := by
  subst hn
  have h' : w.ownsRow base 34 2 (.slice (some ⟨g, 0, none⟩) zs.length cap) zs.length (cells2 zs) := h
  rcases h'.2 with ⟨h1, _⟩ | ⟨g', cap', cur, h1, hb, hg, hn, hm, hz, ht⟩
  · simp at h1
  · simp only [Value.slice.injEq, Option.some.injEq, Addr.mk.injEq, and_true] at h1
    obtain ⟨rfl, _, rfl⟩ := h1
    exact ⟨g, cap, cur, rfl, hb, hn, hg, ht, cap, hn, hm, hz⟩
theorem WidC.own {w : World} {base : Nat} {v : Value} {zs : List Cl} (h : WidC w base v zs) : ∃ s cap room, v = .slice s zs.length cap ∧ OwnC w base 34 (.slice s zs.length room) zs := by
  obtain ⟨g, cap, cur, hv, hg, hc, hh, ht, room, r1, r2, r3⟩ := h
  exact ⟨_, cap, room, hv, by rw [cells2_length], .inr ⟨g, room, cur, rfl, hg, hh, r1, r2, r3, ht⟩⟩
theorem wid_cells {w : World} {g : Nat} {zs : List Cl} {cur : Array Value} (hh : w.heap[g]? = some (.cells cur 34 (0, 0))) (ht : cur.toList.take (zs.length * 2) = cells2 zs) (j : Nat) (u : Value) (hj : (cells2 zs)[j]? = some u) : w.cell? ⟨g, j, none⟩ = some u := by
  have hlt : j < zs.length * 2 := by rw [← cells2_length]; exact (List.getElem?_eq_some_iff.1 hj).1
  rw [← ht, List.getElem?_take_of_lt hlt, Array.getElem?_toList] at hj
  simp [World.cell?, hh, hj]
theorem WidC.cls {w : World} {base g n cap : Nat} {zs : List Cl} (h : WidC w base (.slice (some ⟨g, 0, none⟩) n cap) zs) : Cls w (some ⟨g, 0, none⟩) n zs ∧ base ≤ g ∧ n ≤ cap ∧ zs.length = n := by
  obtain ⟨g', cap', cur, hv, hg, hc, hh, ht, _⟩ := h
  simp only [Value.slice.injEq, Option.some.injEq, Addr.mk.injEq, and_true] at hv
  obtain ⟨rfl, rfl, rfl⟩ := hv
  refine ⟨⟨rfl, .inr ⟨g, 0, rfl, block_lt hh, fun i hi => ?_⟩⟩, hg, hc, rfl⟩
  rw [Nat.zero_add]
  exact ⟨wid_cells hh ht _ _ (cells2_0 zs i hi), wid_cells hh ht _ _ (cells2_1 zs i hi)⟩
theorem splice_erase (zs : List Cl) (i : Nat) (hi : i < zs.length) : (splice (cells2 zs) (i * 2) (cells2 (zs.drop (i + 1)))).take ((zs.length - 1) * 2) = cells2 (zs.eraseIdx i) := by
  unfold splice
  rw [List.eraseIdx_eq_take_drop_succ, cells2_append, ← List.append_assoc, cells2_take]
  refine List.take_left' ?_
  rw [List.length_append, cells2_length, cells2_length, List.length_take, List.length_drop]
  omega
end Go.Proofs.Ytgdpebnnmklbjaa
namespace Go.Proofs.Ytgdpebnnmklbjaa
open Go.RowKit
theorem eraseIdx_len {zs : List Cl} {i : Nat} (h : i < zs.length) : (zs.eraseIdx i).length = zs.length - 1 := List.length_eraseIdx_of_lt h
theorem slc_part {P : Prop} [Decidable P] {g d : Nat} (h : P) : (if P then (some ⟨g, d, none⟩ : Option Addr) else some ⟨g, 0, none⟩) = some ⟨g, d, none⟩ := if_pos h
end Go.Proofs.Ytgdpebnnmklbjaa
namespace Go.Proofs.Ytgdpebnnmklbjaa
open Go.RowKit Go.Shelf
attribute [local go_sem] Oper.semAt_some
theorem kept_below {w w' : World} (h : Below w.heap.size w w') : KeepsOthers w w' := ⟨h.size, fun k _ hk _ => (h.block k (Array.getElem?_eq_some_iff.1 hk).1).trans hk⟩
/-- the others cover what class i has below E -/
def spaB (zs : List Cl) (i : Nat) (E : Int) : Bool := (List.range 1001).all fun j => !decide (rAt zs i + (j : Int) * mAt zs i < E) || covB (zs.eraseIdx i) (rAt zs i + (j : Int) * mAt zs i)
theorem spaB_iff {zs : List Cl} {i : Nat} {E : Int} (h : inB (rAt zs i) (mAt zs i) = true) (hE : E ≤ 1000) : spaB zs i E = true ↔ ∀ j : Nat, rAt zs i + (j : Int) * mAt zs i < E → covB (zs.eraseIdx i) (rAt zs i + (j : Int) * mAt zs i) = true := by
  obtain ⟨m1, _, r1, _⟩ := inB_iff.1 h
  unfold spaB
  rw [List.all_eq_true]
  constructor
  · intro H j hj
    have hb := Int.mul_le_mul_of_nonneg_left m1 (Int.natCast_nonneg j)
    have := H j (List.mem_range.2 (by omega))
    simpa [hj] using this
  · intro H j _
    by_cases hj : rAt zs i + (j : Int) * mAt zs i < E
    · simp [hj, H j hj]
    · simp [hj]
theorem spa_all {zs : List Cl} {i : Nat} {E : Int} {ys : List Int} (h : inB (rAt zs i) (mAt zs i) = true) (hE : E ≤ 1000) (hy : NumAll (rAt zs i) (mAt zs i) 0 E ys) (hn : ∀ y ∈ ys, covB (zs.eraseIdx i) y = true) : spaB zs i E = true := by
  obtain ⟨m1, _, r1, r2⟩ := inB_iff.1 h
  obtain ⟨k, rfl, hk, hj⟩ := hy
  rw [spaB_iff h hE]
  intro j hjE
  simp only [numK0 r1 r2] at hk
  have hjk : j < k := by
    rcases Nat.lt_or_ge j k with h | h
    · exact h
    · have := Int.mul_le_mul_of_nonneg_right (show (k : Int) ≤ (j : Int) by omega) (show 0 ≤ mAt zs i by omega)
      omega
  have := hn (numK (rAt zs i) (mAt zs i) 0 j) (by simp only [seqTo, List.mem_map, List.mem_range]; exact ⟨j, hjk, rfl⟩)
  rwa [numK0 r1 r2] at this
theorem spa_part {zs : List Cl} {i : Nat} {E x : Int} {ys p : List Int} (h : inB (rAt zs i) (mAt zs i) = true) (hE : E ≤ 1000) (hy : NumPart (rAt zs i) (mAt zs i) 0 E ys) (hp : ys = p ++ [x]) (hx : covB (zs.eraseIdx i) x = false) : spaB zs i E = false := by
  obtain ⟨m1, _, r1, r2⟩ := inB_iff.1 h
  obtain ⟨k, rfl, hj⟩ := hy
  rw [seqTo_succ] at hp
  obtain ⟨rfl, h2⟩ := List.append_inj' hp rfl
  obtain rfl : numK (rAt zs i) (mAt zs i) 0 k = x := by simpa using h2
  have hk := hj k (by omega)
  rw [numK0 r1 r2] at hk hx
  cases hs : spaB zs i E
  · rfl
  · rw [(spaB_iff h hE).1 hs k hk] at hx; cases hx
theorem allB_erase {zs : List Cl} (h : allB zs = true) (i : Nat) : allB (zs.eraseIdx i) = true := by
  unfold allB at *
  rw [List.all_eq_true] at *
  exact fun c hc => h c (List.eraseIdx_subset hc)
end Go.Proofs.Ytgdpebnnmklbjaa
namespace Go.Proofs.Ytgdpebnnmklbjaa
open Go.RowKit
/-- the places below k of classes that are spare below E -/
def splK (zs : List Cl) (E : Int) : Nat → List Int
  | 0 => []
  | k + 1 => bif spaB zs k E then splK zs E k ++ [(k : Int)] else splK zs E k
def splL (zs : List Cl) (E : Int) : List Int := splK zs E zs.length
theorem splK_le (zs : List Cl) (E : Int) (k : Nat) : (splK zs E k).length ≤ k := by
  induction k with
  | zero => simp [splK]
  | succ k ih =>
    simp only [splK]
    cases spaB zs k E
    · simp only [cond_false]; omega
    · simp only [cond_true, List.length_append, List.length_singleton]; omega
def hspR (zs : List Cl) : List Int := bif sysB zs then splL zs (perI zs) else []
theorem hspR_t {zs : List Cl} (h : sysB zs = true) : hspR zs = splL zs (perI zs) := by simp [hspR, h]
theorem hspR_f {zs : List Cl} (h : sysB zs = false) : hspR zs = [] := by simp [hspR, h]
theorem hspR_le (zs : List Cl) : (hspR zs).length ≤ 1000 := by
  cases h : sysB zs
  · simp [hspR_f h]
  · rw [hspR_t h]
    have := splK_le zs (perI zs) zs.length
    have := (sysB_facts h).2.1
    unfold splL
    omega
end Go.Proofs.Ytgdpebnnmklbjaa
namespace Go.Proofs.Ytgdpebnnmklbjaa
open Go.RowKit
def WoPost (zs : List Cl) (i : Nat) (w : World) (e : Ending) (w' : World) : Prop := ∃ v, e = .returned v ∧ OwnC w' w.heap.size 34 v (zs.eraseIdx i) ∧ Below w.heap.size w w'
set_option maxRecDepth 20000 in
set_option maxHeartbeats 2000000 in
theorem c_l3Without (s : Option Addr) (n cap : Nat) (zs : List Cl) (i : Nat) (hn : n ≤ 1048576) (hcap : n ≤ cap) (hcb : cap ≤ 9223372036854775807) (hi : i < n) (w : World) (hc : Cls w s n zs) :
    Calls Try.prog 85 #[.slice s n cap, .int .i64 i] w (WoPost zs i w) := by
  have hlen := hc.len
  obtain ⟨i0, hi0, hz0, hz1, hz2⟩ := info_parts infoC
  rcases hc.lies with h0 | ⟨b, off, rfl, hbw, hcells⟩
  · omega
  have HC := Lib.hid (cls_at hc (by omega))
  have hcA := hc.keep (ba (Below.refl _ _) (.cells #[] 34))
  have HT := Lib.hid (cells2_oc (zs.take i))
  have HD := Lib.hid (cells2_oc (zs.drop (i + 1)))
  have HNt := Lib.hid (show (cells2 (zs.take i)).length = i * 2 by rw [cells2_length, List.length_take]; omega)
  have HNd := Lib.hid (show (cells2 (zs.drop (i + 1))).length = (n - (i + 1)) * 2 by rw [cells2_length, List.length_drop, hlen])
  have HL := Lib.hid hlen
  have HCt := Lib.hid (fun (j : Nat) (u : Value) (hj : (cells2 (zs.take i))[j]? = some u) => show (w.alloc (.cells #[] 34)).cell? ((⟨b, off, none⟩ : Addr).add j) = some u from cls_at hcA (by omega) j u (cells2_takeAt hj))
  have HCd := Lib.hid (fun (W : World) (hW : Cls W (some ⟨b, off, none⟩) n zs) (j : Nat) (u : Value) (hj : (cells2 (zs.drop (i + 1)))[j]? = some u) => show W.cell? ((⟨b, off + (i + 1) * 2, none⟩ : Addr).add j) = some u by
    rw [add_add]
    exact cls_at hW (by omega) _ u (cells2_dropAt hj))
  have hO0 : (w.alloc (.cells #[] 34)).ownsRow w.heap.size 34 2 (.slice (some ⟨w.heap.size, 0, none⟩) 0 0) 0 [] := World.ownsRow_lit w #[] 0 (Nat.le_refl _) (by unfold maxLen; omega) rfl
  have hwb : w.heap.size ≠ b := by omega
  clear hcells hlen
  have hiz0 : (0 : Int) ≤ (i : Int) := by omega
  have hiz1 : (i : Int) ≤ (cap : Int) := by omega
  have hiz2 : (i : Int) ≤ (n : Int) := by omega
  have hiz : (i : Int) < (n : Int) := by omega
  have hnc : (n : Int) ≤ (cap : Int) := by omega
  have hA1 : (i : Int) + 1 ≤ (n : Int) := by omega
  have hA0 : (0 : Int) ≤ (i : Int) + 1 := by omega
  have hw : IntKind.i64.wrap ((i : Int) + 1) = (i : Int) + 1 := IntWalk.i64_in _ (by omega)
  have hAt : ((i : Int) + 1).toNat = i + 1 := by omega
  have hc0 : ¬ cap = 0 := by omega
  have hcap2 : i + 1 < cap ∨ cap = i + 1 := by omega
  go_enter Try.func85, Try.ntmps85
  go_wp2_with fail
  by_cases hA : i + 1 < cap
  · have hAn : ¬ cap = i + 1 := by omega
    clear hcap2
    go_region_held3 (fun _ => True) (trivial) (first
      | (refine step_append_own rfl (.tmp 5) (.tmp 8) 23 rfl w.heap.size 34 i0 (.agg #[.int .i64 0, .int .i64 0]) 2 16 Try.underlying23 hi0 hz0 hz1 hz2 rfl Nat.two_pos (.slice (some ⟨w.heap.size, 0, none⟩) 0 0) 0 [] rfl hO0 ⟨b, off, none⟩ i _ (cells2 (zs.take i)) rfl HNt.out HCt.out HT.out (by unfold maxLen; omega) (by omega) (by simp) ?_; intro v5 w5 hown5 hgrow5 _; have hc5 := Cls.other (hcA.keep (by repeat (first | exact Below.refl _ _ | assumption | refine Below.drew ?_ | refine bel_drewN ?_ _ | refine ba ?_ _ | refine bt2 ?_ (by assumption) | refine Below.setCell ?_ (by simp <;> omega) _))) hgrow5 hwb; have hB5 : Below w.heap.size w w5 := Below.grown (by repeat (first | exact Below.refl _ _ | assumption | refine Below.drew ?_ | refine bel_drewN ?_ _ | refine ba ?_ _ | refine bt2 ?_ (by assumption) | refine Below.setCell ?_ (by simp <;> omega) _)) hgrow5 (by simp) (fun g e => by cases e; exact Nat.le_refl _); have HCd5 := Lib.hid (HCd.out _ hc5); have hbs5 := hB5.size)
      | (refine step_append_own rfl (.tmp 9) (.tmp 13) 23 rfl w.heap.size 34 i0 (.agg #[.int .i64 0, .int .i64 0]) 2 16 Try.underlying23 hi0 hz0 hz1 hz2 rfl Nat.two_pos v5 (0 + i) ([] ++ cells2 (zs.take i)) rfl hown5 ⟨b, off + (i + 1) * 2, none⟩ (n - (i + 1)) (cap - (i + 1)) (cells2 (zs.drop (i + 1))) rfl HNd.out HCd5.out HD.out (by unfold maxLen; omega) (by omega) hbs5 ?_; intro v7 w7 hown7 hgrow7 _)
      | fail)
    all_goals
      have hB7 : Below w.heap.size w w7 := hB5.grown hgrow7 hbs5 (fun g e => (hown5.lt g e).1)
      have hOC : OwnC w7 w.heap.size 34 v7 (zs.eraseIdx i) := by
        unfold OwnC
        rw [eraseIdx_len (by rw [HL.out]; exact hi), HL.out, List.eraseIdx_eq_take_drop_succ, cells2_append, show n - 1 = 0 + i + (n - (i + 1)) by omega]
        simpa using hown7
      clear hown5 hown7 hgrow7 hgrow5
      go_wp2_with fail
      go_ret
      exact ⟨_, rfl, hOC, hB7⟩
  · have hAn : cap = i + 1 := by omega
    have hnn : n = i + 1 := by omega
    have hz1' : (i : Int) ≤ (i : Int) + 1 := by omega
    have hz2' : (i : Int) < (i : Int) + 1 := by omega
    have hz3 : i < i + 1 := by omega
    have hz4 : i ≤ i + 1 := by omega
    clear hcap2
    go_region_held3 (fun _ => True) (trivial) (first
      | (refine step_append_own rfl (.tmp 5) (.tmp 8) 23 rfl w.heap.size 34 i0 (.agg #[.int .i64 0, .int .i64 0]) 2 16 Try.underlying23 hi0 hz0 hz1 hz2 rfl Nat.two_pos (.slice (some ⟨w.heap.size, 0, none⟩) 0 0) 0 [] rfl hO0 ⟨b, off, none⟩ i _ (cells2 (zs.take i)) rfl HNt.out HCt.out HT.out (by unfold maxLen; omega) (by omega) (by simp) ?_; intro v5 w5 hown5 hgrow5 _; have hc5 := Cls.other (hcA.keep (by repeat (first | exact Below.refl _ _ | assumption | refine Below.drew ?_ | refine bel_drewN ?_ _ | refine ba ?_ _ | refine bt2 ?_ (by assumption) | refine Below.setCell ?_ (by simp <;> omega) _))) hgrow5 hwb; have hB5 : Below w.heap.size w w5 := Below.grown (by repeat (first | exact Below.refl _ _ | assumption | refine Below.drew ?_ | refine bel_drewN ?_ _ | refine ba ?_ _ | refine bt2 ?_ (by assumption) | refine Below.setCell ?_ (by simp <;> omega) _)) hgrow5 (by simp) (fun g e => by cases e; exact Nat.le_refl _); have HCd5 := Lib.hid (HCd.out _ hc5); have hbs5 := hB5.size)
      | (refine step_append_own rfl (.tmp 9) (.tmp 13) 23 rfl w.heap.size 34 i0 (.agg #[.int .i64 0, .int .i64 0]) 2 16 Try.underlying23 hi0 hz0 hz1 hz2 rfl Nat.two_pos v5 (0 + i) ([] ++ cells2 (zs.take i)) rfl hown5 ⟨b, off, none⟩ 0 0 [] rfl rfl (by simp) (by simp) (by unfold maxLen; omega) (by omega) hbs5 ?_; intro v7 w7 hown7 hgrow7 _)
      | fail)
    all_goals
      have hB7 : Below w.heap.size w w7 := hB5.grown hgrow7 hbs5 (fun g e => (hown5.lt g e).1)
      have hOC : OwnC w7 w.heap.size 34 v7 (zs.eraseIdx i) := by
        unfold OwnC
        rw [eraseIdx_len (by rw [HL.out]; exact hi), HL.out, List.eraseIdx_eq_take_drop_succ, List.drop_eq_nil_of_le (by rw [HL.out]; omega), List.append_nil, show n - 1 = 0 + i + 0 by omega]
        simpa using hown7
      clear hown5 hown7 hgrow7 hgrow5
      go_wp2_with fail
      go_ret
      exact ⟨_, rfl, hOC, hB7⟩
end Go.Proofs.Ytgdpebnnmklbjaa
