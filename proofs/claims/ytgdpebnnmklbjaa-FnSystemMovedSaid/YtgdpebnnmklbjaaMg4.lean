/- The model's ExactSplit, as far as the drawn systems want it. -/
import Derived.Test.YtgdpebnnmklbjaaMg3
import Derived.Test.YtgdpebnnmklbjaaS4
import Derived.Test.YtgdpebnnmklbjaaMg1
import Derived.Deep.DeepCutAuto
import Derived.Deep.CutBlock
namespace Go.Proofs.Ytgdpebnnmklbjaa
open Go.RowKit
/-- no modulus of it is greater than T -/
def Small (T : Int) (zs : List Cl) : Prop := ∀ c ∈ zs, c.2 ≤ T
def splL3 (zs : List Cl) (i : Nat) (k : Int) : List Cl := zs.take i ++ parL (rAt zs i) (mAt zs i) k ++ zs.drop (i + 1)
theorem splL3_small {T k : Int} {zs : List Cl} {i : Nat} (h : Small T zs) (hk2 : k ≤ 3) (hi : i < zs.length) (h0 : 0 ≤ mAt zs i) : Small (T * 3) (splL3 zs i k) := by
  have hm : mAt zs i ≤ T := by
    have := h zs[i] (List.getElem_mem hi)
    simpa [mAt, hi] using this
  have hT : T ≤ T * 3 := by omega
  intro c hc
  unfold splL3 at hc
  rcases List.mem_append.1 hc with hc | hc
  · rcases List.mem_append.1 hc with hc | hc
    · exact Int.le_trans (h c (List.mem_of_mem_take hc)) hT
    · unfold parL at hc
      obtain ⟨j, _, rfl⟩ := List.mem_map.1 hc
      have h1 := Int.mul_le_mul_of_nonneg_left hk2 h0
      show mAt zs i * k ≤ T * 3
      omega
  · exact Int.le_trans (h c (List.mem_of_mem_drop hc)) hT
theorem splL3_length (zs : List Cl) (i : Nat) (k : Int) (hi : i < zs.length) : (splL3 zs i k).length = i + k.toNat + (zs.length - (i + 1)) := by
  simp [splL3, parL_length]; omega
def SplitPost (T : Int) (w : World) (e : Ending) (w' : World) : Prop := ∃ v ys ok, e = .returned (.tuple #[v, .bool ok]) ∧ OwnC w' w.heap.size 34 v ys ∧ Below w.heap.size w w' ∧ (ok = true → sysB ys = true ∧ Small (T * 3) ys)
set_option maxRecDepth 20000 in
set_option maxHeartbeats 4000000 in
theorem c_ExactSplit (s : Option Addr) (n cap : Nat) (zs : List Cl) (i : Nat) (k : Int) (T : Int) (hn : n ≤ 8) (hcap : n ≤ cap) (hcb : cap ≤ 9223372036854775807) (hi : i < n) (hk : 2 ≤ k) (hk3 : k ≤ 3) (hs : sysB zs = true) (hT : T ≤ 300) (hS : Small T zs) (w : World) (hc : Cls w s n zs) :
    Calls Try.prog 84 #[.slice s n cap, .int .i64 i, .int .i64 k] w (SplitPost T w) := by
  have hlen := hc.len
  have hcon := c_specSystemIn s n cap zs (by omega) w hc
  rw [hs] at hcon
  obtain ⟨_, _, ha, _, _, _⟩ := sysB_facts hs
  obtain ⟨m1, m2, r1, r2⟩ := inB_iff.1 (allB_at ha i (by omega))
  have hmT : mAt zs i ≤ T := by
    have := hS zs[i] (List.getElem_mem (by omega))
    simpa [mAt, show i < zs.length by omega] using this
  have hmk : mAt zs i * k ≤ 1000 := by
    have h1 := Int.mul_le_mul_of_nonneg_left hk3 (show 0 ≤ mAt zs i by omega)
    omega
  have hpB := parB_tt (inB_iff.2 ⟨m1, m2, r1, r2⟩) (show 1 ≤ k ∧ k ≤ 12 by omega) hmk
  have hpar := fun w1 => c_specClassParts (rAt zs i) (mAt zs i) k w1
  rw [hpB, parR_t hpB] at hpar
  have HSm := Lib.hid (splL3_small hS hk3 (by omega) (show 0 ≤ mAt zs i by omega))
  have hsl := splL3_length zs i k (by omega)
  have hsys := fun (s' : Option Addr) (n' c' : Nat) w1 (hn' : n' ≤ 1048576) (h1 : Cls w1 s' n' (splL3 zs i k)) => c_specSystemIn s' n' c' (splL3 zs i k) hn' w1 h1
  obtain ⟨i0, hi0, hz0, hz1, hz2⟩ := info_parts infoC
  rcases hc.lies with h0 | ⟨b, off, rfl, hbw, hcells⟩
  · omega
  obtain ⟨x0, x1⟩ := hcells i hi
  clear hcells hpB hmT
  have hl6 : l6B (i : Int) 0 ((n : Int) - 1) = true := by simp [l6B]; omega
  have hwn : IntKind.i64.wrap ((n : Int) - 1) = (n : Int) - 1 := IntWalk.i64_in _ (by omega)
  have hiz0 : (0 : Int) ≤ (i : Int) := by omega
  have hiz : (i : Int) < (n : Int) := by omega
  go_enter Try.func84, Try.ntmps84
  go_wp2_with (first | (go_at_call 15; refine hcon.mono ?_; rintro e w2 ⟨rfl, hb⟩; have y0 := keepc hb x0; have y1 := keepc hb x1) | (go_at_call 49; refine (c_l6In _ _ _ _).mono ?_; rintro e w1 ⟨rfl, rfl⟩))
  have hc2 := hc.keep hb
  obtain ⟨kn, rfl⟩ := Int.eq_ofNat_of_zero_le (show 0 ≤ k by omega)
  refine (hpar w2).mono ?_
  rintro e w3 ⟨v3, rfl, hO3, hb3⟩
  have hbw3 := bt2 hb hb3
  have hc3 := hc.keep hbw3
  have hlp : (parL (rAt zs i) (mAt zs i) (kn : Int)).length = kn := by rw [parL_length]; exact Int.toNat_natCast kn
  obtain ⟨g, c3, rfl, hg3⟩ : ∃ g c3, v3 = .slice (some ⟨g, 0, none⟩) kn c3 ∧ g < w3.heap.size := by
    rcases hO3.cases with ⟨_, hz⟩ | ⟨g, c3, hv, _⟩
    · rw [hz] at hlp; simp at hlp; omega
    · refine ⟨g, c3, by rw [hv, hlp], ?_⟩
      exact (World.ownsRow.lt hO3 g (by rw [hv]; rfl)).2
  have hP3 : Cls w3 (some ⟨g, 0, none⟩) kn (parL (rAt zs i) (mAt zs i) (kn : Int)) := hO3.cls.1
  have hO0 : (w3.alloc (.cells #[] 34)).ownsRow w3.heap.size 34 2 (.slice (some ⟨w3.heap.size, 0, none⟩) 0 0) 0 [] := World.ownsRow_lit w3 #[] 0 (Nat.le_refl _) (by unfold maxLen; omega) rfl
  have hcA := hc3.keep (ba (Below.refl _ _) (.cells #[] 34))
  have HT := Lib.hid (cells2_oc (zs.take i))
  have HD := Lib.hid (cells2_oc (zs.drop (i + 1)))
  have HPo := Lib.hid (cells2_oc (parL (rAt zs i) (mAt zs i) (kn : Int)))
  have HNt := Lib.hid (show (cells2 (zs.take i)).length = i * 2 by rw [cells2_length, List.length_take]; omega)
  have HNp := Lib.hid (show (cells2 (parL (rAt zs i) (mAt zs i) (kn : Int))).length = kn * 2 by rw [cells2_length, hlp])
  have HNd := Lib.hid (show (cells2 (zs.drop (i + 1))).length = (n - (i + 1)) * 2 by rw [cells2_length, List.length_drop, hlen])
  have HL := Lib.hid hlen
  have HCt := Lib.hid (fun (j : Nat) (u : Value) (hj : (cells2 (zs.take i))[j]? = some u) => show (w3.alloc (.cells #[] 34)).cell? ((⟨b, off, none⟩ : Addr).add j) = some u from cls_at hcA (by omega) j u (cells2_takeAt hj))
  have HCd := Lib.hid (fun (W : World) (hW : Cls W (some ⟨b, off, none⟩) n zs) (j : Nat) (u : Value) (hj : (cells2 (zs.drop (i + 1)))[j]? = some u) => show W.cell? ((⟨b, off + (i + 1) * 2, none⟩ : Addr).add j) = some u by
    rw [add_add]
    exact cls_at hW (by omega) _ u (cells2_dropAt hj))
  have hkn : kn ≤ 3 := by omega
  clear hlen hwn hl6
  have hiz1 : (i : Int) ≤ (cap : Int) := by omega
  have hiz2 : (i : Int) ≤ (n : Int) := by omega
  have hnc : (n : Int) ≤ (cap : Int) := by omega
  have hA1 : (i : Int) + 1 ≤ (n : Int) := by omega
  have hA0 : (0 : Int) ≤ (i : Int) + 1 := by omega
  have hw : IntKind.i64.wrap ((i : Int) + 1) = (i : Int) + 1 := IntWalk.i64_in _ (by omega)
  have hAt : ((i : Int) + 1).toNat = i + 1 := by omega
  have hc0 : ¬ cap = 0 := by omega
  have hcap2 : i + 1 < cap ∨ cap = i + 1 := by omega
  go_wp2_with fail
  by_cases hA : i + 1 < cap
  · have hAn : ¬ cap = i + 1 := by omega
    clear hcap2
    go_region_held3 (fun _ => True) (trivial) (first
      | (refine step_append_own rfl (.tmp 32) (.tmp 35) 23 rfl w3.heap.size 34 i0 (.agg #[.int .i64 0, .int .i64 0]) 2 16 Try.underlying23 hi0 hz0 hz1 hz2 rfl Nat.two_pos (.slice (some ⟨w3.heap.size, 0, none⟩) 0 0) 0 [] rfl hO0 ⟨b, off, none⟩ i _ (cells2 (zs.take i)) rfl HNt.out HCt.out HT.out (by unfold maxLen; omega) (by omega) (by simp) ?_; intro v5 w5 hown5 hgrow5 _; have hB5 : Below w3.heap.size w3 w5 := Below.grown (by repeat (first | exact Below.refl _ _ | assumption | refine Below.drew ?_ | refine bel_drewN ?_ _ | refine ba ?_ _ | refine bt2 ?_ (by assumption) | refine Below.setCell ?_ (by simp <;> omega) _)) hgrow5 (by simp) (fun g e => by cases e; exact Nat.le_refl _); have HP5 := Lib.hid (cls_at (hP3.keep hB5) (by omega)); have hbs5 := hB5.size)
      | (refine step_append_own rfl (.tmp 36) (.tmp 37) 23 rfl w3.heap.size 34 i0 (.agg #[.int .i64 0, .int .i64 0]) 2 16 Try.underlying23 hi0 hz0 hz1 hz2 rfl Nat.two_pos v5 (0 + i) ([] ++ cells2 (zs.take i)) rfl hown5 ⟨g, 0, none⟩ kn c3 (cells2 (parL (rAt zs i) (mAt zs i) (kn : Int))) rfl HNp.out HP5.out HPo.out (by unfold maxLen; omega) (by omega) hbs5 ?_; intro v7 w7 hown7 hgrow7 _; have hB7 : Below w3.heap.size w3 w7 := hB5.grown hgrow7 hbs5 (fun g e => (hown5.lt g e).1); have HD7 := Lib.hid (HCd.out _ (hc3.keep hB7)); have hbs7 := hB7.size)
      | (refine step_append_own rfl (.tmp 38) (.tmp 42) 23 rfl w3.heap.size 34 i0 (.agg #[.int .i64 0, .int .i64 0]) 2 16 Try.underlying23 hi0 hz0 hz1 hz2 rfl Nat.two_pos v7 (0 + i + kn) ([] ++ cells2 (zs.take i) ++ cells2 (parL (rAt zs i) (mAt zs i) (kn : Int))) rfl hown7 ⟨b, off + (i + 1) * 2, none⟩ (n - (i + 1)) (cap - (i + 1)) (cells2 (zs.drop (i + 1))) rfl HNd.out HD7.out HD.out (by unfold maxLen; omega) (by omega) hbs7 ?_; intro v9 w9 hown9 hgrow9 _)
      | fail)
    all_goals
      have hB9 : Below w3.heap.size w3 w9 := hB7.grown hgrow9 hbs7 (fun g e => (hown7.lt g e).1)
      have hOC : OwnC w9 w3.heap.size 34 v9 (splL3 zs i (kn : Int)) := by
        unfold OwnC
        rw [hsl, HL.out, show i + (kn : Int).toNat + (n - (i + 1)) = 0 + i + kn + (n - (i + 1)) by omega]
        unfold splL3
        rw [cells2_append, cells2_append]
        simpa using hown9
      clear hown5 hown7 hown9 hgrow5 hgrow7 hgrow9
      obtain ⟨s9, c9, rfl, hC9, _⟩ := hOC.spread
      have hBw9 := bt2 hbw3 hB9
      have hOw := OwnC.low hOC hbw3.size
      have hcs := hsys s9 _ c9 w9 (by rw [hsl, HL.out]; omega) hC9
      have hSm := HSm.out
      clear hsys hpar hcon HSm HT HD HPo HNt HNp HNd HL HCt HCd hsl x0 x1 y0 y1 hS hP3 hO3 hO0 hcA hc2 hc3 hc HP5 HD7 hlp hB5 hB7 hB9 hbs5 hbs7 hmk m1 m2 r1 r2 ha hs
      generalize splL3 zs i (kn : Int) = Y at *
      generalize Y.length = LY at *
      clear hOC hC9 hi0 hz0 hz1 hz2 hw hAt
      cases hq : sysB Y
      · rw [hq] at hcs
        go_wp2_with (go_at_call 15; refine hcs.mono ?_; rintro e wa ⟨rfl, hba⟩)
        go_ret2
        exact ⟨_, [], false, rfl, World.ownsRow_lit wa #[] 0 (bt2 hBw9 hba).size (by unfold maxLen; omega) rfl, ba (bt2 hBw9 hba) _, fun h => by cases h⟩
      · rw [hq] at hcs
        go_wp2_with (go_at_call 15; refine hcs.mono ?_; rintro e wa ⟨rfl, hba⟩)
        go_ret2
        exact ⟨_, Y, true, rfl, hOw.keep hba, bt2 hBw9 hba, fun _ => ⟨hq, hSm⟩⟩
  · have hAn : cap = i + 1 := by omega
    have hnn : n = i + 1 := by omega
    have hz1' : (i : Int) ≤ (i : Int) + 1 := by omega
    have hz2' : (i : Int) < (i : Int) + 1 := by omega
    have hz3 : i < i + 1 := by omega
    have hz4 : i ≤ i + 1 := by omega
    clear hcap2
    go_region_held3 (fun _ => True) (trivial) (first
      | (refine step_append_own rfl (.tmp 32) (.tmp 35) 23 rfl w3.heap.size 34 i0 (.agg #[.int .i64 0, .int .i64 0]) 2 16 Try.underlying23 hi0 hz0 hz1 hz2 rfl Nat.two_pos (.slice (some ⟨w3.heap.size, 0, none⟩) 0 0) 0 [] rfl hO0 ⟨b, off, none⟩ i _ (cells2 (zs.take i)) rfl HNt.out HCt.out HT.out (by unfold maxLen; omega) (by omega) (by simp) ?_; intro v5 w5 hown5 hgrow5 _; have hB5 : Below w3.heap.size w3 w5 := Below.grown (by repeat (first | exact Below.refl _ _ | assumption | refine Below.drew ?_ | refine bel_drewN ?_ _ | refine ba ?_ _ | refine bt2 ?_ (by assumption) | refine Below.setCell ?_ (by simp <;> omega) _)) hgrow5 (by simp) (fun g e => by cases e; exact Nat.le_refl _); have HP5 := Lib.hid (cls_at (hP3.keep hB5) (by omega)); have hbs5 := hB5.size)
      | (refine step_append_own rfl (.tmp 36) (.tmp 37) 23 rfl w3.heap.size 34 i0 (.agg #[.int .i64 0, .int .i64 0]) 2 16 Try.underlying23 hi0 hz0 hz1 hz2 rfl Nat.two_pos v5 (0 + i) ([] ++ cells2 (zs.take i)) rfl hown5 ⟨g, 0, none⟩ kn c3 (cells2 (parL (rAt zs i) (mAt zs i) (kn : Int))) rfl HNp.out HP5.out HPo.out (by unfold maxLen; omega) (by omega) hbs5 ?_; intro v7 w7 hown7 hgrow7 _; have hB7 : Below w3.heap.size w3 w7 := hB5.grown hgrow7 hbs5 (fun g e => (hown5.lt g e).1); have HD7 := Lib.hid (HCd.out _ (hc3.keep hB7)); have hbs7 := hB7.size)
      | (refine step_append_own rfl (.tmp 38) (.tmp 42) 23 rfl w3.heap.size 34 i0 (.agg #[.int .i64 0, .int .i64 0]) 2 16 Try.underlying23 hi0 hz0 hz1 hz2 rfl Nat.two_pos v7 (0 + i + kn) ([] ++ cells2 (zs.take i) ++ cells2 (parL (rAt zs i) (mAt zs i) (kn : Int))) rfl hown7 ⟨b, off, none⟩ 0 0 [] rfl rfl (by simp) (by simp) (by unfold maxLen; omega) (by omega) hbs7 ?_; intro v9 w9 hown9 hgrow9 _)
      | fail)
    all_goals
      have hB9 : Below w3.heap.size w3 w9 := hB7.grown hgrow9 hbs7 (fun g e => (hown7.lt g e).1)
      have hOC : OwnC w9 w3.heap.size 34 v9 (splL3 zs i (kn : Int)) := by
        unfold OwnC
        rw [hsl, HL.out, show i + (kn : Int).toNat + (n - (i + 1)) = 0 + i + kn + 0 by omega]
        unfold splL3
        rw [cells2_append, cells2_append]
        rw [List.drop_eq_nil_of_le (show zs.length ≤ i + 1 by rw [HL.out]; omega)]; simpa [cells2] using hown9
      clear hown5 hown7 hown9 hgrow5 hgrow7 hgrow9
      obtain ⟨s9, c9, rfl, hC9, _⟩ := hOC.spread
      have hBw9 := bt2 hbw3 hB9
      have hOw := OwnC.low hOC hbw3.size
      have hcs := hsys s9 _ c9 w9 (by rw [hsl, HL.out]; omega) hC9
      have hSm := HSm.out
      clear hsys hpar hcon HSm HT HD HPo HNt HNp HNd HL HCt HCd hsl x0 x1 y0 y1 hS hP3 hO3 hO0 hcA hc2 hc3 hc HP5 HD7 hlp hB5 hB7 hB9 hbs5 hbs7 hmk m1 m2 r1 r2 ha hs
      generalize splL3 zs i (kn : Int) = Y at *
      generalize Y.length = LY at *
      clear hOC hC9 hi0 hz0 hz1 hz2 hw hAt
      cases hq : sysB Y
      · rw [hq] at hcs
        go_wp2_with (go_at_call 15; refine hcs.mono ?_; rintro e wa ⟨rfl, hba⟩)
        go_ret2
        exact ⟨_, [], false, rfl, World.ownsRow_lit wa #[] 0 (bt2 hBw9 hba).size (by unfold maxLen; omega) rfl, ba (bt2 hBw9 hba) _, fun h => by cases h⟩
      · rw [hq] at hcs
        go_wp2_with (go_at_call 15; refine hcs.mono ?_; rintro e wa ⟨rfl, hba⟩)
        go_ret2
        exact ⟨_, Y, true, rfl, hOw.keep hba, bt2 hBw9 hba, fun _ => ⟨hq, hSm⟩⟩
end Go.Proofs.Ytgdpebnnmklbjaa
namespace Go.Proofs.Ytgdpebnnmklbjaa
open Go.RowKit
theorem OwnC.oth {w w' : World} {B base : Nat} {e : TypeId} {v : Value} {zs : List Cl} (h : OwnC w base e v zs) (k : Oth B w w') (hb : B < base) : OwnC w' base e v zs := by
  obtain ⟨h1, h2⟩ := h
  refine ⟨h1, ?_⟩
  rcases h2 with h2 | ⟨g, cap, cur, hv, hg, hh, r⟩
  · exact .inl h2
  · exact .inr ⟨g, cap, cur, hv, hg, by rw [k.block g (block_lt hh) (by omega)]; exact hh, r⟩
theorem OwnC.all {w : World} {base : Nat} {e : TypeId} {v : Value} {zs : List Cl} (h : OwnC w base e v zs) : ∃ s cap, v = .slice s zs.length cap ∧ Cls w s zs.length zs ∧ zs.length ≤ cap ∧ cap ≤ 9223372036854775807 := by
  obtain ⟨s3, cap3, rfl, hC3, _⟩ := h.spread
  refine ⟨s3, cap3, rfl, hC3, ?_⟩
  rcases h.2 with ⟨h1, h2⟩ | ⟨g', cap', cur, h1, _, _, h3, h4, _⟩
  · simp only [Value.slice.injEq] at h1
    omega
  · simp only [Value.slice.injEq] at h1
    unfold maxLen at h4
    omega
theorem Oth.grown {B : Nat} {a w w' : World} {row : Option Nat} (h : Oth B a w) (hg : w.grownBy w' row) (hr : ∀ j, row = some j → a.heap.size ≤ j) : Oth B a w' :=
  ⟨hg.os.trans h.os, hg.tape.trans h.tape, hg.output.trans h.output, Nat.le_trans h.size hg.size, fun k hk hne => (hg.block k (Nat.lt_of_lt_of_le hk h.size) (fun e => by have := hr k e.symm; omega)).trans (h.block k hk hne)⟩
theorem Rd.grown {b0 : Nat} {w w' : World} {B : Nat} {s : Option Addr} {len p : Nat} {row : Option Nat} (h : Rd b0 w B s len p) (hg : w.grownBy w' row) (hr : ∀ j, row = some j → B < j) : Rd b0 w' B s len p :=
  h.keep fun k hk => hg.block k (Nat.lt_of_le_of_lt hk h.lt) (fun e => by have := hr k e.symm; omega)
/-- a drawn list, and the reader behind it -/
def Dr (b0 B : Nat) (s : Option Addr) (len p : Nat) (w : World) (v : Value) (wx : World) : Prop := ∃ zs p', OwnC wx w.heap.size 34 v zs ∧ 1 ≤ zs.length ∧ zs.length ≤ 8 ∧ Rd b0 wx B s len p' ∧ p' ≤ p ∧ Oth B w wx
/-- a drawn system, and the reader behind it -/
def DrS (T : Int) (b0 B : Nat) (s : Option Addr) (len p : Nat) (w : World) (v : Value) (wx : World) : Prop := ∃ zs p', OwnC wx w.heap.size 34 v zs ∧ sysB zs = true ∧ Small T zs ∧ Rd b0 wx B s len p' ∧ p' ≤ p ∧ Oth B w wx
theorem DrS.dr {T : Int} {b0 B : Nat} {s : Option Addr} {len p : Nat} {w : World} {v : Value} {wx : World} (h : DrS T b0 B s len p w v wx) : Dr b0 B s len p w v wx := by
  obtain ⟨zs, p', h1, h2, _, h3⟩ := h
  obtain ⟨l1, l2, _⟩ := sysB_facts h2
  exact ⟨zs, p', h1, l1, l2, h3⟩
theorem Dr.more {b0 B : Nat} {s : Option Addr} {len p q : Nat} {w : World} {v : Value} {wx : World} (h : Dr b0 B s len p w v wx) (hq : p ≤ q) : Dr b0 B s len q w v wx := by
  obtain ⟨zs, p', h1, h2, h3, h4, h5, h6⟩ := h
  exact ⟨zs, p', h1, h2, h3, h4, by omega, h6⟩
theorem Cls.at_len {w : World} {s : Option Addr} {n m : Nat} {zs : List Cl} (h : Cls w s m zs) (hn : zs.length = n) : Cls w s n zs := by
  have := h.len
  have e : m = n := by omega
  exact e ▸ h
theorem sys_one : sysB [(0, 1)] = true := by decide +kernel
def DrawnL (k : Nat) (b0 B : Nat) (s : Option Addr) (len p : Nat) (w : World) (e : Ending) (w' : World) : Prop := ∃ v zs p', e = .returned v ∧ OwnC w' w.heap.size 34 v zs ∧ zs.length ≤ 9 ∧ Rd b0 w' B s len p' ∧ p' ≤ p + k ∧ Oth B w w'
set_option maxRecDepth 20000 in
set_option maxHeartbeats 4000000 in
theorem c_l91System {b0 : Nat} {w : World} {B : Nat} {s : Option Addr} {len p : Nat} (h : Rd b0 w B s len p) (hp : p + 40 < 1000000) :
    Calls Try.prog 66 #[.pointer (some ⟨B, 0, none⟩)] w (DrawnL 40 b0 B s len p w) := by
  have hB := h.lt
  obtain ⟨i0, hi0, hz0, hz1, hz2⟩ := info_parts infoC
  have hO1 : OwnC (w.alloc (.cells #[.int .i64 0, .int .i64 1] 34)) w.heap.size 34 (.slice (some ⟨w.heap.size, 0, none⟩) 1 1) [(0, 1)] := World.ownsRow_lit w #[.int .i64 0, .int .i64 1] 1 (Nat.le_refl _) (by unfold maxLen; omega) rfl
  have hq1 : Oth B w (w.alloc (.cells #[.int .i64 0, .int .i64 1] 34)) := (Oth.refl B w).alloc _
  go_enter Try.func66, Try.ntmps66
  go_wp2_with fail
  refine (c_pickR 4 (by omega) (by omega) (h.alloc _) (by omega)).mono ?_
  rintro e w2 ⟨kd, k1, k2, rfl, hR2, hP2⟩
  have hD2 : DrS 1 b0 B s len (p + 1) w (.slice (some ⟨w.heap.size, 0, none⟩) 1 1) w2 := ⟨_, _, hO1.oth hP2 hB, sys_one, fun c hc => by simp at hc; subst hc; exact Int.le_refl _, hR2, Nat.le_refl _, hq1.trans hP2⟩
  clear hO1 hR2 hP2 hq1 h
  go_upto_if 16 with fail
  go_cut [3, 5, 6, 7] (fun v _ _ _ wx => Dr b0 B s len (p + 7) w v wx)
  case first =>
    by_cases hk : 1 < kd
    · rw [show decide (1 < kd) = true from decide_eq_true hk]
      go_wp2_with fail
      go_loopw [3, 5] (fun v i wr => ∃ j : Nat, j ≤ 3 ∧ i = .int .i64 j ∧ DrS (3 ^ j) b0 B s len (p + 1 + 2 * j) w v wr) (fun _ i _ => 3 - (intOf i).toNat)
      case atStart => exact ⟨0, by omega, rfl, hD2⟩
      case round =>
        obtain ⟨j, hj, rfl, hD⟩ := hrel
        by_cases hlt : j < 3
        · obtain ⟨zs, p', hO, hsy, hSm, hR, hp', hQ⟩ := hD
          obtain ⟨so, co, rfl, hC, hc1, hc2⟩ := hO.all
          obtain ⟨l1, l2, _⟩ := sysB_facts hsy
          obtain ⟨n, hn⟩ : ∃ n, zs.length = n := ⟨_, rfl⟩
          rw [hn] at hO hC hc1 l1 l2 ⊢
          obtain ⟨T, hT1, hT2, hT3, hT4⟩ : ∃ T : Int, (3 : Int) ^ j = T ∧ (3 : Int) ^ (j + 1) = T * 3 ∧ 0 ≤ T ∧ T ≤ 300 := by
            refine ⟨3 ^ j, rfl, Int.pow_succ .., ?_⟩
            have : j = 0 ∨ j = 1 ∨ j = 2 := by omega
            rcases this with rfl | rfl | rfl <;> decide
          rw [hT1] at hSm
          go_wp2_with fail
          refine (c_pickR (n : Int) (by omega) (by omega) hR (by omega)).mono ?_
          rintro e w3 ⟨a, a1, a2, rfl, hR3, hQ3⟩
          go_wp2_with fail
          refine (c_pickR 3 (by omega) (by omega) hR3 (by omega)).mono ?_
          rintro e w4 ⟨b, b1, b2, rfl, hR4, hQ4⟩
          obtain ⟨an, rfl⟩ := Int.eq_ofNat_of_zero_le a1
          have hQ4' := hQ.trans (hQ3.trans hQ4)
          have hO4 := (hO.oth hQ3 hB).oth hQ4 hB
          have hsp := c_ExactSplit so n co zs an (2 + b / 2) T (by omega) hc1 hc2 (by omega) (by omega) (by omega) hsy hT4 hSm w4 ((spreadC hO4).at_len hn)
          have hB4 := hR4.lt
          go_wp2_with fail
          refine hsp.mono ?_
          rintro e w5 ⟨v5, ys, ok, rfl, hO5, hb5, hok⟩
          have hR5 := hR4.below hb5
          have hQ5 := hQ4'.trans (Oth.of_below hb5)
          have hO45 := hO4.keep hb5
          have HT := Lib.hid hT2
          clear hsp hQ hQ3 hQ4 hR hR3 hR4 hO hT1 hT2
          cases ok
          · clear hok
            go_wp2_with fail
            go_roundw
            case rel =>
              have hS5 : Small (3 ^ (j + 1)) zs := fun c hc => by have := hSm c hc; rw [HT.out]; omega
              exact ⟨j + 1, by omega, by go_num, zs, _, hO45, hsy, hS5, hR5, by omega, hQ5⟩
            case measure => simp [intOf]; omega
          · obtain ⟨hy1, hy2⟩ := hok rfl
            have hO5' := hO5.low hQ4'.size
            go_wp2_with fail
            go_roundw
            case rel =>
              have hS5 : Small (3 ^ (j + 1)) ys := by rw [HT.out]; exact hy2
              exact ⟨j + 1, by omega, by go_num, ys, _, hO5', hy1, hS5, hR5, by omega, hQ5⟩
            case measure => simp [intOf]; omega
        · have hj3 : j = 3 := by omega
          subst hj3
          have hD' := (DrS.dr hD).more (show p + 1 + 2 * 3 ≤ p + 7 by omega)
          clear hD
          go_wp2_with fail
          go_meet
          case rel => exact hD'
    · have hD' := (DrS.dr hD2).more (show p + 1 ≤ p + 7 by omega)
      go_wp2_with fail
      go_meet
      case rel => exact hD'
  case rest =>
    clear hD2
    go_upto_block 2 with fail
    go_cut [3, 8, 9, 10] (fun v _ _ _ wx => Dr b0 B s len (p + 18) w v wx)
    case first =>
      have hk : kd = 0 ∨ kd = 1 ∨ kd = 2 ∨ kd = 3 := by omega
      rcases hk with rfl | rfl | rfl | rfl
      · obtain ⟨zs, p', hO, l1, l2, hR, hp', hQ⟩ := hcut
        have hD : Dr b0 B s len (p + 18) w (.slice (some ⟨wc.heap.size, 0, none⟩) 5 5) (wc.alloc (.cells #[.int .i64 0, .int .i64 2, .int .i64 0, .int .i64 3, .int .i64 1, .int .i64 4, .int .i64 5, .int .i64 6, .int .i64 7, .int .i64 12] 34)) :=
          ⟨[(0, 2), (0, 3), (1, 4), (5, 6), (7, 12)], p', World.ownsRow_lit wc #[.int .i64 0, .int .i64 2, .int .i64 0, .int .i64 3, .int .i64 1, .int .i64 4, .int .i64 5, .int .i64 6, .int .i64 7, .int .i64 12] 5 hQ.size (by unfold maxLen; omega) rfl, by simp, by simp, hR.alloc _, by omega, hQ.alloc _⟩
        clear hO hR hQ
        go_wp2_with fail
        go_meet
        case rel => exact hD
      · obtain ⟨zs, p', hO, l1, l2, hR, hp', hQ⟩ := hcut
        have hO1 : OwnC (wc.alloc (.cells #[] 34)) w.heap.size 34 (.slice (some ⟨wc.heap.size, 0, none⟩) 0 0) [] := World.ownsRow_lit wc #[] 0 hQ.size (by unfold maxLen; omega) rfl
        have hQ1 := hQ.alloc (.cells #[] 34)
        have hR1 := hR.alloc (.cells #[] 34)
        clear hO hR hQ
        go_wp2_with fail
        refine (c_pickR 5 (by omega) (by omega) hR1 (by omega)).mono ?_
        rintro e w3 ⟨m, m1, m2, rfl, hR3, hQ3⟩
        have hO3 := hO1.oth hQ3 hB
        have hQ4 := hQ1.trans hQ3
        obtain ⟨mn, rfl⟩ := Int.eq_ofNat_of_zero_le m1
        clear hO1 hQ1 hQ3 hR1
        go_wp2_with fail
        go_loopw [3, 9] (fun v i wr => ∃ k : Nat, k ≤ mn + 1 ∧ i = .int .i64 k ∧ ∃ ys q, OwnC wr w.heap.size 34 v ys ∧ ys.length = k ∧ Rd b0 wr B s len q ∧ q ≤ p + 8 + 2 * k ∧ Oth B w wr) (fun _ i _ => mn + 1 - (intOf i).toNat)
        case atStart => exact ⟨0, by omega, rfl, [], _, hO3, rfl, hR3, by omega, hQ4⟩
        case round =>
          obtain ⟨k, hk, rfl, ys, q, hO, hyl, hR, hq, hQ⟩ := hrel
          by_cases hlt : k < mn + 1
          · have hlz : (k : Int) < 1 + (mn : Int) := by omega
            clear hO3 hR3 hQ4
            go_wp2_with fail
            refine (c_pickR 6 (by omega) (by omega) (hR.alloc _) (by omega)).mono ?_
            rintro e w4 ⟨x, x1, x2, rfl, hR4, hQ4⟩
            have hBr := hR.lt
            obtain ⟨M, M1, M2, hcx⟩ : ∃ M : Int, 1 ≤ M ∧ M ≤ 12 ∧ w4.cell? ⟨wr.heap.size, x.toNat, none⟩ = some (.int .i64 M) := by
              have hx : x = 0 ∨ x = 1 ∨ x = 2 ∨ x = 3 ∨ x = 4 ∨ x = 5 := by omega
              rcases hx with rfl | rfl | rfl | rfl | rfl | rfl
              · exact ⟨2, by omega, by omega, oc hQ4 hBr 0⟩
              · exact ⟨3, by omega, by omega, oc hQ4 hBr 1⟩
              · exact ⟨4, by omega, by omega, oc hQ4 hBr 2⟩
              · exact ⟨6, by omega, by omega, oc hQ4 hBr 3⟩
              · exact ⟨8, by omega, by omega, oc hQ4 hBr 4⟩
              · exact ⟨12, by omega, by omega, oc hQ4 hBr 5⟩
            have hO4 := (hO.keep (ba (Below.refl _ _) (.cells #[.int .i64 2, .int .i64 3, .int .i64 4, .int .i64 6, .int .i64 8, .int .i64 12] 3))).oth hQ4 hB
            have hQ4' := (hQ.alloc (.cells #[.int .i64 2, .int .i64 3, .int .i64 4, .int .i64 6, .int .i64 8, .int .i64 12] 3)).trans hQ4
            clear hO hR hQ hQ4 hBr
            go_wp2_with fail
            refine (c_pickR M (by omega) (by omega) hR4 (by omega)).mono ?_
            rintro e w5 ⟨r, r1, r2, rfl, hR5, hQ5⟩
            have hO5 : w5.ownsRow w.heap.size 34 2 u3 k (cells2 ys) := by
              have := hO4.oth hQ5 hB
              unfold OwnC at this
              rwa [hyl] at this
            have hQ5' := hQ4'.trans hQ5
            have hs5 := hQ5'.size
            clear hO4 hQ5 hR4 hQ4'
            go_wp2_with (at_builtin; refine wpList_append_own _ rfl _ _ 23 rfl w.heap.size 34 i0 (.agg #[.int .i64 0, .int .i64 0]) 2 16 Try.underlying23 hi0 hz0 hz1 hz2 rfl (by decide) u3 k _ rfl (hO5.alloc _) ⟨w5.heap.size, 0, none⟩ 1 1 [.int .i64 r, .int .i64 M] rfl rfl (two_new w5 _ _ _) (by simp [Value.oneCell']) (by unfold maxLen; omega) (by omega) (by simp; omega) ?_; intro v7 w7 hown7 hgrow7 _)
            have hR7 := (hR5.alloc (.cells #[.int .i64 r, .int .i64 M] 34)).grown hgrow7 (fun j e => by have := (hO5.lt j e).1; omega)
            have hQ7 := (hQ5'.alloc (.cells #[.int .i64 r, .int .i64 M] 34)).grown hgrow7 (fun j e => (hO5.lt j e).1)
            have hO7 : OwnC w7 w.heap.size 34 v7 (ys ++ [(r, M)]) := by
              unfold OwnC
              rw [cells2_append, List.length_append, hyl]
              exact hown7
            have hy7 : (ys ++ [(r, M)]).length = k + 1 := by rw [List.length_append, hyl]; rfl
            clear hown7 hgrow7 hO5 hR5 hQ5'
            go_roundw
            case rel => exact ⟨k + 1, by omega, by go_num, _, _, hO7, hy7, hR7, by omega, hQ7⟩
            case measure => simp [intOf]; omega
          · have hD : Dr b0 B s len (p + 18) w u3 wr := ⟨ys, q, hO, by omega, by omega, hR, by omega, hQ⟩
            have hlz : ¬ (k : Int) < 1 + (mn : Int) := by omega
            clear hO hR hQ hO3 hR3 hQ4
            go_wp2_with fail
            go_meet
            case rel => exact hD
      · obtain ⟨zs, p', hO, l1, l2, hR, hp', hQ⟩ := hcut
        obtain ⟨so, co, rfl, hC, hc1, hc2⟩ := hO.all
        obtain ⟨n, hn⟩ : ∃ n, zs.length = n := ⟨_, rfl⟩
        rw [hn] at hO hC hc1 l1 l2 ⊢
        have hD : Dr b0 B s len (p + 18) w (.slice so n co) wc := ⟨zs, p', hO, by omega, by omega, hR, by omega, hQ⟩
        by_cases h1 : 1 < n
        · have h1z : (1 : Int) < (n : Int) := by omega
          go_wp2_with fail
          refine (c_pickR 2 (by omega) (by omega) hR (by omega)).mono ?_
          rintro e w3 ⟨x, x1, x2, rfl, hR3, hQ3⟩
          have hO3 := hO.oth hQ3 hB
          have hQ3' := hQ.trans hQ3
          clear hO hR hQ hQ3 hC hD
          have hx : x = 0 ∨ x = 1 := by omega
          rcases hx with rfl | rfl
          · go_wp2_with fail
            refine (c_pickR (n : Int) (by omega) (by omega) hR3 (by omega)).mono ?_
            rintro e w4 ⟨y, y1, y2, rfl, hR4, hQ4⟩
            obtain ⟨yn, rfl⟩ := Int.eq_ofNat_of_zero_le y1
            have hO4 := hO3.oth hQ4 hB
            have hQ4' := hQ3'.trans hQ4
            have hwo := c_l3Without so n co zs yn (by omega) hc1 hc2 (by omega) w4 ((spreadC hO4).at_len hn)
            clear hO3 hQ3' hR3 hQ4
            go_wp2_with fail
            refine hwo.mono ?_
            rintro e w5 ⟨v5, rfl, hO5, hb5⟩
            have hD5 : Dr b0 B s len (p + 18) w v5 w5 := ⟨_, _, hO5.low hQ4'.size, by rw [eraseIdx_len (by omega)]; omega, by rw [eraseIdx_len (by omega)]; omega, hR4.below hb5, by omega, hQ4'.trans (Oth.of_below hb5)⟩
            clear hwo hO4 hQ4' hR4 hO5 hb5
            go_wp2_with fail
            go_meet
            case rel => exact hD5
          · have hD3 : Dr b0 B s len (p + 18) w (.slice so n co) w3 := ⟨zs, _, hO3, by omega, by omega, hR3, by omega, hQ3'⟩
            clear hO3 hR3 hQ3'
            go_wp2_with fail
            go_meet
            case rel => exact hD3
        · have hn1 : n = 1 := by omega
          subst hn1
          clear hO hC hR hQ
          go_wp2_with fail
          go_meet
          case rel => exact hD
      · have hD := hcut.more (show p + 7 ≤ p + 18 by omega)
        go_wp2_with fail
        go_meet
        case rel => exact hD
    case rest =>
      obtain ⟨zs, p', hO, l1, l2, hR, hp', hQ⟩ := hcut
      obtain ⟨so, co, rfl, hC, hc1, hc2⟩ := hO.all
      obtain ⟨n, hn⟩ : ∃ n, zs.length = n := ⟨_, rfl⟩
      rw [hn] at hO hC hc1 l1 l2 ⊢
      clear hC
      go_wp2_with fail
      refine (c_pickR 3 (by omega) (by omega) hR (by omega)).mono ?_
      rintro e w3 ⟨x, x1, x2, rfl, hR3, hQ3⟩
      have hO3 := hO.oth hQ3 hB
      have hQ3' := hQ.trans hQ3
      clear hO hR hQ hQ3
      by_cases hx : x = 0
      · subst hx
        by_cases h1 : 1 < n
        · have h1z : (1 : Int) < (n : Int) := by omega
          go_wp2_with fail
          refine (c_pickR (n : Int) (by omega) (by omega) hR3 (by omega)).mono ?_
          rintro e w4 ⟨y, y1, y2, rfl, hR4, hQ4⟩
          obtain ⟨yn, rfl⟩ := Int.eq_ofNat_of_zero_le y1
          have hO4 := hO3.oth hQ4 hB
          have hQ4' := hQ3'.trans hQ4
          have hwo := c_l3Without so n co zs yn (by omega) hc1 hc2 (by omega) w4 ((spreadC hO4).at_len hn)
          clear hO3 hQ3' hR3 hQ4
          go_wp2_with fail
          refine hwo.mono ?_
          rintro e w5 ⟨v5, rfl, hO5w, hb5⟩
          have hO5 := hO5w.low hQ4'.size
          have hR5e := hR4.below hb5
          have hQ5e := hQ4'.trans (Oth.of_below hb5)
          have hel := eraseIdx_len (show yn < zs.length by omega)
          generalize zs.eraseIdx yn = ys at *
          obtain ⟨so2, co2, rfl, hC2, hc12, hc22⟩ := hO5.all
          obtain ⟨n2, hn2⟩ : ∃ n, ys.length = n := ⟨_, rfl⟩
          rw [hn2] at hO5 hC2 hc12 hel ⊢
          have hn28 : 1 ≤ n2 ∧ n2 ≤ 8 := by omega
          clear hwo hO4 hQ4' hR4 hO5w hb5 hC2 hel
          go_wp2_with fail
          refine (c_pickR 40 (by omega) (by omega) hR5e (by omega)).mono ?_
          rintro e wy ⟨y, y1, y2, rfl, hRy, hQy⟩
          have hOy := hO5.oth hQy hB
          have hQy' := hQ5e.trans hQy
          clear hO5 hR5e hQ5e hQy
          cases hy : (y == 0)
          · go_wp2_with fail
            go_ret
            exact ⟨_, ys, _, rfl, hOy, by omega, hRy, by omega, hQy'⟩
          · have hCy := (spreadC hOy).at_len hn2
            have hbe := hCy.lies
            obtain ⟨b, off, hso⟩ : ∃ b off, so2 = some ⟨b, off, none⟩ := by
              rcases hbe with h0 | ⟨b, off, h, _⟩
              · omega
              · exact ⟨b, off, h⟩
            subst hso
            have HO := Lib.hid (cells2_oc ys)
            have HN := Lib.hid (show (cells2 ys).length = n2 * 2 by rw [cells2_length, hn2])
            have HL := Lib.hid hn2
            have hCz := hCy.keep (ba (Below.refl _ _) (.cells #[] 34))
            have HC := Lib.hid (cls_at hCz (by omega))
            have hOz : (wy.alloc (.cells #[] 34)).ownsRow w.heap.size 34 2 (.slice (some ⟨wy.heap.size, 0, none⟩) 0 0) 0 [] := World.ownsRow_lit wy #[] 0 hQy'.size (by unfold maxLen; omega) rfl
            have hsz := hQy'.size
            have hsz1 : w.heap.size ≤ (wy.alloc (.cells #[] 34)).heap.size := by simp; omega
            clear hbe hCz hCy hOy
            go_wp2_with (first
              | (at_builtin; refine wpList_append_own _ rfl _ _ 23 rfl w.heap.size 34 i0 (.agg #[.int .i64 0, .int .i64 0]) 2 16 Try.underlying23 hi0 hz0 hz1 hz2 rfl (by decide) (.slice (some ⟨wy.heap.size, 0, none⟩) 0 0) 0 [] rfl hOz ⟨b, off, none⟩ n2 co2 (cells2 ys) rfl HN.out HC.out HO.out (by unfold maxLen; omega) (by omega) hsz1 ?_; intro v5 w5 hown5 hgrow5 _; have hB5 : Below wy.heap.size wy w5 := Below.grown (ba (Below.refl _ _) _) hgrow5 (by simp) (fun g e => by cases e; exact Nat.le_refl _); have hR5 := (hRy.below hB5).alloc (.cells #[.int .i64 3, .int .i64 3] 34); have hQ5 := (hQy'.trans (Oth.of_below hB5)).alloc (.cells #[.int .i64 3, .int .i64 3] 34))
              | (at_builtin; refine wpList_append_own _ rfl _ _ 23 rfl w.heap.size 34 i0 (.agg #[.int .i64 0, .int .i64 0]) 2 16 Try.underlying23 hi0 hz0 hz1 hz2 rfl (by decide) v5 (0 + n2) ([] ++ cells2 ys) rfl (hown5.alloc _) ⟨w5.heap.size, 0, none⟩ 1 1 [.int .i64 3, .int .i64 3] rfl rfl (two_new w5 _ _ _) (by simp [Value.oneCell']) (by unfold maxLen; omega) (by omega) hQ5.size ?_; intro v7 w7 hown7 hgrow7 _)
              | fail)
            have hR7 := hR5.grown hgrow7 (fun j e => by have := (hown5.lt j e).1; omega)
            have hQ7 := hQ5.grown hgrow7 (fun j e => (hown5.lt j e).1)
            have hO7 : OwnC w7 w.heap.size 34 v7 (ys ++ [(3, 3)]) := by
              unfold OwnC
              rw [cells2_append, cells2_one, List.length_append, HL.out]
              simpa using hown7
            have hy7 : (ys ++ [(3, 3)]).length ≤ 9 := by rw [List.length_append, HL.out, List.length_singleton]; omega
            clear hown7 hgrow7 hown5 hgrow5
            go_ret
            exact ⟨_, _, _, rfl, hO7, hy7, hR7, by omega, hQ7⟩
        · have hn1 : n = 1 := by omega
          subst hn1
          go_wp2_with fail
          refine (c_pickR 40 (by omega) (by omega) hR3 (by omega)).mono ?_
          rintro e wy ⟨y, y1, y2, rfl, hRy, hQy⟩
          have hOy := hO3.oth hQy hB
          have hQy' := hQ3'.trans hQy
          clear hO3 hR3 hQ3' hQy
          cases hy : (y == 0)
          · go_wp2_with fail
            go_ret
            exact ⟨_, zs, _, rfl, hOy, by omega, hRy, by omega, hQy'⟩
          · have hCy := (spreadC hOy).at_len hn
            have hbe := hCy.lies
            obtain ⟨b, off, hso⟩ : ∃ b off, so = some ⟨b, off, none⟩ := by
              rcases hbe with h0 | ⟨b, off, h, _⟩
              · omega
              · exact ⟨b, off, h⟩
            subst hso
            have HO := Lib.hid (cells2_oc zs)
            have HN := Lib.hid (show (cells2 zs).length = 1 * 2 by rw [cells2_length, hn])
            have HL := Lib.hid hn
            have hCz := hCy.keep (ba (Below.refl _ _) (.cells #[] 34))
            have HC := Lib.hid (cls_at hCz (by omega))
            have hOz : (wy.alloc (.cells #[] 34)).ownsRow w.heap.size 34 2 (.slice (some ⟨wy.heap.size, 0, none⟩) 0 0) 0 [] := World.ownsRow_lit wy #[] 0 hQy'.size (by unfold maxLen; omega) rfl
            have hsz := hQy'.size
            have hsz1 : w.heap.size ≤ (wy.alloc (.cells #[] 34)).heap.size := by simp; omega
            clear hbe hCz hCy hOy
            go_wp2_with (first
              | (at_builtin; refine wpList_append_own _ rfl _ _ 23 rfl w.heap.size 34 i0 (.agg #[.int .i64 0, .int .i64 0]) 2 16 Try.underlying23 hi0 hz0 hz1 hz2 rfl (by decide) (.slice (some ⟨wy.heap.size, 0, none⟩) 0 0) 0 [] rfl hOz ⟨b, off, none⟩ 1 co (cells2 zs) rfl HN.out HC.out HO.out (by unfold maxLen; omega) (by omega) hsz1 ?_; intro v5 w5 hown5 hgrow5 _; have hB5 : Below wy.heap.size wy w5 := Below.grown (ba (Below.refl _ _) _) hgrow5 (by simp) (fun g e => by cases e; exact Nat.le_refl _); have hR5 := (hRy.below hB5).alloc (.cells #[.int .i64 3, .int .i64 3] 34); have hQ5 := (hQy'.trans (Oth.of_below hB5)).alloc (.cells #[.int .i64 3, .int .i64 3] 34))
              | (at_builtin; refine wpList_append_own _ rfl _ _ 23 rfl w.heap.size 34 i0 (.agg #[.int .i64 0, .int .i64 0]) 2 16 Try.underlying23 hi0 hz0 hz1 hz2 rfl (by decide) v5 (0 + 1) ([] ++ cells2 zs) rfl (hown5.alloc _) ⟨w5.heap.size, 0, none⟩ 1 1 [.int .i64 3, .int .i64 3] rfl rfl (two_new w5 _ _ _) (by simp [Value.oneCell']) (by unfold maxLen; omega) (by omega) hQ5.size ?_; intro v7 w7 hown7 hgrow7 _)
              | fail)
            have hR7 := hR5.grown hgrow7 (fun j e => by have := (hown5.lt j e).1; omega)
            have hQ7 := hQ5.grown hgrow7 (fun j e => (hown5.lt j e).1)
            have hO7 : OwnC w7 w.heap.size 34 v7 (zs ++ [(3, 3)]) := by
              unfold OwnC
              rw [cells2_append, cells2_one, List.length_append, HL.out]
              simpa using hown7
            have hy7 : (zs ++ [(3, 3)]).length ≤ 9 := by rw [List.length_append, HL.out, List.length_singleton]; omega
            clear hown7 hgrow7 hown5 hgrow5
            go_ret
            exact ⟨_, _, _, rfl, hO7, hy7, hR7, by omega, hQ7⟩
      · have hxb : (x == 0) = false := by simp [hx]
        go_wp2_with fail
        refine (c_pickR 40 (by omega) (by omega) hR3 (by omega)).mono ?_
        rintro e wy ⟨y, y1, y2, rfl, hRy, hQy⟩
        have hOy := hO3.oth hQy hB
        have hQy' := hQ3'.trans hQy
        clear hO3 hR3 hQ3' hQy
        cases hy : (y == 0)
        · go_wp2_with fail
          go_ret
          exact ⟨_, zs, _, rfl, hOy, by omega, hRy, by omega, hQy'⟩
        · have hCy := (spreadC hOy).at_len hn
          have hbe := hCy.lies
          obtain ⟨b, off, hso⟩ : ∃ b off, so = some ⟨b, off, none⟩ := by
            rcases hbe with h0 | ⟨b, off, h, _⟩
            · omega
            · exact ⟨b, off, h⟩
          subst hso
          have HO := Lib.hid (cells2_oc zs)
          have HN := Lib.hid (show (cells2 zs).length = n * 2 by rw [cells2_length, hn])
          have HL := Lib.hid hn
          have hCz := hCy.keep (ba (Below.refl _ _) (.cells #[] 34))
          have HC := Lib.hid (cls_at hCz (by omega))
          have hOz : (wy.alloc (.cells #[] 34)).ownsRow w.heap.size 34 2 (.slice (some ⟨wy.heap.size, 0, none⟩) 0 0) 0 [] := World.ownsRow_lit wy #[] 0 hQy'.size (by unfold maxLen; omega) rfl
          have hsz := hQy'.size
          have hsz1 : w.heap.size ≤ (wy.alloc (.cells #[] 34)).heap.size := by simp; omega
          clear hbe hCz hCy hOy
          go_wp2_with (first
            | (at_builtin; refine wpList_append_own _ rfl _ _ 23 rfl w.heap.size 34 i0 (.agg #[.int .i64 0, .int .i64 0]) 2 16 Try.underlying23 hi0 hz0 hz1 hz2 rfl (by decide) (.slice (some ⟨wy.heap.size, 0, none⟩) 0 0) 0 [] rfl hOz ⟨b, off, none⟩ n co (cells2 zs) rfl HN.out HC.out HO.out (by unfold maxLen; omega) (by omega) hsz1 ?_; intro v5 w5 hown5 hgrow5 _; have hB5 : Below wy.heap.size wy w5 := Below.grown (ba (Below.refl _ _) _) hgrow5 (by simp) (fun g e => by cases e; exact Nat.le_refl _); have hR5 := (hRy.below hB5).alloc (.cells #[.int .i64 3, .int .i64 3] 34); have hQ5 := (hQy'.trans (Oth.of_below hB5)).alloc (.cells #[.int .i64 3, .int .i64 3] 34))
            | (at_builtin; refine wpList_append_own _ rfl _ _ 23 rfl w.heap.size 34 i0 (.agg #[.int .i64 0, .int .i64 0]) 2 16 Try.underlying23 hi0 hz0 hz1 hz2 rfl (by decide) v5 (0 + n) ([] ++ cells2 zs) rfl (hown5.alloc _) ⟨w5.heap.size, 0, none⟩ 1 1 [.int .i64 3, .int .i64 3] rfl rfl (two_new w5 _ _ _) (by simp [Value.oneCell']) (by unfold maxLen; omega) (by omega) hQ5.size ?_; intro v7 w7 hown7 hgrow7 _)
            | fail)
          have hR7 := hR5.grown hgrow7 (fun j e => by have := (hown5.lt j e).1; omega)
          have hQ7 := hQ5.grown hgrow7 (fun j e => (hown5.lt j e).1)
          have hO7 : OwnC w7 w.heap.size 34 v7 (zs ++ [(3, 3)]) := by
            unfold OwnC
            rw [cells2_append, cells2_one, List.length_append, HL.out]
            simpa using hown7
          have hy7 : (zs ++ [(3, 3)]).length ≤ 9 := by rw [List.length_append, HL.out, List.length_singleton]; omega
          clear hown7 hgrow7 hown5 hgrow5
          go_ret
          exact ⟨_, _, _, rfl, hO7, hy7, hR7, by omega, hQ7⟩
end Go.Proofs.Ytgdpebnnmklbjaa
namespace Go.Proofs.Ytgdpebnnmklbjaa
open Go.RowKit
def DrawnS (w : World) (e : Ending) (w' : World) : Prop := ∃ v zs, e = .returned v ∧ OwnC w' w.heap.size 34 v zs ∧ zs.length ≤ 9 ∧ Below w.heap.size w w'
theorem c_l91Some (s : Option Addr) (len cap : Nat) (w : World) (h : Code0 w s len cap) : Calls Try.prog 47 #[.slice s len cap] w (DrawnS w) := by
  go_enter Try.func47, Try.ntmps47
  go_wp2_with fail
  refine (c_l6Open s len cap _ h).mono ?_
  rintro e w2 ⟨B, s', len', hB, rfl, hR2, hb2⟩
  go_wp2_with fail
  refine (c_l91System hR2 (by omega)).mono ?_
  rintro e w3 ⟨v, zs, p', rfl, hO3, hl3, hR3, hp3, hQ3⟩
  have hb3 := hb2.trans (oth_below hQ3 hR2)
  have hO := hO3.low hb2.size
  clear hO3
  go_wp2_with fail
  go_ret
  exact ⟨_, zs, rfl, hO, hl3, hb3⟩
theorem c_DrawSystemIn (s : Option Addr) (len cap : Nat) (w : World) (h : Code0 w s len cap) : Calls Try.prog 13 #[.slice s len cap] w (DrawnS w) := by
  go_enter Try.func13, Try.ntmps13
  go_wp2_with fail
  refine (c_l91Some s len cap _ h).mono ?_
  rintro e w2 ⟨v, zs, rfl, hO, hl, hb⟩
  go_wp2_with fail
  go_ret
  exact ⟨_, zs, rfl, hO, hl, hb⟩
theorem c_DrawSystemPeriod (s : Option Addr) (len cap : Nat) (w : World) (h : Code0 w s len cap) : Calls Try.prog 17 #[.slice s len cap] w (DrawnS w) := by
  go_enter Try.func17, Try.ntmps17
  go_wp2_with fail
  refine (c_l91Some s len cap _ h).mono ?_
  rintro e w2 ⟨v, zs, rfl, hO, hl, hb⟩
  go_wp2_with fail
  go_ret
  exact ⟨_, zs, rfl, hO, hl, hb⟩
theorem c_DrawSystemTimes (s : Option Addr) (len cap : Nat) (w : World) (h : Code0 w s len cap) : Calls Try.prog 21 #[.slice s len cap] w (DrawnS w) := by
  go_enter Try.func21, Try.ntmps21
  go_wp2_with fail
  refine (c_l91Some s len cap _ h).mono ?_
  rintro e w2 ⟨v, zs, rfl, hO, hl, hb⟩
  go_wp2_with fail
  go_ret
  exact ⟨_, zs, rfl, hO, hl, hb⟩
theorem c_DrawSystemHoles (s : Option Addr) (len cap : Nat) (w : World) (h : Code0 w s len cap) : Calls Try.prog 27 #[.slice s len cap] w (DrawnS w) := by
  go_enter Try.func27, Try.ntmps27
  go_wp2_with fail
  refine (c_l91Some s len cap _ h).mono ?_
  rintro e w2 ⟨v, zs, rfl, hO, hl, hb⟩
  go_wp2_with fail
  go_ret
  exact ⟨_, zs, rfl, hO, hl, hb⟩
theorem c_DrawSystemAll (s : Option Addr) (len cap : Nat) (w : World) (h : Code0 w s len cap) : Calls Try.prog 31 #[.slice s len cap] w (DrawnS w) := by
  go_enter Try.func31, Try.ntmps31
  go_wp2_with fail
  refine (c_l91Some s len cap _ h).mono ?_
  rintro e w2 ⟨v, zs, rfl, hO, hl, hb⟩
  go_wp2_with fail
  go_ret
  exact ⟨_, zs, rfl, hO, hl, hb⟩
theorem c_DrawSystemApart (s : Option Addr) (len cap : Nat) (w : World) (h : Code0 w s len cap) : Calls Try.prog 34 #[.slice s len cap] w (DrawnS w) := by
  go_enter Try.func34, Try.ntmps34
  go_wp2_with fail
  refine (c_l91Some s len cap _ h).mono ?_
  rintro e w2 ⟨v, zs, rfl, hO, hl, hb⟩
  go_wp2_with fail
  go_ret
  exact ⟨_, zs, rfl, hO, hl, hb⟩
theorem c_DrawSystemExact (s : Option Addr) (len cap : Nat) (w : World) (h : Code0 w s len cap) : Calls Try.prog 37 #[.slice s len cap] w (DrawnS w) := by
  go_enter Try.func37, Try.ntmps37
  go_wp2_with fail
  refine (c_l91Some s len cap _ h).mono ?_
  rintro e w2 ⟨v, zs, rfl, hO, hl, hb⟩
  go_wp2_with fail
  go_ret
  exact ⟨_, zs, rfl, hO, hl, hb⟩
theorem c_DrawSystemShare (s : Option Addr) (len cap : Nat) (w : World) (h : Code0 w s len cap) : Calls Try.prog 40 #[.slice s len cap] w (DrawnS w) := by
  go_enter Try.func40, Try.ntmps40
  go_wp2_with fail
  refine (c_l91Some s len cap _ h).mono ?_
  rintro e w2 ⟨v, zs, rfl, hO, hl, hb⟩
  go_wp2_with fail
  go_ret
  exact ⟨_, zs, rfl, hO, hl, hb⟩
end Go.Proofs.Ytgdpebnnmklbjaa
