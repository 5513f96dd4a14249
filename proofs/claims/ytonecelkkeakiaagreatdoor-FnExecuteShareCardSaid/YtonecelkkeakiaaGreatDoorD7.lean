/- The model's ExactSplit, as far as the drawn systems want it. -/
import Derived.Test.YtonecelkkeakiaaGreatDoorMz12
import Derived.Test.YtonecelkkeakiaaGreatDoorS4
namespace Go.Proofs.YtonecelkkeakiaaGreatDoor
open Go.RowKit
/-- no modulus of it is greater than T -/
def Small (T : Int) (zs : List Cl) : Prop := ∀ c ∈ zs, c.2 ≤ T
def splL3 (zs : List Cl) (i : Nat) (k : Int) : List Cl := zs.take i ++ parL (rAt zs i) (mAt zs i) k ++ zs.drop (i + 1)
theorem splL3_small {T k : Int} {zs : List Cl} {i : Nat} (h : Small T zs) (hk2 : k ≤ 3) (hi : i < zs.length) (h0 : 0 ≤ mAt zs i) : Small (T * 3) (splL3 zs i k) := by
  have hm : mAt zs i ≤ T := by
    have := h zs[i] (List.getElem_mem hi)
    simpa [mAt, hi] using this
  have hT : T ≤ T * 3 := by omega
  intro c hc
  unfold splL3 at hc
  rcases List.mem_append.1 hc with hc | hc
  · rcases List.mem_append.1 hc with hc | hc
    · exact Int.le_trans (h c (List.mem_of_mem_take hc)) hT
    · unfold parL at hc
      obtain ⟨j, _, rfl⟩ := List.mem_map.1 hc
      have h1 := Int.mul_le_mul_of_nonneg_left hk2 h0
      show mAt zs i * k ≤ T * 3
      omega
  · exact Int.le_trans (h c (List.mem_of_mem_drop hc)) hT
theorem splL3_length (zs : List Cl) (i : Nat) (k : Int) (hi : i < zs.length) : (splL3 zs i k).length = i + k.toNat + (zs.length - (i + 1)) := by
  simp [splL3, parL_length]; omega
def SplitPost (T : Int) (w : World) (e : Ending) (w' : World) : Prop := ∃ v ys ok, e = .returned (.tuple #[v, .bool ok]) ∧ OwnC w' w.heap.size 41 v ys ∧ Below w.heap.size w w' ∧ (ok = true → sysB ys = true ∧ Small (T * 3) ys)
set_option maxRecDepth 20000 in
set_option maxHeartbeats 4000000 in
theorem c_ExactSplit (s : Option Addr) (n cap : Nat) (zs : List Cl) (i : Nat) (k : Int) (T : Int) (hn : n ≤ 8) (hcap : n ≤ cap) (hcb : cap ≤ 9223372036854775807) (hi : i < n) (hk : 2 ≤ k) (hk3 : k ≤ 3) (hs : sysB zs = true) (hT : T ≤ 300) (hS : Small T zs) (w : World) (hc : Cls w s n zs) :
    Calls Tryz.prog 150 #[.slice s n cap, .int .i64 i, .int .i64 k] w (SplitPost T w) := by
  have hlen := hc.len
  have hcon := c_specSystemIn s n cap zs (by omega) w hc
  rw [hs] at hcon
  obtain ⟨_, _, ha, _, _, _⟩ := sysB_facts hs
  obtain ⟨m1, m2, r1, r2⟩ := inB_iff.1 (allB_at ha i (by omega))
  have hmT : mAt zs i ≤ T := by
    have := hS zs[i] (List.getElem_mem (by omega))
    simpa [mAt, show i < zs.length by omega] using this
  have hmk : mAt zs i * k ≤ 1000 := by
    have h1 := Int.mul_le_mul_of_nonneg_left hk3 (show 0 ≤ mAt zs i by omega)
    omega
  have hpB := parB_tt (inB_iff.2 ⟨m1, m2, r1, r2⟩) (show 1 ≤ k ∧ k ≤ 12 by omega) hmk
  have hpar := fun w1 => c_specClassParts (rAt zs i) (mAt zs i) k w1
  rw [hpB, parR_t hpB] at hpar
  have HSm := Lib.hid (splL3_small hS hk3 (by omega) (show 0 ≤ mAt zs i by omega))
  have hsl := splL3_length zs i k (by omega)
  have hsys := fun (s' : Option Addr) (n' c' : Nat) w1 (hn' : n' ≤ 1048576) (h1 : Cls w1 s' n' (splL3 zs i k)) => c_specSystemIn s' n' c' (splL3 zs i k) hn' w1 h1
  obtain ⟨i0, hi0, hz0, hz1, hz2⟩ := info_parts infoC
  rcases hc.lies with h0 | ⟨b, off, rfl, hbw, hcells⟩
  · omega
  obtain ⟨x0, x1⟩ := hcells i hi
  clear hcells hpB hmT
  have hl6 : l6B (i : Int) 0 ((n : Int) - 1) = true := by simp [l6B]; omega
  have hwn : IntKind.i64.wrap ((n : Int) - 1) = (n : Int) - 1 := IntWalk.i64_in _ (by omega)
  have hiz0 : (0 : Int) ≤ (i : Int) := by omega
  have hiz : (i : Int) < (n : Int) := by omega
  go_enter Tryz.func150, Tryz.ntmps150
  go_wp2_with (first | (go_at_call 36; refine hcon.mono ?_; rintro e w2 ⟨rfl, hb⟩; have y0 := keepc hb x0; have y1 := keepc hb x1) | (go_at_call 42; refine (c_l6In _ _ _ _).mono ?_; rintro e w1 ⟨rfl, rfl⟩))
  have hc2 := hc.keep hb
  obtain ⟨kn, rfl⟩ := Int.eq_ofNat_of_zero_le (show 0 ≤ k by omega)
  refine (hpar w2).mono ?_
  rintro e w3 ⟨v3, rfl, hO3, hb3⟩
  have hbw3 := bt2 hb hb3
  have hc3 := hc.keep hbw3
  have hlp : (parL (rAt zs i) (mAt zs i) (kn : Int)).length = kn := by rw [parL_length]; exact Int.toNat_natCast kn
  obtain ⟨g, c3, rfl, hg3⟩ : ∃ g c3, v3 = .slice (some ⟨g, 0, none⟩) kn c3 ∧ g < w3.heap.size := by
    rcases hO3.cases with ⟨_, hz⟩ | ⟨g, c3, hv, _⟩
    · rw [hz] at hlp; simp at hlp; omega
    · refine ⟨g, c3, by rw [hv, hlp], ?_⟩
      exact (World.ownsRow.lt hO3 g (by rw [hv]; rfl)).2
  have hP3 : Cls w3 (some ⟨g, 0, none⟩) kn (parL (rAt zs i) (mAt zs i) (kn : Int)) := hO3.cls.1
  have hO0 : (w3.alloc (.cells #[] 41)).ownsRow w3.heap.size 41 2 (.slice (some ⟨w3.heap.size, 0, none⟩) 0 0) 0 [] := World.ownsRow_lit w3 #[] 0 (Nat.le_refl _) (by unfold maxLen; omega) rfl
  have hcA := hc3.keep (ba (Below.refl _ _) (.cells #[] 41))
  have HT := Lib.hid (cells2_oc (zs.take i))
  have HD := Lib.hid (cells2_oc (zs.drop (i + 1)))
  have HPo := Lib.hid (cells2_oc (parL (rAt zs i) (mAt zs i) (kn : Int)))
  have HNt := Lib.hid (show (cells2 (zs.take i)).length = i * 2 by rw [cells2_length, List.length_take]; omega)
  have HNp := Lib.hid (show (cells2 (parL (rAt zs i) (mAt zs i) (kn : Int))).length = kn * 2 by rw [cells2_length, hlp])
  have HNd := Lib.hid (show (cells2 (zs.drop (i + 1))).length = (n - (i + 1)) * 2 by rw [cells2_length, List.length_drop, hlen])
  have HL := Lib.hid hlen
  have HCt := Lib.hid (fun (j : Nat) (u : Value) (hj : (cells2 (zs.take i))[j]? = some u) => show (w3.alloc (.cells #[] 41)).cell? ((⟨b, off, none⟩ : Addr).add j) = some u from cls_at hcA (by omega) j u (cells2_takeAt hj))
  have HCd := Lib.hid (fun (W : World) (hW : Cls W (some ⟨b, off, none⟩) n zs) (j : Nat) (u : Value) (hj : (cells2 (zs.drop (i + 1)))[j]? = some u) => show W.cell? ((⟨b, off + (i + 1) * 2, none⟩ : Addr).add j) = some u by
    rw [add_add]
    exact cls_at hW (by omega) _ u (cells2_dropAt hj))
  have hkn : kn ≤ 3 := by omega
  clear hlen hwn hl6
  have hiz1 : (i : Int) ≤ (cap : Int) := by omega
  have hiz2 : (i : Int) ≤ (n : Int) := by omega
  have hnc : (n : Int) ≤ (cap : Int) := by omega
  have hA1 : (i : Int) + 1 ≤ (n : Int) := by omega
  have hA0 : (0 : Int) ≤ (i : Int) + 1 := by omega
  have hw : IntKind.i64.wrap ((i : Int) + 1) = (i : Int) + 1 := IntWalk.i64_in _ (by omega)
  have hAt : ((i : Int) + 1).toNat = i + 1 := by omega
  have hc0 : ¬ cap = 0 := by omega
  have hcap2 : i + 1 < cap ∨ cap = i + 1 := by omega
  go_wp2_with fail
  by_cases hA : i + 1 < cap
  · have hAn : ¬ cap = i + 1 := by omega
    clear hcap2
    go_region_held3 (fun _ => True) (trivial) (first
      | (refine step_append_own rfl (.tmp 32) (.tmp 35) 26 rfl w3.heap.size 41 i0 (.agg #[.int .i64 0, .int .i64 0]) 2 16 Tryz.underlying26 hi0 hz0 hz1 hz2 rfl Nat.two_pos (.slice (some ⟨w3.heap.size, 0, none⟩) 0 0) 0 [] rfl hO0 ⟨b, off, none⟩ i _ (cells2 (zs.take i)) rfl HNt.out HCt.out HT.out (by unfold maxLen; omega) (by omega) (by simp) ?_; intro v5 w5 hown5 hgrow5 _; have hB5 : Below w3.heap.size w3 w5 := Below.grown (by repeat (first | exact Below.refl _ _ | assumption | refine Below.drew ?_ | refine bel_drewN ?_ _ | refine ba ?_ _ | refine bt2 ?_ (by assumption) | refine Below.setCell ?_ (by simp <;> omega) _)) hgrow5 (by simp) (fun g e => by cases e; exact Nat.le_refl _); have HP5 := Lib.hid (cls_at (hP3.keep hB5) (by omega)); have hbs5 := hB5.size)
      | (refine step_append_own rfl (.tmp 36) (.tmp 37) 26 rfl w3.heap.size 41 i0 (.agg #[.int .i64 0, .int .i64 0]) 2 16 Tryz.underlying26 hi0 hz0 hz1 hz2 rfl Nat.two_pos v5 (0 + i) ([] ++ cells2 (zs.take i)) rfl hown5 ⟨g, 0, none⟩ kn c3 (cells2 (parL (rAt zs i) (mAt zs i) (kn : Int))) rfl HNp.out HP5.out HPo.out (by unfold maxLen; omega) (by omega) hbs5 ?_; intro v7 w7 hown7 hgrow7 _; have hB7 : Below w3.heap.size w3 w7 := hB5.grown hgrow7 hbs5 (fun g e => (hown5.lt g e).1); have HD7 := Lib.hid (HCd.out _ (hc3.keep hB7)); have hbs7 := hB7.size)
      | (refine step_append_own rfl (.tmp 38) (.tmp 42) 26 rfl w3.heap.size 41 i0 (.agg #[.int .i64 0, .int .i64 0]) 2 16 Tryz.underlying26 hi0 hz0 hz1 hz2 rfl Nat.two_pos v7 (0 + i + kn) ([] ++ cells2 (zs.take i) ++ cells2 (parL (rAt zs i) (mAt zs i) (kn : Int))) rfl hown7 ⟨b, off + (i + 1) * 2, none⟩ (n - (i + 1)) (cap - (i + 1)) (cells2 (zs.drop (i + 1))) rfl HNd.out HD7.out HD.out (by unfold maxLen; omega) (by omega) hbs7 ?_; intro v9 w9 hown9 hgrow9 _)
      | fail)
    all_goals
      have hB9 : Below w3.heap.size w3 w9 := hB7.grown hgrow9 hbs7 (fun g e => (hown7.lt g e).1)
      have hOC : OwnC w9 w3.heap.size 41 v9 (splL3 zs i (kn : Int)) := by
        unfold OwnC
        rw [hsl, HL.out, show i + (kn : Int).toNat + (n - (i + 1)) = 0 + i + kn + (n - (i + 1)) by omega]
        unfold splL3
        rw [cells2_append, cells2_append]
        simpa using hown9
      clear hown5 hown7 hown9 hgrow5 hgrow7 hgrow9
      obtain ⟨s9, c9, rfl, hC9, _⟩ := hOC.spread
      have hBw9 := bt2 hbw3 hB9
      have hOw := OwnC.low hOC hbw3.size
      have hcs := hsys s9 _ c9 w9 (by rw [hsl, HL.out]; omega) hC9
      have hSm := HSm.out
      clear hsys hpar hcon HSm HT HD HPo HNt HNp HNd HL HCt HCd hsl x0 x1 y0 y1 hS hP3 hO3 hO0 hcA hc2 hc3 hc HP5 HD7 hlp hB5 hB7 hB9 hbs5 hbs7 hmk m1 m2 r1 r2 ha hs
      generalize splL3 zs i (kn : Int) = Y at *
      generalize Y.length = LY at *
      clear hOC hC9 hi0 hz0 hz1 hz2 hw hAt
      cases hq : sysB Y
      · rw [hq] at hcs
        go_wp2_with (go_at_call 36; refine hcs.mono ?_; rintro e wa ⟨rfl, hba⟩)
        go_ret2
        exact ⟨_, [], false, rfl, World.ownsRow_lit wa #[] 0 (bt2 hBw9 hba).size (by unfold maxLen; omega) rfl, ba (bt2 hBw9 hba) _, fun h => by cases h⟩
      · rw [hq] at hcs
        go_wp2_with (go_at_call 36; refine hcs.mono ?_; rintro e wa ⟨rfl, hba⟩)
        go_ret2
        exact ⟨_, Y, true, rfl, hOw.keep hba, bt2 hBw9 hba, fun _ => ⟨hq, hSm⟩⟩
  · have hAn : cap = i + 1 := by omega
    have hnn : n = i + 1 := by omega
    have hz1' : (i : Int) ≤ (i : Int) + 1 := by omega
    have hz2' : (i : Int) < (i : Int) + 1 := by omega
    have hz3 : i < i + 1 := by omega
    have hz4 : i ≤ i + 1 := by omega
    clear hcap2
    go_region_held3 (fun _ => True) (trivial) (first
      | (refine step_append_own rfl (.tmp 32) (.tmp 35) 26 rfl w3.heap.size 41 i0 (.agg #[.int .i64 0, .int .i64 0]) 2 16 Tryz.underlying26 hi0 hz0 hz1 hz2 rfl Nat.two_pos (.slice (some ⟨w3.heap.size, 0, none⟩) 0 0) 0 [] rfl hO0 ⟨b, off, none⟩ i _ (cells2 (zs.take i)) rfl HNt.out HCt.out HT.out (by unfold maxLen; omega) (by omega) (by simp) ?_; intro v5 w5 hown5 hgrow5 _; have hB5 : Below w3.heap.size w3 w5 := Below.grown (by repeat (first | exact Below.refl _ _ | assumption | refine Below.drew ?_ | refine bel_drewN ?_ _ | refine ba ?_ _ | refine bt2 ?_ (by assumption) | refine Below.setCell ?_ (by simp <;> omega) _)) hgrow5 (by simp) (fun g e => by cases e; exact Nat.le_refl _); have HP5 := Lib.hid (cls_at (hP3.keep hB5) (by omega)); have hbs5 := hB5.size)
      | (refine step_append_own rfl (.tmp 36) (.tmp 37) 26 rfl w3.heap.size 41 i0 (.agg #[.int .i64 0, .int .i64 0]) 2 16 Tryz.underlying26 hi0 hz0 hz1 hz2 rfl Nat.two_pos v5 (0 + i) ([] ++ cells2 (zs.take i)) rfl hown5 ⟨g, 0, none⟩ kn c3 (cells2 (parL (rAt zs i) (mAt zs i) (kn : Int))) rfl HNp.out HP5.out HPo.out (by unfold maxLen; omega) (by omega) hbs5 ?_; intro v7 w7 hown7 hgrow7 _; have hB7 : Below w3.heap.size w3 w7 := hB5.grown hgrow7 hbs5 (fun g e => (hown5.lt g e).1); have HD7 := Lib.hid (HCd.out _ (hc3.keep hB7)); have hbs7 := hB7.size)
      | (refine step_append_own rfl (.tmp 38) (.tmp 42) 26 rfl w3.heap.size 41 i0 (.agg #[.int .i64 0, .int .i64 0]) 2 16 Tryz.underlying26 hi0 hz0 hz1 hz2 rfl Nat.two_pos v7 (0 + i + kn) ([] ++ cells2 (zs.take i) ++ cells2 (parL (rAt zs i) (mAt zs i) (kn : Int))) rfl hown7 ⟨b, off, none⟩ 0 0 [] rfl rfl (by simp) (by simp) (by unfold maxLen; omega) (by omega) hbs7 ?_; intro v9 w9 hown9 hgrow9 _)
      | fail)
    all_goals
      have hB9 : Below w3.heap.size w3 w9 := hB7.grown hgrow9 hbs7 (fun g e => (hown7.lt g e).1)
      have hOC : OwnC w9 w3.heap.size 41 v9 (splL3 zs i (kn : Int)) := by
        unfold OwnC
        rw [hsl, HL.out, show i + (kn : Int).toNat + (n - (i + 1)) = 0 + i + kn + 0 by omega]
        unfold splL3
        rw [cells2_append, cells2_append]
        rw [List.drop_eq_nil_of_le (show zs.length ≤ i + 1 by rw [HL.out]; omega)]; simpa [cells2] using hown9
      clear hown5 hown7 hown9 hgrow5 hgrow7 hgrow9
      obtain ⟨s9, c9, rfl, hC9, _⟩ := hOC.spread
      have hBw9 := bt2 hbw3 hB9
      have hOw := OwnC.low hOC hbw3.size
      have hcs := hsys s9 _ c9 w9 (by rw [hsl, HL.out]; omega) hC9
      have hSm := HSm.out
      clear hsys hpar hcon HSm HT HD HPo HNt HNp HNd HL HCt HCd hsl x0 x1 y0 y1 hS hP3 hO3 hO0 hcA hc2 hc3 hc HP5 HD7 hlp hB5 hB7 hB9 hbs5 hbs7 hmk m1 m2 r1 r2 ha hs
      generalize splL3 zs i (kn : Int) = Y at *
      generalize Y.length = LY at *
      clear hOC hC9 hi0 hz0 hz1 hz2 hw hAt
      cases hq : sysB Y
      · rw [hq] at hcs
        go_wp2_with (go_at_call 36; refine hcs.mono ?_; rintro e wa ⟨rfl, hba⟩)
        go_ret2
        exact ⟨_, [], false, rfl, World.ownsRow_lit wa #[] 0 (bt2 hBw9 hba).size (by unfold maxLen; omega) rfl, ba (bt2 hBw9 hba) _, fun h => by cases h⟩
      · rw [hq] at hcs
        go_wp2_with (go_at_call 36; refine hcs.mono ?_; rintro e wa ⟨rfl, hba⟩)
        go_ret2
        exact ⟨_, Y, true, rfl, hOw.keep hba, bt2 hBw9 hba, fun _ => ⟨hq, hSm⟩⟩
end Go.Proofs.YtonecelkkeakiaaGreatDoor
