/- Chapter 4: whether two lists of classes are equal; lists of lists of classes in memory. -/
import Derived.Test.YtobdliefaaoefaaDoorMathXc
import Derived.Test.YtobdliefaaoefaaDoorRow
import Derived.RangeFuncBox
import Derived.RegionTactic
import Derived.BigRegion
namespace Go.Proofs.YtobdliefaaoefaaDoor
open Go.RowKit
theorem eqC_len {zs ys : List Cl} (h : zs.length ≠ ys.length) : eqC zs ys = false := decide_eq_false fun e => h (by rw [e])
theorem eqC_at {zs ys : List Cl} (k : Nat) (h : ¬ (rAt zs k = rAt ys k ∧ mAt zs k = mAt ys k)) : eqC zs ys = false := decide_eq_false fun e => h (by rw [e]; exact ⟨rfl, rfl⟩)
theorem cl_at (zs : List Cl) (k : Nat) (hk : k < zs.length) : zs[k]? = some (rAt zs k, mAt zs k) := by simp [rAt, mAt, hk]
theorem eqC_all {zs ys : List Cl} (hl : zs.length = ys.length) (h : ∀ j, j < zs.length → rAt zs j = rAt ys j ∧ mAt zs j = mAt ys j) : eqC zs ys = true := by
  refine decide_eq_true (List.ext_getElem? fun j => ?_)
  by_cases hj : j < zs.length
  · rw [cl_at zs j hj, cl_at ys j (by omega), (h j hj).1, (h j hj).2]
  · rw [List.getElem?_eq_none (by omega), List.getElem?_eq_none (by omega)]
set_option maxRecDepth 20000 in
set_option maxHeartbeats 1000000 in
theorem c_equalC (s t : Option Addr) (n m c1 c2 : Nat) (zs ys : List Cl) (hn : n ≤ 1000000) (hm : m ≤ 1000000) (w : World) (hs : Cls w s n zs) (ht : Cls w t m ys) : Calls Tryd.prog 20 #[.slice s n c1, .slice t m c2] w fun e w' => e = .returned (.bool (eqC zs ys)) ∧ Below w.heap.size w w' := by
  obtain rfl := hs.len
  obtain rfl := ht.len
  by_cases hl : zs.length = ys.length
  · have HA := Lib.hid (fun k => @eqC_at zs ys k)
    have HE := Lib.hid (@eqC_all zs ys hl)
    rw [← hl] at ht ⊢
    clear hl hm
    go_enter Tryd.func20, Tryd.ntmps20
    go_wp2_with fail
    go_loopw [13] (fun i wr => ∃ k : Nat, k ≤ zs.length ∧ i = .int .i64 k ∧ (∀ j, j < k → rAt zs j = rAt ys j ∧ mAt zs j = mAt ys j) ∧ Below w.heap.size w wr) (fun i _ => zs.length - (intOf i).toNat)
    case atStart => exact ⟨0, Nat.zero_le _, rfl, (fun j hj => by omega), Below.refl _ _⟩
    case round =>
      obtain ⟨k, hk, rfl, hall, hB⟩ := hrel
      by_cases hlt : k < zs.length
      · rcases (hs.keep hB).lies with h0 | ⟨b1, o1, rfl, hb1, hcells1⟩
        · omega
        rcases (ht.keep hB).lies with h0 | ⟨b2, o2, rfl, hb2, hcells2⟩
        · omega
        obtain ⟨hx, hy⟩ := hcells1 k hlt
        obtain ⟨hx2, hy2⟩ := hcells2 k hlt
        clear hcells1 hcells2
        have HAL := Lib.hid hall
        have HAk := Lib.hid (HA.out k)
        clear hall
        cases hr : (rAt zs k == rAt ys k)
        · have hne : ¬ rAt zs k = rAt ys k := by simpa using hr
          have HV := Lib.hid (HAk.out fun h => hne h.1)
          generalize rAt zs k = r1 at *
          generalize rAt ys k = r2 at *
          go_wp2_with fail
          go_region
          all_goals
            go_wp2_with fail
            go_ret
            exact ⟨by rw [HV.out]; rfl, hB.drew⟩
        · have heq : rAt zs k = rAt ys k := by simpa using hr
          cases hm : (mAt zs k == mAt ys k)
          · have hne : ¬ mAt zs k = mAt ys k := by simpa using hm
            have HV := Lib.hid (HAk.out fun h => hne h.2)
            have hq : rAt ys k = rAt zs k := heq.symm
            rw [hq] at hx2
            clear heq hq hr
            generalize rAt zs k = r1 at *
            generalize mAt zs k = m1 at *
            generalize mAt ys k = m2 at *
            go_wp2_with fail
            go_region
            all_goals
              go_wp2_with fail
              go_ret
              exact ⟨by rw [HV.out]; rfl, hB.drew⟩
          · have heq2 : mAt zs k = mAt ys k := by simpa using hm
            have HAL2 : Hid (∀ j, j < k + 1 → rAt zs j = rAt ys j ∧ mAt zs j = mAt ys j) := Lib.hid fun j hj => by
              rcases Nat.lt_succ_iff_lt_or_eq.1 hj with h | h
              · exact HAL.out j h
              · subst h; exact ⟨heq, heq2⟩
            rw [← heq] at hx2
            rw [← heq2] at hy2
            clear heq heq2 hr hm
            go_wp2_with fail
            go_region
            all_goals
              go_wp2_with fail
              go_roundw
              case rel => exact ⟨k + 1, by omega, by go_num, HAL2.out, hB.drew⟩
              case measure => simp [intOf]; omega
      · have hk' : k = zs.length := by omega
        subst hk'
        have HV := Lib.hid (HE.out hall)
        clear hall
        go_wp2_with fail
        go_ret
        exact ⟨by rw [HV.out]; rfl, hB⟩
  · have hV := eqC_len hl
    rw [hV]
    have hz : ¬ (zs.length : Int) = (ys.length : Int) := by omega
    have hz2 : ((zs.length : Int) != (ys.length : Int)) = true := by rw [bne_iff_ne]; omega
    clear hV
    go_enter Tryd.func20, Tryd.ntmps20
    go_wp2_with fail
    go_ret
    exact ⟨rfl, Below.refl _ _⟩
set_option maxRecDepth 20000 in
set_option maxHeartbeats 1000000 in
theorem c_l4Equal (s t : Option Addr) (n m c1 c2 : Nat) (zs ys : List Cl) (hn : n ≤ 1000000) (hm : m ≤ 1000000) (w : World) (hs : Cls w s n zs) (ht : Cls w t m ys) : Calls Tryd.prog 23 #[.slice s n c1, .slice t m c2] w fun e w' => e = .returned (.bool (eqC zs ys)) ∧ Below w.heap.size w w' := by
  obtain rfl := hs.len
  obtain rfl := ht.len
  by_cases hl : zs.length = ys.length
  · have HA := Lib.hid (fun k => @eqC_at zs ys k)
    have HE := Lib.hid (@eqC_all zs ys hl)
    rw [← hl] at ht ⊢
    clear hl hm
    go_enter Tryd.func23, Tryd.ntmps23
    go_wp2_with fail
    go_loopw [5] (fun i wr => ∃ k : Nat, k ≤ zs.length ∧ i = .int .i64 k ∧ (∀ j, j < k → rAt zs j = rAt ys j ∧ mAt zs j = mAt ys j) ∧ Below w.heap.size w wr) (fun i _ => zs.length - (intOf i).toNat)
    case atStart => exact ⟨0, Nat.zero_le _, rfl, (fun j hj => by omega), Below.refl _ _⟩
    case round =>
      obtain ⟨k, hk, rfl, hall, hB⟩ := hrel
      by_cases hlt : k < zs.length
      · rcases (hs.keep hB).lies with h0 | ⟨b1, o1, rfl, hb1, hcells1⟩
        · omega
        rcases (ht.keep hB).lies with h0 | ⟨b2, o2, rfl, hb2, hcells2⟩
        · omega
        obtain ⟨hx, hy⟩ := hcells1 k hlt
        obtain ⟨hx2, hy2⟩ := hcells2 k hlt
        clear hcells1 hcells2
        have HAL := Lib.hid hall
        have HAk := Lib.hid (HA.out k)
        clear hall
        cases hr : (rAt zs k == rAt ys k)
        · have hne : ¬ rAt zs k = rAt ys k := by simpa using hr
          have HV := Lib.hid (HAk.out fun h => hne h.1)
          generalize rAt zs k = r1 at *
          generalize rAt ys k = r2 at *
          go_wp2_with fail
          go_region
          all_goals
            go_wp2_with fail
            go_ret
            exact ⟨by rw [HV.out]; rfl, hB.drew⟩
        · have heq : rAt zs k = rAt ys k := by simpa using hr
          cases hm : (mAt zs k == mAt ys k)
          · have hne : ¬ mAt zs k = mAt ys k := by simpa using hm
            have HV := Lib.hid (HAk.out fun h => hne h.2)
            have hq : rAt ys k = rAt zs k := heq.symm
            rw [hq] at hx2
            clear heq hq hr
            generalize rAt zs k = r1 at *
            generalize mAt zs k = m1 at *
            generalize mAt ys k = m2 at *
            go_wp2_with fail
            go_region
            all_goals
              go_wp2_with fail
              go_ret
              exact ⟨by rw [HV.out]; rfl, hB.drew⟩
          · have heq2 : mAt zs k = mAt ys k := by simpa using hm
            have HAL2 : Hid (∀ j, j < k + 1 → rAt zs j = rAt ys j ∧ mAt zs j = mAt ys j) := Lib.hid fun j hj => by
              rcases Nat.lt_succ_iff_lt_or_eq.1 hj with h | h
              · exact HAL.out j h
              · subst h; exact ⟨heq, heq2⟩
            rw [← heq] at hx2
            rw [← heq2] at hy2
            clear heq heq2 hr hm
            go_wp2_with fail
            go_region
            all_goals
              go_wp2_with fail
              go_roundw
              case rel => exact ⟨k + 1, by omega, by go_num, HAL2.out, hB.drew⟩
              case measure => simp [intOf]; omega
      · have hk' : k = zs.length := by omega
        subst hk'
        have HV := Lib.hid (HE.out hall)
        clear hall
        go_wp2_with fail
        go_ret
        exact ⟨by rw [HV.out]; rfl, hB⟩
  · have hV := eqC_len hl
    rw [hV]
    have hz : ¬ (zs.length : Int) = (ys.length : Int) := by omega
    have hz2 : ((zs.length : Int) != (ys.length : Int)) = true := by rw [bne_iff_ne]; omega
    clear hV
    go_enter Tryd.func23, Tryd.ntmps23
    go_wp2_with fail
    go_ret
    exact ⟨rfl, Below.refl _ _⟩
/-! lists of lists of classes -/
def HeadsC (base : Nat) (w : World) (hs : List Value) (zss : List (List Cl)) : Prop :=
  hs.length = zss.length ∧ ∀ j, j < zss.length → OwnC w base 31 (hs[j]?.getD (.bool false)) (zss[j]?.getD [])
theorem HeadsC.keep {base : Nat} {w w' : World} {hs : List Value} {zss : List (List Cl)} (h : HeadsC base w hs zss) (k : Below w.heap.size w w') : HeadsC base w' hs zss :=
  ⟨h.1, fun j hj => (h.2 j hj).keep k⟩
theorem HeadsC.low {base b2 : Nat} {w : World} {hs : List Value} {zss : List (List Cl)} (h : HeadsC base w hs zss) (k : b2 ≤ base) : HeadsC b2 w hs zss :=
  ⟨h.1, fun j hj => (h.2 j hj).low k⟩
theorem HeadsC.snoc {base : Nat} {w : World} {hs : List Value} {zss : List (List Cl)} {v : Value} {z : List Cl} (h : HeadsC base w hs zss) (hv : OwnC w base 31 v z) : HeadsC base w (hs ++ [v]) (zss ++ [z]) := by
  have hl := h.1
  refine ⟨by simp [hl], fun j hj => ?_⟩
  rw [List.length_append, List.length_singleton] at hj
  by_cases e : j < zss.length
  · rw [List.getElem?_append_left (by omega), List.getElem?_append_left e]
    exact h.2 j e
  · obtain rfl : j = zss.length := by omega
    rw [List.getElem?_append_right (by omega), List.getElem?_append_right (by omega), hl, Nat.sub_self]
    exact hv
/-- a row of slices and a row of classes are two blocks -/
theorem kinds_ne {w : World} {b1 b2 : Nat} {v u : Value} {hs : List Value} {zs : List Cl} (hO : OwnV w b1 33 v hs) (hC : OwnC w b2 31 u zs) : u.ownBlock = none ∨ u.ownBlock ≠ v.ownBlock := by
  rcases hC.2 with ⟨h1, _⟩ | ⟨g, cap, cur, h1, _, hh, _⟩
  · rw [h1]; exact .inl rfl
  · rw [h1]
    refine .inr ?_
    rcases hO.2 with ⟨k1, _⟩ | ⟨g2, cap2, cur2, k1, _, kk, _⟩
    · rw [k1]; intro e; cases e
    · rw [k1]
      intro e
      cases e
      rw [hh] at kk
      cases kk
theorem HeadsC.other {base b1 : Nat} {w w' : World} {hs hs2 : List Value} {zss : List (List Cl)} {v : Value} (h : HeadsC base w hs zss) (hO : OwnV w b1 33 v hs2) (hg : w.grownBy w' v.ownBlock) : HeadsC base w' hs zss :=
  ⟨h.1, fun j hj => OwnC.other (h.2 j hj) hg (kinds_ne hO (h.2 j hj))⟩
def RowS (w : World) (base : Nat) (v : Value) (zss : List (List Cl)) : Prop := ∃ hs, OwnV w base 33 v hs ∧ HeadsC base w hs zss
theorem RowS.keep {w w' : World} {base : Nat} {v : Value} {zss : List (List Cl)} (h : RowS w base v zss) (k : Below w.heap.size w w') : RowS w' base v zss := by
  obtain ⟨hs, h1, h2⟩ := h
  exact ⟨hs, h1.keep k, h2.keep k⟩
theorem RowS.low {w : World} {base b2 : Nat} {v : Value} {zss : List (List Cl)} (h : RowS w base v zss) (k : b2 ≤ base) : RowS w b2 v zss := by
  obtain ⟨hs, h1, h2⟩ := h
  exact ⟨hs, h1.low k, h2.low k⟩
theorem RowS.nil (w : World) (base : Nat) : RowS w base (.slice none 0 0) [] := ⟨[], World.ownsRow_nil w base _ 1, rfl, fun j hj => by simp at hj⟩
theorem RowS.cases {w : World} {base : Nat} {v : Value} {zss : List (List Cl)} (h : RowS w base v zss) : (v = .slice none 0 0 ∧ zss = []) ∨ ∃ g cap, v = .slice (some ⟨g, 0, none⟩) zss.length cap ∧ base ≤ g ∧ g < w.heap.size := by
  obtain ⟨hs, h1, h2⟩ := h
  rcases h1.2 with ⟨h3, h4⟩ | ⟨g, cap, cur, hv, hg, hh, _⟩
  · refine .inl ⟨h3, List.eq_nil_of_length_eq_zero ?_⟩
    rw [← h2.1]; exact h4
  · exact .inr ⟨g, cap, by rw [hv, h2.1], hg, (Array.getElem?_eq_some_iff.1 hh).1⟩
theorem ownC_all {w : World} {base : Nat} {e : TypeId} {v : Value} {zs : List Cl} (h : OwnC w base e v zs) : ∃ s cap, v = .slice s zs.length cap ∧ Cls w s zs.length zs ∧ zs.length ≤ cap ∧ cap ≤ 9223372036854775807 := by
  obtain ⟨s3, cap3, rfl, hC3, _⟩ := h.spread
  refine ⟨s3, cap3, rfl, hC3, ?_⟩
  rcases h.2 with ⟨h1, h2⟩ | ⟨g', cap', cur, h1, _, _, h3, h4, _⟩
  · simp only [Value.slice.injEq] at h1
    omega
  · simp only [Value.slice.injEq] at h1
    unfold maxLen at h4
    omega
theorem RowS.at {w : World} {base g n cap : Nat} {zss : List (List Cl)} (h : RowS w base (.slice (some ⟨g, 0, none⟩) n cap) zss) (hn : zss.length = n) (i : Nat) (hi : i < n) :
    ∃ si ci, w.cell? ⟨g, i, none⟩ = some (.slice si (zss[i]?.getD []).length ci) ∧ OwnC w base 31 (.slice si (zss[i]?.getD []).length ci) (zss[i]?.getD []) ∧ Cls w si (zss[i]?.getD []).length (zss[i]?.getD []) ∧ (zss[i]?.getD []).length ≤ ci ∧ ci ≤ 9223372036854775807 := by
  obtain ⟨hs, h1, h2⟩ := h
  have hc := h1.cell (by rw [h2.1, hn]) i hi
  have ho := h2.2 i (by omega)
  obtain ⟨s, c, hv, hC, k1, k2⟩ := ownC_all ho
  rw [hv] at hc ho
  exact ⟨s, c, hc, ho, hC, k1, k2⟩
theorem RowS.shape {w : World} {base : Nat} {v : Value} {zss : List (List Cl)} (h : RowS w base v zss) : ∃ s cap, v = .slice s zss.length cap ∧ (zss.length = 0 ∨ ∃ g, s = some ⟨g, 0, none⟩ ∧ base ≤ g ∧ g < w.heap.size) := by
  rcases h.cases with ⟨rfl, rfl⟩ | ⟨g, cap, rfl, h1, h2⟩
  · exact ⟨none, 0, rfl, .inl rfl⟩
  · exact ⟨_, cap, rfl, .inr ⟨g, rfl, h1, h2⟩⟩
theorem RowS.other {w w' : World} {base b1 : Nat} {v u : Value} {zss : List (List Cl)} {hs2 : List Value} (h : RowS w base v zss) (hO : OwnV w b1 33 u hs2) (hg : w.grownBy w' u.ownBlock) (hne : v.ownBlock = none ∨ v.ownBlock ≠ u.ownBlock) : RowS w' base v zss := by
  obtain ⟨hs, h1, h2⟩ := h
  exact ⟨hs, h1.other hg hne, h2.other hO hg⟩
theorem infoLC : (Tryd.prog.info? 33).map (fun i => (i.zero, i.size, i.bytes)) = some (some (.slice none 0 0), 1, 24) := by kernel_rfl
theorem one_newS (w : World) (x : Value) (t : TypeId) : ∀ j u, [x][j]? = some u → (w.alloc (.cells #[x] t)).cell? ((⟨w.heap.size, 0, none⟩ : Addr).add j) = some u := by
  intro j u hj
  have h0 : j = 0 := by
    have := (List.getElem?_eq_some_iff.1 hj).1
    simp at this; omega
  subst h0
  simp at hj
  subst hj
  have e : ((⟨w.heap.size, 0, none⟩ : Addr).add 0) = ⟨w.heap.size, 0, none⟩ := by unfold Addr.add; split <;> simp_all
  rw [e]
  simp
theorem rowS_first (w : World) : RowS ((w.alloc (.cells #[.int .i64 0, .int .i64 1] 31)).alloc (.cells #[.slice (some ⟨w.heap.size, 0, none⟩) 1 1] 33)) w.heap.size (.slice (some ⟨w.heap.size + 1, 0, none⟩) 1 1) [[(0, 1)]] := by
  have h1 : OwnC (w.alloc (.cells #[.int .i64 0, .int .i64 1] 31)) w.heap.size 31 (.slice (some ⟨w.heap.size, 0, none⟩) 1 1) [(0, 1)] := World.ownsRow_lit w #[.int .i64 0, .int .i64 1] 1 (Nat.le_refl _) (by unfold maxLen; omega) rfl
  have h2 : OwnV ((w.alloc (.cells #[.int .i64 0, .int .i64 1] 31)).alloc (.cells #[.slice (some ⟨w.heap.size, 0, none⟩) 1 1] 33)) (w.alloc (.cells #[.int .i64 0, .int .i64 1] 31)).heap.size 33 (.slice (some ⟨(w.alloc (.cells #[.int .i64 0, .int .i64 1] 31)).heap.size, 0, none⟩) 1 1) [.slice (some ⟨w.heap.size, 0, none⟩) 1 1] :=
    World.ownsRow_lit (w.alloc (.cells #[.int .i64 0, .int .i64 1] 31)) #[.slice (some ⟨w.heap.size, 0, none⟩) 1 1] 1 (Nat.le_refl _) (by unfold maxLen; omega) rfl
  rw [World.size_alloc] at h2
  refine ⟨_, h2.low (by omega), rfl, fun j hj => ?_⟩
  obtain rfl : j = 0 := by simp at hj; omega
  exact h1.keep (ba (Below.refl _ _) _)
/-- what an append of one list leaves -/
theorem RowS.appended {w w7 : World} {base : Nat} {v v7 h0 : Value} {hs : List Value} {zss : List (List Cl)} {t : List Cl} (hO : OwnV w base 33 v hs) (hH : HeadsC base w hs zss) (hT : OwnC w base 31 h0 t)
    (hown : w7.ownsRow base 33 1 v7 (hs.length + 1) (hs ++ [h0])) (hg : w.grownBy w7 v.ownBlock) : RowS w7 base v7 (zss ++ [t]) := by
  refine ⟨hs ++ [h0], ?_, (hH.other hO hg).snoc (OwnC.other hT hg (kinds_ne hO hT))⟩
  unfold OwnV
  rw [List.length_append, List.length_singleton]
  exact hown
end Go.Proofs.YtobdliefaaoefaaDoor
