/- Chapter 7, the model: l7Sorted, l7Before. -/
import Derived.Test.YtiplnfggiffngaaTh
import Derived.Test.YtiplnfggiffngaaStepA
import Derived.Deep.RegionHeld3
import Derived.BigQuiet
namespace Go.Proofs.Ytiplnfggiffngaa
open Go.RowKit
/-- where a number goes -/
def posZ (x : Int) (l : List Int) : Nat → Nat
  | 0 => 0
  | k + 1 => if gZ l k ≤ x then k + 1 else posZ x l k
def insZ (x : Int) (l : List Int) : List Int := [] ++ l.take (posZ x l l.length) ++ [x] ++ l.drop (posZ x l l.length)
def srtZ (zs : List Int) : Nat → List Int
  | 0 => []
  | k + 1 => insZ (gZ zs k) (srtZ zs k)
theorem posZ_step {x : Int} {l : List Int} {k : Nat} (h : ¬ gZ l k ≤ x) : posZ x l (k + 1) = posZ x l k := by simp only [posZ]; rw [if_neg h]
theorem posZ_stop {x : Int} {l : List Int} {k : Nat} (h : gZ l k ≤ x) : posZ x l (k + 1) = k + 1 := by simp only [posZ]; rw [if_pos h]
theorem posZ_le (x : Int) (l : List Int) (k : Nat) : posZ x l k ≤ k := by
  induction k with
  | zero => exact Nat.le_refl _
  | succ k ih =>
    by_cases h : gZ l k ≤ x
    · rw [posZ_stop h]; exact Nat.le_refl _
    · rw [posZ_step h]; omega
theorem insZ_length (x : Int) (l : List Int) : (insZ x l).length = l.length + 1 := by
  have := posZ_le x l l.length
  unfold insZ
  simp only [List.nil_append, List.length_append, List.length_take, List.length_drop, List.length_singleton]
  omega
theorem srtZ_length (zs : List Int) (k : Nat) : (srtZ zs k).length = k := by
  induction k with
  | zero => rfl
  | succ k ih => rw [srtZ, insZ_length, ih]
theorem Ints.front {w : World} {s : Option Addr} {n k : Nat} {zs : List Int} (h : Ints w s n zs) (hk : k ≤ n) : Ints w s k (zs.take k) := by
  have hlen := h.len
  refine ⟨by rw [List.length_take]; omega, ?_⟩
  rcases h.lies with h0 | ⟨b1, o1, hh, hb1, hcells1⟩
  · left
    omega
  · right
    refine ⟨b1, o1, hh, hb1, fun j hj => ?_⟩
    have := hcells1 j (by omega)
    rw [List.getElem?_take_of_lt hj]
    exact this
theorem Ints.back {w : World} {b off n k : Nat} {zs : List Int} (h : Ints w (some ⟨b, off, none⟩) n zs) (hk : k ≤ n) : Ints w (some ⟨b, off + k, none⟩) (n - k) (zs.drop k) := by
  have hlen := h.len
  refine ⟨by rw [List.length_drop, hlen], ?_⟩
  rcases h.lies with h0 | ⟨b1, o1, hh, hb1, hcells1⟩
  · left
    omega
  · right
    cases hh
    refine ⟨b, off + k, rfl, hb1, fun j hj => ?_⟩
    have := hcells1 (k + j) (by omega)
    rw [List.getElem?_drop, show off + k + j = off + (k + j) by omega]
    exact this
theorem ints_new (w : World) (x : Int) : Ints (w.alloc (.cells #[.int .i64 x] 3)) (some ⟨w.heap.size, 0, none⟩) 1 [x] := by
  refine ⟨rfl, .inr ⟨w.heap.size, 0, rfl, by simp, fun j hj => ?_⟩⟩
  obtain rfl : j = 0 := by omega
  simp
theorem Ints.other {w w' : World} {b n g : Nat} {off : Nat} {zs : List Int} (h : Ints w (some ⟨b, off, none⟩) n zs) (k : w.grownBy w' (some g)) (hne : b ≠ g) : Ints w' (some ⟨b, off, none⟩) n zs := by
  refine ⟨h.len, ?_⟩
  rcases h.lies with h0 | ⟨b1, o1, hs, hb, hc⟩
  · exact .inl h0
  · cases hs
    refine .inr ⟨b, off, rfl, Nat.lt_of_lt_of_le hb k.size, fun i hi => ?_⟩
    rw [World.cell?_of_block (a := ⟨b, off + i, none⟩) (k.block b hb (by simpa using hne))]
    exact hc i hi
theorem run_append_noneI {P : Program} (w : World) (t ty e : TypeId) (i : TypeInfo) (ht : P.underlying t = some (.slice e)) (hi : P.info? e = some i) (bs : Option Addr) (sLen sCap c : Nat) (hle : sLen ≤ sCap) (sx : Option Addr) :
    (Builtin.append_ #[t, t] ty #[.slice bs sLen sCap, .slice sx 0 c]).run P w = .ok (.slice bs sLen sCap) w := by
  cases bs <;> cases sx <;> simp [Builtin.append_, run_underlying ht, sizeOf, typeInfo, hi, hle, storeCells, Builtin.lenOf, Builtin.firstCells, loadCells, loadCellsFrom, Result.andThen]
theorem wp_append_noneI {P : Program} {w : World} {o : Oper} {a : Act} {K : Act → World → Prop} {Q : Exit → Act → World → Prop} (s x : Operand) (t : TypeId)
    (ho : o.op = .call { callee := .builtin .append, args := #[s, x], argTypes := #[t, t] })
    (e : TypeId) (i : TypeInfo) (ht : P.underlying t = some (.slice e)) (hi : P.info? e = some i)
    (bs : Option Addr) (sLen sCap c : Nat) (hle : sLen ≤ sCap) (sx : Option Addr) (hs : a.eval s = .slice bs sLen sCap) (hx : a.eval x = .slice sx 0 c)
    (h : K (a.put o.dst (.slice bs sLen sCap)) w) : o.wp P a w K Q := by
  have hr := run_append_noneI (P := P) w t o.type e i ht hi bs sLen sCap c hle sx
  unfold Oper.wp execOp
  simp only [ho, resolve, invoke, builtin, Sem.run_bind, Sem.run_pure, Result.andThen_ok, List.map_toArray, List.map_cons, List.map_nil, hs, hx, hr]
  exact h
theorem ints_news {w : World} {b off n : Nat} {zs : List Int} (h : Ints w (some ⟨b, off, none⟩) n zs) (hn : 0 < n) : ∀ j u, (zs.map (Value.int .i64))[j]? = some u → w.cell? ((⟨b, off, none⟩ : Addr).add j) = some u := by
  intro j u hj
  have hlen := h.len
  rw [List.getElem?_map] at hj
  have hlt : j < zs.length := by
    rcases Nat.lt_or_ge j zs.length with h1 | h1
    · exact h1
    · rw [List.getElem?_eq_none h1] at hj; simp at hj
  rcases h.lies with h0 | ⟨b1, o1, hs, hb, hc⟩
  · omega
  cases hs
  have hcj := hc j (by omega)
  rw [List.getElem?_eq_getElem hlt] at hj hcj
  simp only [Option.map_some, Option.some.injEq, Option.getD_some] at hj hcj
  subst hj
  have e : ((⟨b, off, none⟩ : Addr).add j) = ⟨b, off + j, none⟩ := by unfold Addr.add; split <;> simp_all
  rw [e]
  exact hcj
theorem wp_append_int {w : World} {o : Oper} {a : Act} {K : Act → World → Prop} {Q : Exit → Act → World → Prop} (s x : Operand)
    (ho : o.op = .call { callee := .builtin .append, args := #[s, x], argTypes := #[23, 23] })
    (base : Nat) (v : Value) (zs : List Int) (hs : a.eval s = v) (hown : OwnI w base 3 v zs)
    (sx : Option Addr) (m c : Nat) (ys : List Int) (hx : a.eval x = .slice sx m c) (hc : Ints w sx m ys) (hb : zs.length + m ≤ 1000000) (hbase : base ≤ w.heap.size)
    (h : ∀ v' w', OwnI w' base 3 v' (zs ++ ys) → w.grownBy w' v.ownBlock → K (a.put o.dst v') w') : o.wp Try.prog a w K Q := by
  obtain ⟨i0, hi, hz0, hz1, hz2⟩ := info_parts infoR
  have hlen := hc.len
  rcases Nat.eq_zero_or_pos m with rfl | hm
  · have hy : ys = [] := List.length_eq_zero_iff.1 hlen
    subst hy
    have hown' : OwnI w base 3 v (zs ++ []) := by rwa [List.append_nil]
    rcases hown.2 with ⟨rfl, hz⟩ | ⟨g, cap, cur, rfl, _, _, hle, _⟩
    · exact wp_append_noneI s x _ ho _ i0 Try.underlying23 hi none 0 0 c (Nat.le_refl _) sx hs hx (h _ _ hown' (World.grownBy.refl _ _))
    · exact wp_append_noneI s x _ ho _ i0 Try.underlying23 hi (some ⟨g, 0, none⟩) zs.length cap c hle sx hs hx (h _ _ hown' (World.grownBy.refl _ _))
  · rcases hc.lies with h0 | ⟨b, off, rfl, _, _⟩
    · omega
    · refine wp_append_own w s x _ ho base 3 i0 (.int .i64 0) 1 8 Try.underlying23 hi hz0 hz1 hz2 rfl Nat.one_pos v zs.length (zs.map (Value.int .i64)) hs hown ⟨b, off, none⟩ m c (ys.map (Value.int .i64)) hx (by rw [List.length_map, hlen, Nat.mul_one]) (ints_news hc hm) (ints_one ys) (by unfold maxLen; omega) (by omega) hbase ?_
      intro v' w' h1 h2 _
      refine h v' w' ?_ h2
      unfold OwnI
      rw [List.map_append, List.length_append, hlen]
      exact h1
theorem step_append_int {ops : Array Oper} {o : Oper} {a : Act} {w : World} {K : Act → World → Prop} {Q : Exit → Act → World → Prop} {E : Prop} (hg : o.guard = none) (s x : Operand)
    (ho : o.op = .call { callee := .builtin .append, args := #[s, x], argTypes := #[23, 23] })
    (base : Nat) (v : Value) (zs : List Int) (hs : a.eval s = v) (hown : OwnI w base 3 v zs)
    (sx : Option Addr) (m c : Nat) (ys : List Int) (hx : a.eval x = .slice sx m c) (hc : Ints w sx m ys) (hb : zs.length + m ≤ 1000000) (hbase : base ≤ w.heap.size)
    (h : ∀ v' w', OwnI w' base 3 v' (zs ++ ys) → w.grownBy w' v.ownBlock → K (a.put o.dst v') w') :
    if Region.wanted o (yielded ops a.tmps) = true then Oper.wp Try.prog o a w K Q else E := by
  have hw : Region.wanted o (yielded ops a.tmps) = true := by simp [Region.wanted, hg]
  rw [if_pos hw]
  exact wp_append_int s x ho base v zs hs hown sx m c ys hx hc hb hbase h
theorem own_litI (w : World) : OwnI (w.alloc (.cells #[] 3)) w.heap.size 3 (.slice (some ⟨w.heap.size, 0, none⟩) 0 0) [] := World.ownsRow_lit w #[] 0 (Nat.le_refl _) (by unfold maxLen; omega) rfl
theorem ownI_le {w : World} {base g n cap : Nat} {zs : List Int} (h : OwnI w base 3 (.slice (some ⟨g, 0, none⟩) n cap) zs) : n ≤ cap := by
  rcases h.2 with ⟨h1, _⟩ | ⟨g', cap', cur, h1, _, _, hn, _⟩
  · simp at h1
  · simp only [Value.slice.injEq, Option.some.injEq, Addr.mk.injEq, and_true] at h1
    obtain ⟨_, rfl, rfl⟩ := h1
    exact hn
set_option maxRecDepth 20000 in
set_option maxHeartbeats 8000000 in
theorem c_l7Sorted (s : Option Addr) (n cap : Nat) (zs : List Int) (hn : n ≤ 1000) (w : World) (hc : Ints w s n zs) :
    Calls Try.prog 40 #[.slice s n cap] w fun e w' => ∃ v, e = .returned v ∧ OwnI w' w.heap.size 3 v (srtZ zs n) ∧ Below w.heap.size w w' := by
  have HLen := Lib.hid (fun (i : Nat) => srtZ_length zs i)
  have HStep := Lib.hid (fun (i : Nat) => show srtZ zs (i + 1) = insZ (gZ zs i) (srtZ zs i) from rfl)
  go_enter Try.func40, Try.ntmps40
  go_wp2_with fail
  go_loopw [3, 4] (fun v i wr => ∃ k g cp : Nat, k ≤ n ∧ i = .int .i64 k ∧ v = .slice (some ⟨g, 0, none⟩) k cp ∧ k ≤ cp ∧ OwnI wr w.heap.size 3 (.slice (some ⟨g, 0, none⟩) k cp) (srtZ zs k) ∧ Below w.heap.size w wr) (fun _ i _ => n - (intOf i).toNat)
  case atStart => exact ⟨0, w.heap.size, 0, Nat.zero_le _, rfl, rfl, Nat.le_refl _, own_litI w, ba (Below.refl _ _) _⟩
  case round =>
    obtain ⟨i, g, cp, hi, rfl, rfl, hcp, hO, hB⟩ := hrel
    have hiw : i ≤ 1000 := by omega
    by_cases hlt : i < n
    · have hL := hO.ints (HLen.out i)
      have hll := HLen.out i
      have HS := Lib.hid (HStep.out i)
      rcases (hc.keep hB).lies with h0 | ⟨b1, o1, rfl, hb1, hcells1⟩
      · omega
      have hx1 : wr.cell? ⟨b1, o1 + i, none⟩ = some (.int .i64 (gZ zs i)) := hcells1 i hlt
      generalize hcl : srtZ zs i = l at *
      clear hcells1
      generalize hrc : gZ zs i = rc at *
      have hiz0 : (0 : Int) ≤ (i : Int) := by omega
      have hiz1 : (i : Int) < (n : Int) := by omega
      go_wp2_with fail
      go_loopw [5] (fun x wq => ∃ k : Nat, k ≤ i ∧ x = .int .i64 k ∧ Hid (posZ rc l i = posZ rc l k) ∧ Below wr.heap.size wr wq) (fun x _ => (intOf x).toNat)
      case atStart => exact ⟨i, Nat.le_refl _, rfl, Lib.hid rfl, Below.refl _ _⟩
      case round =>
        obtain ⟨k, hk, rfl, hP, hBq⟩ := hrel
        have hx1' := keepc hBq hx1
        rcases Nat.eq_zero_or_pos k with hk0 | hk0
        · have hPk : posZ rc l k = k := by rw [hk0]; rfl
          have hkz : decide (0 < k) = false := by rw [hk0]; rfl
          replace hk0 := Lib.hid hk0
          go_wp2_with fail
          go_quiet (fail)
          go_wp2_with fail
          have hpk : posZ rc l i = k := by rw [hP.out]; exact hPk
          have HI := Lib.hid (show insZ rc l = [] ++ l.take k ++ [rc] ++ l.drop k by unfold insZ; rw [hll, hpk])
          clear hpk hPk hP
          have hkz0 : (0 : Int) ≤ (k : Int) := by omega
          have hkz1 : (k : Int) ≤ (cp : Int) := by omega
          have hkz2 : (k : Int) ≤ (i : Int) := by omega
          have hkz3 : (i : Int) ≤ (cp : Int) := by omega
          have hBz := bel_drewN hBq nq
          generalize wr.drewN nq = wq at *
          have hLk := hL.keep hBz
          have hO1 := own_litI wq
          have hO2 := hO1.keep (ba (Below.refl _ _) (.cells #[.int .i64 rc] 3))
          have hO3 : OwnI ((wq.alloc (.cells #[.int .i64 rc] 3)).alloc (.cells #[] 3)) wq.heap.size 3 (.slice (some ⟨wq.heap.size + 1, 0, none⟩) 0 0) [] := by
            have := (own_litI (wq.alloc (.cells #[.int .i64 rc] 3))).low (b2 := wq.heap.size) (by simp)
            simpa using this
          have HF := Lib.hid (fun W (h : Below wq.heap.size wq W) => (hLk.keep h).front (k := k) hk)
          have HD := Lib.hid (fun W (h : Below wq.heap.size wq W) => show Ints W (some ⟨g, k, none⟩) (i - k) (l.drop k) by
            have := (hLk.keep h).back (k := k) hk
            rwa [Nat.zero_add] at this)
          have hlt2 : (l.take k).length = k := by rw [List.length_take]; omega
          have hn1 : ∀ W : World, Ints (W.alloc (.cells #[.int .i64 rc] 3)) (some ⟨W.heap.size, 0, none⟩) 1 [rc] := fun W => ints_new W rc
          have hA : k < cp ∨ k = cp := by omega
          have hq1 := keepc hBz hx1
          have hN2 : Ints ((wq.alloc (.cells #[] 3)).alloc (.cells #[.int .i64 rc] 3)) (some ⟨wq.heap.size + 1, 0, none⟩) 1 [rc] := by simpa using hn1 (wq.alloc (.cells #[] 3))
          have hN3 := (hn1 wq).keep (ba (Below.refl _ _) (.cells #[] 3))
          have hw11 := (ba (Below.refl wq.heap.size wq) (.cells #[] 3)).drew
          have hw22 := (ba (ba (Below.refl wq.heap.size wq) (.cells #[] 3)) (.cells #[.int .i64 rc] 3)).drew
          have hw33 := (ba (ba (Below.refl wq.heap.size wq) (.cells #[.int .i64 rc] 3)) (.cells #[] 3)).drew
          have hP1 : OwnI (wq.alloc (.cells #[] 3)).drew wq.heap.size 3 (.slice (some ⟨wq.heap.size, 0, none⟩) 0 0) [] := hO1
          have hP2 : OwnI ((wq.alloc (.cells #[] 3)).alloc (.cells #[.int .i64 rc] 3)).drew wq.heap.size 3 (.slice (some ⟨wq.heap.size, 0, none⟩) 0 0) [] := hO2
          have hP3 : OwnI ((wq.alloc (.cells #[.int .i64 rc] 3)).alloc (.cells #[] 3)).drew wq.heap.size 3 (.slice (some ⟨wq.heap.size + 1, 0, none⟩) 0 0) [] := hO3
          have hM2 := hN2.keep (Below.refl _ _).drew
          have hM3 := hN3.keep (Below.refl _ _).drew
          have hb11 := hw11.size
          have hb22 := hw22.size
          have hb33 := hw33.size
          have hF1 := HF.out _ hw11
          have hF2 := HF.out _ hw22
          have hF3 := HF.out _ hw33
          have hbase : w.heap.size ≤ wq.heap.size := Nat.le_trans hB.size hBz.size
          have HIL := Lib.hid (show (insZ rc l).length = i + 1 by rw [insZ_length, hll])
          have hBw := Lib.hid (hB.trans (hBz.mono hB.size))
          try clear hk0
          clear hL hLk hO
          try clear hkz
          rcases hA with hA | hA
          · have hAn : ¬ cp = k := by omega
            go_region_held3 (fun w' => w'.cell? ⟨b1, o1 + i, none⟩ = some (.int .i64 rc)) (first | go_keep | exact keepc (by repeat (first | exact Below.refl _ _ | assumption | refine Below.drew ?_ | refine bel_drewN ?_ _ | refine ba ?_ _ | refine bt2 ?_ (by assumption) | refine Below.setCell ?_ (by simp <;> omega) _)) hq1) (first
              | (refine step_append_int rfl (.tmp 31) (.tmp 34) rfl wq.heap.size _ [] rfl hP1 (some ⟨g, 0, none⟩) k cp (l.take k) rfl hF1 (by simp; omega) hb11 ?_; intro v5 w5 hO5 hg5; have hB5 : Below wq.heap.size wq w5 := Below.grown hw11 hg5 hb11 (fun g e => by cases e; exact Nat.le_refl _); have hC5 := hn1 w5; have hs5 := hB5.size)
              | (refine step_append_int rfl (.tmp 31) (.tmp 34) rfl wq.heap.size _ [] rfl hP2 (some ⟨g, 0, none⟩) k cp (l.take k) rfl hF2 (by simp; omega) hb22 ?_; intro v5 w5 hO5 hg5; have hB5 : Below wq.heap.size wq w5 := Below.grown hw22 hg5 hb22 (fun g e => by cases e; exact Nat.le_refl _); have hC5 := Ints.other (g := wq.heap.size) hM2 hg5 (by omega); have hs5 := hB5.size)
              | (refine step_append_int rfl (.tmp 31) (.tmp 34) rfl wq.heap.size _ [] rfl hP3 (some ⟨g, 0, none⟩) k cp (l.take k) rfl hF3 (by simp; omega) hb33 ?_; intro v5 w5 hO5 hg5; have hB5 : Below wq.heap.size wq w5 := Below.grown hw33 hg5 hb33 (fun g e => by cases e; simp); have hC5 := Ints.other (g := wq.heap.size + 1) hM3 hg5 (by omega); have hs5 := hB5.size)
              | (refine step_append_int rfl (.tmp 35) (.tmp 40) rfl wq.heap.size v5 _ rfl (hO5.keep (ba (Below.refl _ _) _)) (some ⟨w5.heap.size, 0, none⟩) 1 1 [rc] rfl hC5 (by simp; omega) (by simp; omega) ?_; intro v7 w7 hO7 hg7; have hB7 : Below wq.heap.size wq w7 := Below.grown (by repeat (first | exact Below.refl _ _ | assumption | refine Below.drew ?_ | refine bel_drewN ?_ _ | refine ba ?_ _ | refine bt2 ?_ (by assumption) | refine Below.setCell ?_ (by simp <;> omega) _)) hg7 (by simp; omega) (fun g e => (World.ownsRow.lt hO5 g e).1); have hs7 := hB7.size)
              | (refine step_append_int rfl (.tmp 35) (.tmp 40) rfl wq.heap.size v5 _ rfl hO5 (some ⟨wq.heap.size + 1, 0, none⟩) 1 1 [rc] rfl hC5 (by simp; omega) hs5 ?_; intro v7 w7 hO7 hg7; have hB7 : Below wq.heap.size wq w7 := Below.grown hB5 hg7 hs5 (fun g e => (World.ownsRow.lt hO5 g e).1); have hs7 := hB7.size)
              | (refine step_append_int rfl (.tmp 35) (.tmp 40) rfl wq.heap.size v5 _ rfl hO5 (some ⟨wq.heap.size, 0, none⟩) 1 1 [rc] rfl hC5 (by simp; omega) hs5 ?_; intro v7 w7 hO7 hg7; have hB7 : Below wq.heap.size wq w7 := Below.grown hB5 hg7 hs5 (fun g e => (World.ownsRow.lt hO5 g e).1); have hs7 := hB7.size)
              | (refine step_append_int rfl (.tmp 41) (.tmp 44) rfl wq.heap.size v7 _ rfl hO7 (some ⟨g, k, none⟩) (i - k) (cp - k) (l.drop k) rfl (HD.out _ hB7) (by simp; omega) hs7 ?_; intro v9 w9 hO9 hg9; have hB9 : Below wq.heap.size wq w9 := Below.grown hB7 hg9 hs7 (fun g e => (World.ownsRow.lt hO7 g e).1))
              | fail)
            all_goals
              rw [← HI.out] at hO9
              obtain ⟨g9, c9, hv9⟩ : ∃ g9 c9, v9 = .slice (some ⟨g9, 0, none⟩) (i + 1) c9 := by
                rcases hO9.cases with ⟨_, hz⟩ | ⟨g9, c9, hv, _⟩
                · rw [hz] at HIL; have := HIL.out; simp at this
                · exact ⟨g9, c9, by rw [hv, HIL.out]⟩
              subst hv9
              have hle9 := ownI_le hO9
              have hOw := hO9.low hbase
              rw [← HS.out] at hOw
              have hB9w := hBw.out.trans (hB9.mono hbase)
              clear hO9 hO7 hO5 hg9 hg7 hg5 hB9 hB7 hB5
              go_wp2_with fail
              go_roundw
              case rel => exact ⟨i + 1, g9, c9, by omega, by go_num, rfl, hle9, hOw, hB9w⟩
              case measure => simp [intOf]; omega
          · obtain rfl : k = i := by omega
            obtain rfl : k = cp := hA
            go_region_held3 (fun w' => w'.cell? ⟨b1, o1 + k, none⟩ = some (.int .i64 rc)) (first | go_keep | exact keepc (by repeat (first | exact Below.refl _ _ | assumption | refine Below.drew ?_ | refine bel_drewN ?_ _ | refine ba ?_ _ | refine bt2 ?_ (by assumption) | refine Below.setCell ?_ (by simp <;> omega) _)) hq1) (first
              | (refine step_append_int rfl (.tmp 31) (.tmp 34) rfl wq.heap.size _ [] rfl hP1 (some ⟨g, 0, none⟩) k k (l.take k) rfl hF1 (by simp; omega) hb11 ?_; intro v5 w5 hO5 hg5; have hB5 : Below wq.heap.size wq w5 := Below.grown hw11 hg5 hb11 (fun g e => by cases e; exact Nat.le_refl _); have hC5 := hn1 w5; have hs5 := hB5.size)
              | (refine step_append_int rfl (.tmp 31) (.tmp 34) rfl wq.heap.size _ [] rfl hP2 (some ⟨g, 0, none⟩) k k (l.take k) rfl hF2 (by simp; omega) hb22 ?_; intro v5 w5 hO5 hg5; have hB5 : Below wq.heap.size wq w5 := Below.grown hw22 hg5 hb22 (fun g e => by cases e; exact Nat.le_refl _); have hC5 := Ints.other (g := wq.heap.size) hM2 hg5 (by omega); have hs5 := hB5.size)
              | (refine step_append_int rfl (.tmp 31) (.tmp 34) rfl wq.heap.size _ [] rfl hP3 (some ⟨g, 0, none⟩) k k (l.take k) rfl hF3 (by simp; omega) hb33 ?_; intro v5 w5 hO5 hg5; have hB5 : Below wq.heap.size wq w5 := Below.grown hw33 hg5 hb33 (fun g e => by cases e; simp); have hC5 := Ints.other (g := wq.heap.size + 1) hM3 hg5 (by omega); have hs5 := hB5.size)
              | (refine step_append_int rfl (.tmp 35) (.tmp 40) rfl wq.heap.size v5 _ rfl (hO5.keep (ba (Below.refl _ _) _)) (some ⟨w5.heap.size, 0, none⟩) 1 1 [rc] rfl hC5 (by simp; omega) (by simp; omega) ?_; intro v7 w7 hO7 hg7; have hB7 : Below wq.heap.size wq w7 := Below.grown (by repeat (first | exact Below.refl _ _ | assumption | refine Below.drew ?_ | refine bel_drewN ?_ _ | refine ba ?_ _ | refine bt2 ?_ (by assumption) | refine Below.setCell ?_ (by simp <;> omega) _)) hg7 (by simp; omega) (fun g e => (World.ownsRow.lt hO5 g e).1); have hs7 := hB7.size)
              | (refine step_append_int rfl (.tmp 35) (.tmp 40) rfl wq.heap.size v5 _ rfl hO5 (some ⟨wq.heap.size + 1, 0, none⟩) 1 1 [rc] rfl hC5 (by simp; omega) hs5 ?_; intro v7 w7 hO7 hg7; have hB7 : Below wq.heap.size wq w7 := Below.grown hB5 hg7 hs5 (fun g e => (World.ownsRow.lt hO5 g e).1); have hs7 := hB7.size)
              | (refine step_append_int rfl (.tmp 35) (.tmp 40) rfl wq.heap.size v5 _ rfl hO5 (some ⟨wq.heap.size, 0, none⟩) 1 1 [rc] rfl hC5 (by simp; omega) hs5 ?_; intro v7 w7 hO7 hg7; have hB7 : Below wq.heap.size wq w7 := Below.grown hB5 hg7 hs5 (fun g e => (World.ownsRow.lt hO5 g e).1); have hs7 := hB7.size)
              | (refine step_append_int rfl (.tmp 41) (.tmp 44) rfl wq.heap.size v7 _ rfl hO7 (some ⟨g, 0, none⟩) 0 0 [] rfl ⟨rfl, .inl rfl⟩ (by simp; omega) hs7 ?_; intro v9 w9 hO9 hg9; have hB9 : Below wq.heap.size wq w9 := Below.grown hB7 hg9 hs7 (fun g e => (World.ownsRow.lt hO7 g e).1))
              | fail)
            all_goals
              rw [show [] ++ l.take k ++ [rc] ++ [] = insZ rc l by rw [HI.out, List.drop_eq_nil_of_le (by omega)]] at hO9
              obtain ⟨g9, c9, hv9⟩ : ∃ g9 c9, v9 = .slice (some ⟨g9, 0, none⟩) (k + 1) c9 := by
                rcases hO9.cases with ⟨_, hz⟩ | ⟨g9, c9, hv, _⟩
                · rw [hz] at HIL; have := HIL.out; simp at this
                · exact ⟨g9, c9, by rw [hv, HIL.out]⟩
              subst hv9
              have hle9 := ownI_le hO9
              have hOw := hO9.low hbase
              rw [← HS.out] at hOw
              have hB9w := hBw.out.trans (hB9.mono hbase)
              clear hO9 hO7 hO5 hg9 hg7 hg5 hB9 hB7 hB5
              go_wp2_with fail
              go_roundw
              case rel => exact ⟨k + 1, g9, c9, by omega, by go_num, rfl, hle9, hOw, hB9w⟩
              case measure => simp [intOf]; omega
        · obtain ⟨j, rfl⟩ : ∃ j, k = j + 1 := ⟨k - 1, by omega⟩
          have hy1 : wr.cell? ⟨g, j, none⟩ = some (.int .i64 (gZ l j)) := by
            rcases (hL.keep hBq).lies with h0 | ⟨b2, o2, e2, hb2, hcells2⟩
            · omega
            · cases e2
              have := hcells2 j (by omega)
              rwa [Nat.zero_add] at this
          have hjz0 : (0 : Int) ≤ (j : Int) := by omega
          have hjz1 : (j : Int) < (i : Int) := by omega
          have hst := fun (h : ¬ gZ l j ≤ rc) => posZ_step h
          have hsp := fun (h : gZ l j ≤ rc) => posZ_stop h
          generalize gZ l j = rl at *
          by_cases hA : rc < rl
          · have HP2 := Lib.hid (show posZ rc l i = posZ rc l j by rw [hP.out]; exact hst (by omega))
            have hA2 : decide (rc < rl) = true := decide_eq_true hA
            clear hst hsp hA
            go_wp2_with fail
            go_quiet (fail)
            go_wp2_with fail
            go_roundw
            case rel => exact ⟨j, by omega, rfl, HP2, bel_drewN hBq _⟩
            case measure => simp [intOf]
          · have hPk : posZ rc l (j + 1) = j + 1 := hsp (by omega)
            have hA2 : decide (rc < rl) = false := decide_eq_false hA
            clear hst hsp hA
            go_wp2_with fail
            go_quiet (fail)
            go_wp2_with fail
            generalize hjk : j + 1 = k at *
            have hpk : posZ rc l i = k := by rw [hP.out]; exact hPk
            have HI := Lib.hid (show insZ rc l = [] ++ l.take k ++ [rc] ++ l.drop k by unfold insZ; rw [hll, hpk])
            clear hpk hPk hP
            have hkz0 : (0 : Int) ≤ (k : Int) := by omega
            have hkz1 : (k : Int) ≤ (cp : Int) := by omega
            have hkz2 : (k : Int) ≤ (i : Int) := by omega
            have hkz3 : (i : Int) ≤ (cp : Int) := by omega
            have hBz := bel_drewN hBq nq
            generalize wr.drewN nq = wq at *
            have hLk := hL.keep hBz
            have hO1 := own_litI wq
            have hO2 := hO1.keep (ba (Below.refl _ _) (.cells #[.int .i64 rc] 3))
            have hO3 : OwnI ((wq.alloc (.cells #[.int .i64 rc] 3)).alloc (.cells #[] 3)) wq.heap.size 3 (.slice (some ⟨wq.heap.size + 1, 0, none⟩) 0 0) [] := by
              have := (own_litI (wq.alloc (.cells #[.int .i64 rc] 3))).low (b2 := wq.heap.size) (by simp)
              simpa using this
            have HF := Lib.hid (fun W (h : Below wq.heap.size wq W) => (hLk.keep h).front (k := k) hk)
            have HD := Lib.hid (fun W (h : Below wq.heap.size wq W) => show Ints W (some ⟨g, k, none⟩) (i - k) (l.drop k) by
              have := (hLk.keep h).back (k := k) hk
              rwa [Nat.zero_add] at this)
            have hlt2 : (l.take k).length = k := by rw [List.length_take]; omega
            have hn1 : ∀ W : World, Ints (W.alloc (.cells #[.int .i64 rc] 3)) (some ⟨W.heap.size, 0, none⟩) 1 [rc] := fun W => ints_new W rc
            have hA : k < cp ∨ k = cp := by omega
            have hq1 := keepc hBz hx1
            have hN2 : Ints ((wq.alloc (.cells #[] 3)).alloc (.cells #[.int .i64 rc] 3)) (some ⟨wq.heap.size + 1, 0, none⟩) 1 [rc] := by simpa using hn1 (wq.alloc (.cells #[] 3))
            have hN3 := (hn1 wq).keep (ba (Below.refl _ _) (.cells #[] 3))
            have hw11 := (ba (Below.refl wq.heap.size wq) (.cells #[] 3)).drew
            have hw22 := (ba (ba (Below.refl wq.heap.size wq) (.cells #[] 3)) (.cells #[.int .i64 rc] 3)).drew
            have hw33 := (ba (ba (Below.refl wq.heap.size wq) (.cells #[.int .i64 rc] 3)) (.cells #[] 3)).drew
            have hP1 : OwnI (wq.alloc (.cells #[] 3)).drew wq.heap.size 3 (.slice (some ⟨wq.heap.size, 0, none⟩) 0 0) [] := hO1
            have hP2 : OwnI ((wq.alloc (.cells #[] 3)).alloc (.cells #[.int .i64 rc] 3)).drew wq.heap.size 3 (.slice (some ⟨wq.heap.size, 0, none⟩) 0 0) [] := hO2
            have hP3 : OwnI ((wq.alloc (.cells #[.int .i64 rc] 3)).alloc (.cells #[] 3)).drew wq.heap.size 3 (.slice (some ⟨wq.heap.size + 1, 0, none⟩) 0 0) [] := hO3
            have hM2 := hN2.keep (Below.refl _ _).drew
            have hM3 := hN3.keep (Below.refl _ _).drew
            have hb11 := hw11.size
            have hb22 := hw22.size
            have hb33 := hw33.size
            have hF1 := HF.out _ hw11
            have hF2 := HF.out _ hw22
            have hF3 := HF.out _ hw33
            have hbase : w.heap.size ≤ wq.heap.size := Nat.le_trans hB.size hBz.size
            have HIL := Lib.hid (show (insZ rc l).length = i + 1 by rw [insZ_length, hll])
            have hBw := Lib.hid (hB.trans (hBz.mono hB.size))
            try clear hk0
            clear hL hLk hO
            try clear hkz
            rcases hA with hA | hA
            · have hAn : ¬ cp = k := by omega
              go_region_held3 (fun w' => w'.cell? ⟨b1, o1 + i, none⟩ = some (.int .i64 rc)) (first | go_keep | exact keepc (by repeat (first | exact Below.refl _ _ | assumption | refine Below.drew ?_ | refine bel_drewN ?_ _ | refine ba ?_ _ | refine bt2 ?_ (by assumption) | refine Below.setCell ?_ (by simp <;> omega) _)) hq1) (first
                | (refine step_append_int rfl (.tmp 31) (.tmp 34) rfl wq.heap.size _ [] rfl hP1 (some ⟨g, 0, none⟩) k cp (l.take k) rfl hF1 (by simp; omega) hb11 ?_; intro v5 w5 hO5 hg5; have hB5 : Below wq.heap.size wq w5 := Below.grown hw11 hg5 hb11 (fun g e => by cases e; exact Nat.le_refl _); have hC5 := hn1 w5; have hs5 := hB5.size)
                | (refine step_append_int rfl (.tmp 31) (.tmp 34) rfl wq.heap.size _ [] rfl hP2 (some ⟨g, 0, none⟩) k cp (l.take k) rfl hF2 (by simp; omega) hb22 ?_; intro v5 w5 hO5 hg5; have hB5 : Below wq.heap.size wq w5 := Below.grown hw22 hg5 hb22 (fun g e => by cases e; exact Nat.le_refl _); have hC5 := Ints.other (g := wq.heap.size) hM2 hg5 (by omega); have hs5 := hB5.size)
                | (refine step_append_int rfl (.tmp 31) (.tmp 34) rfl wq.heap.size _ [] rfl hP3 (some ⟨g, 0, none⟩) k cp (l.take k) rfl hF3 (by simp; omega) hb33 ?_; intro v5 w5 hO5 hg5; have hB5 : Below wq.heap.size wq w5 := Below.grown hw33 hg5 hb33 (fun g e => by cases e; simp); have hC5 := Ints.other (g := wq.heap.size + 1) hM3 hg5 (by omega); have hs5 := hB5.size)
                | (refine step_append_int rfl (.tmp 35) (.tmp 40) rfl wq.heap.size v5 _ rfl (hO5.keep (ba (Below.refl _ _) _)) (some ⟨w5.heap.size, 0, none⟩) 1 1 [rc] rfl hC5 (by simp; omega) (by simp; omega) ?_; intro v7 w7 hO7 hg7; have hB7 : Below wq.heap.size wq w7 := Below.grown (by repeat (first | exact Below.refl _ _ | assumption | refine Below.drew ?_ | refine bel_drewN ?_ _ | refine ba ?_ _ | refine bt2 ?_ (by assumption) | refine Below.setCell ?_ (by simp <;> omega) _)) hg7 (by simp; omega) (fun g e => (World.ownsRow.lt hO5 g e).1); have hs7 := hB7.size)
                | (refine step_append_int rfl (.tmp 35) (.tmp 40) rfl wq.heap.size v5 _ rfl hO5 (some ⟨wq.heap.size + 1, 0, none⟩) 1 1 [rc] rfl hC5 (by simp; omega) hs5 ?_; intro v7 w7 hO7 hg7; have hB7 : Below wq.heap.size wq w7 := Below.grown hB5 hg7 hs5 (fun g e => (World.ownsRow.lt hO5 g e).1); have hs7 := hB7.size)
                | (refine step_append_int rfl (.tmp 35) (.tmp 40) rfl wq.heap.size v5 _ rfl hO5 (some ⟨wq.heap.size, 0, none⟩) 1 1 [rc] rfl hC5 (by simp; omega) hs5 ?_; intro v7 w7 hO7 hg7; have hB7 : Below wq.heap.size wq w7 := Below.grown hB5 hg7 hs5 (fun g e => (World.ownsRow.lt hO5 g e).1); have hs7 := hB7.size)
                | (refine step_append_int rfl (.tmp 41) (.tmp 44) rfl wq.heap.size v7 _ rfl hO7 (some ⟨g, k, none⟩) (i - k) (cp - k) (l.drop k) rfl (HD.out _ hB7) (by simp; omega) hs7 ?_; intro v9 w9 hO9 hg9; have hB9 : Below wq.heap.size wq w9 := Below.grown hB7 hg9 hs7 (fun g e => (World.ownsRow.lt hO7 g e).1))
                | fail)
              all_goals
                rw [← HI.out] at hO9
                obtain ⟨g9, c9, hv9⟩ : ∃ g9 c9, v9 = .slice (some ⟨g9, 0, none⟩) (i + 1) c9 := by
                  rcases hO9.cases with ⟨_, hz⟩ | ⟨g9, c9, hv, _⟩
                  · rw [hz] at HIL; have := HIL.out; simp at this
                  · exact ⟨g9, c9, by rw [hv, HIL.out]⟩
                subst hv9
                have hle9 := ownI_le hO9
                have hOw := hO9.low hbase
                rw [← HS.out] at hOw
                have hB9w := hBw.out.trans (hB9.mono hbase)
                clear hO9 hO7 hO5 hg9 hg7 hg5 hB9 hB7 hB5
                go_wp2_with fail
                go_roundw
                case rel => exact ⟨i + 1, g9, c9, by omega, by go_num, rfl, hle9, hOw, hB9w⟩
                case measure => simp [intOf]; omega
            · obtain rfl : k = i := by omega
              obtain rfl : k = cp := hA
              go_region_held3 (fun w' => w'.cell? ⟨b1, o1 + k, none⟩ = some (.int .i64 rc)) (first | go_keep | exact keepc (by repeat (first | exact Below.refl _ _ | assumption | refine Below.drew ?_ | refine bel_drewN ?_ _ | refine ba ?_ _ | refine bt2 ?_ (by assumption) | refine Below.setCell ?_ (by simp <;> omega) _)) hq1) (first
                | (refine step_append_int rfl (.tmp 31) (.tmp 34) rfl wq.heap.size _ [] rfl hP1 (some ⟨g, 0, none⟩) k k (l.take k) rfl hF1 (by simp; omega) hb11 ?_; intro v5 w5 hO5 hg5; have hB5 : Below wq.heap.size wq w5 := Below.grown hw11 hg5 hb11 (fun g e => by cases e; exact Nat.le_refl _); have hC5 := hn1 w5; have hs5 := hB5.size)
                | (refine step_append_int rfl (.tmp 31) (.tmp 34) rfl wq.heap.size _ [] rfl hP2 (some ⟨g, 0, none⟩) k k (l.take k) rfl hF2 (by simp; omega) hb22 ?_; intro v5 w5 hO5 hg5; have hB5 : Below wq.heap.size wq w5 := Below.grown hw22 hg5 hb22 (fun g e => by cases e; exact Nat.le_refl _); have hC5 := Ints.other (g := wq.heap.size) hM2 hg5 (by omega); have hs5 := hB5.size)
                | (refine step_append_int rfl (.tmp 31) (.tmp 34) rfl wq.heap.size _ [] rfl hP3 (some ⟨g, 0, none⟩) k k (l.take k) rfl hF3 (by simp; omega) hb33 ?_; intro v5 w5 hO5 hg5; have hB5 : Below wq.heap.size wq w5 := Below.grown hw33 hg5 hb33 (fun g e => by cases e; simp); have hC5 := Ints.other (g := wq.heap.size + 1) hM3 hg5 (by omega); have hs5 := hB5.size)
                | (refine step_append_int rfl (.tmp 35) (.tmp 40) rfl wq.heap.size v5 _ rfl (hO5.keep (ba (Below.refl _ _) _)) (some ⟨w5.heap.size, 0, none⟩) 1 1 [rc] rfl hC5 (by simp; omega) (by simp; omega) ?_; intro v7 w7 hO7 hg7; have hB7 : Below wq.heap.size wq w7 := Below.grown (by repeat (first | exact Below.refl _ _ | assumption | refine Below.drew ?_ | refine bel_drewN ?_ _ | refine ba ?_ _ | refine bt2 ?_ (by assumption) | refine Below.setCell ?_ (by simp <;> omega) _)) hg7 (by simp; omega) (fun g e => (World.ownsRow.lt hO5 g e).1); have hs7 := hB7.size)
                | (refine step_append_int rfl (.tmp 35) (.tmp 40) rfl wq.heap.size v5 _ rfl hO5 (some ⟨wq.heap.size + 1, 0, none⟩) 1 1 [rc] rfl hC5 (by simp; omega) hs5 ?_; intro v7 w7 hO7 hg7; have hB7 : Below wq.heap.size wq w7 := Below.grown hB5 hg7 hs5 (fun g e => (World.ownsRow.lt hO5 g e).1); have hs7 := hB7.size)
                | (refine step_append_int rfl (.tmp 35) (.tmp 40) rfl wq.heap.size v5 _ rfl hO5 (some ⟨wq.heap.size, 0, none⟩) 1 1 [rc] rfl hC5 (by simp; omega) hs5 ?_; intro v7 w7 hO7 hg7; have hB7 : Below wq.heap.size wq w7 := Below.grown hB5 hg7 hs5 (fun g e => (World.ownsRow.lt hO5 g e).1); have hs7 := hB7.size)
                | (refine step_append_int rfl (.tmp 41) (.tmp 44) rfl wq.heap.size v7 _ rfl hO7 (some ⟨g, 0, none⟩) 0 0 [] rfl ⟨rfl, .inl rfl⟩ (by simp; omega) hs7 ?_; intro v9 w9 hO9 hg9; have hB9 : Below wq.heap.size wq w9 := Below.grown hB7 hg9 hs7 (fun g e => (World.ownsRow.lt hO7 g e).1))
                | fail)
              all_goals
                rw [show [] ++ l.take k ++ [rc] ++ [] = insZ rc l by rw [HI.out, List.drop_eq_nil_of_le (by omega)]] at hO9
                obtain ⟨g9, c9, hv9⟩ : ∃ g9 c9, v9 = .slice (some ⟨g9, 0, none⟩) (k + 1) c9 := by
                  rcases hO9.cases with ⟨_, hz⟩ | ⟨g9, c9, hv, _⟩
                  · rw [hz] at HIL; have := HIL.out; simp at this
                  · exact ⟨g9, c9, by rw [hv, HIL.out]⟩
                subst hv9
                have hle9 := ownI_le hO9
                have hOw := hO9.low hbase
                rw [← HS.out] at hOw
                have hB9w := hBw.out.trans (hB9.mono hbase)
                clear hO9 hO7 hO5 hg9 hg7 hg5 hB9 hB7 hB5
                go_wp2_with fail
                go_roundw
                case rel => exact ⟨k + 1, g9, c9, by omega, by go_num, rfl, hle9, hOw, hB9w⟩
                case measure => simp [intOf]; omega
    · have hk' : i = n := by omega
      subst hk'
      go_wp2_with fail
      go_ret
      exact ⟨_, rfl, hO, hB⟩
end Go.Proofs.Ytiplnfggiffngaa
