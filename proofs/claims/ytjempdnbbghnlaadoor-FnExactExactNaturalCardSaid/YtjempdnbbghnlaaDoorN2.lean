/- The program's splitInto: it tells whether a list is natural. -/
import Derived.Test.YtjempdnbbghnlaaDoorN1
import Derived.BigQuiet
namespace Go.Proofs.YtjempdnbbghnlaaDoor
open Go.RowKit
theorem parL_atN {r m k : Int} {i : Nat} (h : i < k.toNat) : rAt (parL r m k) i = r + (i : Int) * m ∧ mAt (parL r m k) i = m * k := by
  simp [rAt, mAt, parL, h]
theorem node_grown {w w' : World} {row b : Nat} {c : Cl} {f q : Value} (h : NodeO w b c f q) (hg : w.grownBy w' (some row)) (hne : b ≠ row) : NodeO w' b c f q := (hg.block b h.lt (fun e => hne (by cases e; rfl))).trans h
theorem node_keep {w w' : World} {b : Nat} {c : Cl} {f q : Value} (h : NodeO w b c f q) (hb : Below w.heap.size w w') : NodeO w' b c f q := (hb.block b h.lt).trans h
/-- what is written behind the first world leaves no trace in it -/
theorem grown_new {w a b : World} {B x : Nat} (h : w.grownBy a (some B)) (k : a.grownBy b (some x)) (hx : w.heap.size ≤ x) : w.grownBy b (some B) :=
  ⟨k.os.trans h.os, k.tape.trans h.tape, k.output.trans h.output, Nat.le_trans h.size k.size, fun j hj hne => (k.block j (Nat.lt_of_lt_of_le hj h.size) (fun e => by cases e; omega)).trans (h.block j hj hne)⟩
theorem grown_below {w a b : World} {B : Nat} (h : w.grownBy a (some B)) (k : Below a.heap.size a b) : w.grownBy b (some B) :=
  ⟨k.os.trans h.os, k.tape.trans h.tape, k.output.trans h.output, Nat.le_trans h.size k.size, fun j hj hne => (k.block j (Nat.lt_of_lt_of_le hj h.size)).trans (h.block j hj hne)⟩
theorem one_class {zs : List Cl} {r m : Int} (h : zs.length = 1) : (rAt zs 0 == r && mAt zs 0 == m) = decide (zs = [(r, m)]) := by
  obtain ⟨c, hc⟩ := List.length_eq_one_iff.1 h
  subst hc
  rw [Bool.eq_iff_iff]
  simp [rAt, mAt, Prod.ext_iff]
theorem parB_of {r m k : Int} (h : parB r m k = true) : inB r m = true ∧ (1 ≤ k ∧ k ≤ 12) ∧ m * k ≤ 1000 := by simpa [parB, and_assoc] using h
/-- the next one of k linked parts -/
def prtP (W0 kn j : Nat) : Value := if j < kn then .pointer (some ⟨W0 + 2 * j + 1, 0, none⟩) else .pointer none
/-- the part of splitInto behind the first question -/
theorem nat_end {r m : Int} {zs : List Cl} (hc : inB r m = true) (h : Blw r m zs) (h8 : zs.length ≤ 8) (hk : widI m zs ≠ 1) (hp : parB r m (widI m zs) = true) :
    (∀ i, i < (widI m zs).toNat → nat (pt (m * widI m zs) (r + (i : Int) * m) (belC (r + (i : Int) * m) (m * widI m zs) zs)) = true) → nat (pt m r zs) = true := by
  intro hall
  rw [nat_wide hc h h8 hk, hp, cond_true]
  exact List.all_eq_true.2 fun i hi => hall i (List.mem_range.1 hi)
theorem nat_stop {r m : Int} {zs : List Cl} (hc : inB r m = true) (h : Blw r m zs) (h8 : zs.length ≤ 8) (hk : widI m zs ≠ 1) {i : Nat} (hi : i < (widI m zs).toNat)
    (hf : nat (pt (m * widI m zs) (r + (i : Int) * m) (belC (r + (i : Int) * m) (m * widI m zs) zs)) = false) : nat (pt m r zs) = false := by
  rw [nat_wide hc h h8 hk]
  cases parB r m (widI m zs)
  · rfl
  · rw [cond_true]
    exact all_f (List.mem_range.2 hi) hf
theorem nat_none {r m : Int} {zs : List Cl} (hc : inB r m = true) (h : Blw r m zs) (h8 : zs.length ≤ 8) (hk : widI m zs ≠ 1) (hp : parB r m (widI m zs) = false) : nat (pt m r zs) = false := by
  rw [nat_wide hc h h8 hk, hp]; rfl
theorem cls_grownN {w w' : World} {n x : Nat} {s : Option Addr} {zs : List Cl} (h : Cls w s n zs) (k : w.grownBy w' (some x)) (hs : ∀ b off, s = some ⟨b, off, none⟩ → n = 0 ∨ b ≠ x) : Cls w' s n zs := by
  rcases Nat.eq_zero_or_pos n with h0 | h0
  · exact ⟨h.len, .inl h0⟩
  · exact cls_grown h k (fun b off e e2 => by
      cases e2
      rcases hs _ _ e with h1 | h1
      · omega
      · exact h1 rfl)
theorem cls_far {w : World} {n : Nat} {s : Option Addr} {zs : List Cl} (h : Cls w s n zs) : ∀ x, w.heap.size ≤ x → ∀ b off, s = some ⟨b, off, none⟩ → n = 0 ∨ b ≠ x := by
  intro x hx b off e
  rcases h.lies with h0 | ⟨b', off', hs, hb, _⟩
  · exact .inl h0
  · rw [hs] at e
    cases e
    exact .inr (by omega)
/-- how far a link is from the end -/
def prtM (X : Nat) : Value → Nat
  | .pointer (some a) => X - a.block
  | _ => 0
theorem prtM_less {W0 kn j : Nat} (h : j < kn) : prtM (W0 + 2 * kn + 1) (prtP W0 kn (j + 1)) < prtM (W0 + 2 * kn + 1) (.pointer (some ⟨W0 + 2 * j + 1, 0, none⟩)) := by
  unfold prtP
  by_cases e : j + 1 < kn
  · rw [if_pos e]
    simp only [prtM]
    omega
  · rw [if_neg e]
    simp only [prtM]
    omega
def SplPost (B : Nat) (r m : Int) (q0 : Value) (zs : List Cl) (w : World) (e : Ending) (w' : World) : Prop := e = .returned (.bool (nat (pt m r zs))) ∧ w.grownBy w' (some B) ∧ (nat (pt m r zs) = true → ∃ f, NodeO w' B (r, m) f q0)
set_option maxRecDepth 20000 in
set_option maxHeartbeats 4000000 in
theorem c_splitInto : ∀ (K : Nat) (B : Nat) (r m : Int) (q0 : Value) (s : Option Addr) (n cap : Nat) (zs : List Cl) (w : World), inB r m = true → Blw r m zs → n ≤ 8 → 1001 ≤ (K : Int) + m → NodeO w B (r, m) (.pointer none) q0 → Cls w s n zs → (∀ b off, s = some ⟨b, off, none⟩ → b ≠ B) →
    Calls Tryd.prog 18 #[.pointer (some ⟨B, 0, none⟩), .slice s n cap] w (SplPost B r m q0 zs w) := by
  intro K
  induction K with
  | zero => intro B r m q0 s n cap zs w hin _ _ hK; have := (inB_iff.1 hin).2.1; omega
  | succ K ih =>
    intro B r m q0 s n cap zs w hin hbl hn hK hN hc hsb
    obtain ⟨m1, m2, r1, r2⟩ := inB_iff.1 hin
    have hl := hc.len
    obtain ⟨h0, h1, h2, h3, f2, f3⟩ := hN.cells
    simp only at h0 h1
    have hBl := hN.lt
    by_cases hone : zs = [(r, m)]
    · subst hone
      have hn1 : n = 1 := by simpa using hl.symm
      subst hn1
      have HR := Lib.hid (nat_self hin)
      rcases hc.lies with h00 | ⟨b, off, rfl, hb, hcells⟩
      · omega
      obtain ⟨hx, hy⟩ := hcells 0 (by omega)
      simp only [Nat.zero_mul, Nat.add_zero] at hx hy
      have e0 : rAt [(r, m)] 0 = r := rfl
      have e1 : mAt [(r, m)] 0 = m := rfl
      rw [e0] at hx
      rw [e1] at hy
      clear hcells e0 e1 ih
      go_enter Tryd.func18, Tryd.ntmps18
      go_wp2_with fail
      go_quiet (fail)
      go_wp2_with fail
      go_ret
      exact ⟨rb HR.out.symm, ⟨rfl, rfl, rfl, Nat.le_refl _, fun _ _ _ => rfl⟩, fun _ => ⟨_, hN⟩⟩
    · have hv := hbl.vl
      have h8 : zs.length ≤ 8 := by omega
      have HL := Lib.hid hl
      have HI := Lib.hid ih
      have HO := Lib.hid (fun h => nat_one hin hbl hone h)
      have HSB := Lib.hid (cls_far hc)
      obtain ⟨C, hC⟩ : ∃ C : World → Prop, C = fun w => Cls w s n zs := ⟨_, rfl⟩
      have HC := Lib.hid hC
      clear ih hC
      have hdec : n = 1 → (rAt zs 0 == r) = false ∨ ((rAt zs 0 == r) = true ∧ (mAt zs 0 == m) = false) := fun e => by
        have hne := one_class (r := r) (m := m) (zs := zs) (by omega)
        rw [decide_eq_false hone] at hne
        cases hx : (rAt zs 0 == r)
        · exact .inl rfl
        · rw [hx, Bool.true_and] at hne
          exact .inr ⟨rfl, hne⟩
      rcases (show (n = 1 ∧ (rAt zs 0 == r) = false) ∨ (n = 1 ∧ (rAt zs 0 == r) = true ∧ (mAt zs 0 == m) = false) ∨ n ≠ 1 by
        by_cases e : n = 1
        · rcases hdec e with h | h
          · exact .inl ⟨e, h⟩
          · exact .inr (.inl ⟨e, h⟩)
        · exact .inr (.inr e)) with ⟨hn1, hne⟩ | ⟨hn1, hne0, hne⟩ | hn1
      case' inl =>
        subst hn1
        rcases hc.lies with h00 | ⟨b, off, rfl, hb, hcells⟩
        · omega
        obtain ⟨hx, hy⟩ := hcells 0 (by omega)
        simp only [Nat.zero_mul, Nat.add_zero] at hx hy
        clear hcells hl hdec
        generalize rAt zs 0 = x at *
        generalize mAt zs 0 = y at *
        go_enter Tryd.func18, Tryd.ntmps18
        go_wp2_with fail
        go_quiet (fail)
        have hN1 : NodeO (w.drewN nq) B (r, m) (.pointer none) q0 := hN
        have hc1 := hc.keep (bel_drewN (Below.refl _ w) nq)
        have hB1 : Below w.heap.size w (w.drewN nq) := bel_drewN (Below.refl _ w) nq
        clear hx hy h0 h1 h2 h3 f2 f3 hne
      case' inr.inl =>
        subst hn1
        rcases hc.lies with h00 | ⟨b, off, rfl, hb, hcells⟩
        · omega
        obtain ⟨hx, hy⟩ := hcells 0 (by omega)
        simp only [Nat.zero_mul, Nat.add_zero] at hx hy
        clear hcells hl hdec
        generalize rAt zs 0 = x at *
        generalize mAt zs 0 = y at *
        have hxr : x = r := by simpa using hne0
        rw [hxr] at hx
        clear hne0 hxr
        go_enter Tryd.func18, Tryd.ntmps18
        go_wp2_with fail
        go_quiet (fail)
        have hN1 : NodeO (w.drewN nq) B (r, m) (.pointer none) q0 := hN
        have hc1 := hc.keep (bel_drewN (Below.refl _ w) nq)
        have hB1 : Below w.heap.size w (w.drewN nq) := bel_drewN (Below.refl _ w) nq
        clear hx hy h0 h1 h2 h3 f2 f3 hne
      case' inr.inr =>
        clear hdec
        have hne : ((n : Int) == 1) = false := by simp; omega
        clear hl
        go_enter Tryd.func18, Tryd.ntmps18
        go_wp2_with fail
        go_quiet (fail)
        have hN1 : NodeO (w.drewN nq) B (r, m) (.pointer none) q0 := hN
        have hc1 := hc.keep (bel_drewN (Below.refl _ w) nq)
        have hB1 : Below w.heap.size w (w.drewN nq) := bel_drewN (Below.refl _ w) nq
        clear h0 h1 h2 h3 f2 f3 hne
      all_goals
        generalize w.drewN nq = W1 at *
        obtain ⟨h0, h1, h2, h3, f2, f3⟩ := hN1.cells
        simp only at h0 h1
        go_wp2_with fail
        refine (c_widestSplit r m m1 m2 _ _ cap zs hn hv _ hc1).mono ?_
        rintro e w2 ⟨rfl, hb2⟩
        have hB2 := bt2 hB1 hb2
        have hN2 := node_keep hN1 hb2
        have hc2 := hc1.keep hb2
        clear h0 h1 h2 h3 f2 f3 hN1 hc1 hB1 hb2
        by_cases hk1 : widI m zs = 1
        · have HR := Lib.hid (HO.out hk1)
          have hkb : (widI m zs == 1) = true := by simpa using hk1
          generalize widI m zs = k at *
          go_wp2_with fail
          go_ret
          exact ⟨rb HR.out.symm, ⟨hB2.os, hB2.tape, hB2.output, hB2.size, fun j hj _ => hB2.block j hj⟩, fun _ => ⟨_, hN2⟩⟩
        · have hkb : (widI m zs == 1) = false := by simpa using hk1
          have hsp := c_split B r m (widI m zs) q0 w2 hN2
          have HE := Lib.hid (fun hp => nat_end hin hbl h8 hk1 hp)
          have HS := Lib.hid (fun i hi hf => nat_stop (i := i) hin hbl h8 hk1 hi hf)
          have HNo := Lib.hid (fun hp => nat_none hin hbl h8 hk1 hp)
          cases hp : parB r m (widI m zs)
          · have HR := Lib.hid (HNo.out hp)
            rw [hp] at hsp
            clear HE HS HNo HO hp
            generalize widI m zs = k at *
            go_wp2_with fail
            refine hsp.mono ?_
            rintro e w3 ⟨rfl, hG3, _⟩
            go_wp2_with fail
            go_ret
            exact ⟨rb HR.out.symm, (grown_of hB2).trans hG3, fun h => by rw [HR.out] at h; cases h⟩
          · rw [hp] at hsp
            have HE' := Lib.hid (HE.out hp)
            obtain ⟨_, hk12, hmk⟩ := parB_of hp
            obtain ⟨kn, hkn⟩ : ∃ kn : Nat, widI m zs = (kn : Int) := ⟨(widI m zs).toNat, by omega⟩
            clear HE HNo HO hp
            rw [hkn] at hk12 hmk hk1 hkb hsp HE' HS
            rw [hkn]
            clear hkn
            have hk2 : 2 ≤ kn := by omega
            have HPL := Lib.hid (fun i (hi : i < kn) => parL_atN (r := r) (m := m) (k := (kn : Int)) (i := i) (by simpa using hi))
            have hmk2 : m + 1 ≤ m * (kn : Int) := by
              have := Int.mul_le_mul_of_nonneg_left (show (2 : Int) ≤ kn by omega) (show 0 ≤ m by omega)
              omega
            rw [Int.toNat_natCast] at hsp
            clear hk1
            go_wp2_with fail
            refine hsp.mono ?_
            rintro e w3 ⟨rfl, hG3, hP3⟩
            obtain ⟨W0, hW0, hP3⟩ := hP3 trivial
            have hG := (grown_of (row := some B) hB2).trans hG3
            have hc3 := cls_grown hc2 hG3 (fun b off e e2 => hsb b off e (by cases e2; rfl))
            have hBW : B < W0 := Nat.lt_of_lt_of_le hN2.lt hW0
            have hwW : w.heap.size ≤ W0 := Nat.le_trans hB2.size hW0
            obtain ⟨hsz3, hNB3, hNs3⟩ := hP3
            rw [if_neg (by omega)] at hNB3
            obtain ⟨h0, h1, h2, h3, f2, f3⟩ := hNB3.cells
            simp only at h0 h1
            clear hsp hG3 hN2 hc2 hB2 hc hN
            go_wp2_with fail
            go_loopw [6] (fun q wr => ∃ j : Nat, j ≤ kn ∧ q = prtP W0 kn j ∧ w.grownBy wr (some B) ∧ NodeO wr B (r, m) (.pointer (some ⟨W0 + 1, 0, none⟩)) q0 ∧ C wr ∧ W0 + 2 * kn ≤ wr.heap.size ∧
              (∀ i, j ≤ i → i < kn → NodeO wr (W0 + 2 * i + 1) (r + (i : Int) * m, m * (kn : Int)) (.pointer none) (prtP W0 kn (i + 1))) ∧
              Hid (∀ i, i < j → nat (pt (m * (kn : Int)) (r + (i : Int) * m) (belC (r + (i : Int) * m) (m * (kn : Int)) zs)) = true)) (fun q _ => prtM (W0 + 2 * kn + 1) q)
            case atStart =>
              refine ⟨0, Nat.zero_le _, by unfold prtP; rw [if_pos (by omega)], hG, hNB3, by rw [HC.out]; exact hc3, by omega, fun i _ hi => ?_, Lib.hid (fun i hi => by omega)⟩
              have h := hNs3 i hi
              rw [(HPL.out i hi).1, (HPL.out i hi).2] at h
              unfold prtP
              by_cases e : i + 1 = kn
              · rw [if_pos e] at h
                rw [if_neg (by omega)]
                exact h
              · rw [if_neg e] at h
                rw [if_pos (by omega)]
                exact h
            case round =>
              clear hG hNB3 hc3 hsz3 hNs3 h0 h1 h2 h3 f2 f3
              obtain ⟨j, hj, rfl, hG, hNB, hcw, hsz, hNs, HAll⟩ := hrel
              rw [HC.out] at hcw
              by_cases hlt : j < kn
              · have hNj := hNs j (Nat.le_refl _) hlt
                obtain ⟨h0, h1, h2, h3, f2, f3⟩ := hNj.cells
                simp only at h0 h1
                have hpj : prtP W0 kn j = .pointer (some ⟨W0 + 2 * j + 1, 0, none⟩) := by unfold prtP; rw [if_pos hlt]
                rw [hpj]
                have hij : inB (r + (j : Int) * m) (m * (kn : Int)) = true := by
                  have h5 : (j : Int) * m ≤ ((kn : Int) - 1) * m := Int.mul_le_mul_of_nonneg_right (by omega) (by omega)
                  have h6 : (0 : Int) ≤ (j : Int) * m := Int.mul_nonneg (by omega) (by omega)
                  have h7 : ((kn : Int) - 1) * m = m * (kn : Int) - m := by rw [Int.sub_mul, Int.one_mul, Int.mul_comm]
                  exact inB_t ⟨by omega, hmk, by omega, by omega⟩
                have hcb := c_classesBelow (r + (j : Int) * m) (m * (kn : Int)) (by omega) hmk _ _ cap zs hn hv wr hcw
                have hih := HI.out
                have HS' := Lib.hid (HS.out j (by simpa using hlt))
                have hbl2 := belC_blw (r' := r + (j : Int) * m) (m' := m * (kn : Int)) hbl
                have hlen2 := belC_len (r + (j : Int) * m) (m * (kn : Int)) zs
                have hK2 : (1001 : Int) ≤ (K : Int) + m * (kn : Int) := by omega
                clear HPL HE' HS hpj
                have hnx : prtP W0 kn (j + 1) = .pointer none ∨ prtP W0 kn (j + 1) = .pointer (some ⟨W0 + 2 * (j + 1) + 1, 0, none⟩) := by
                  unfold prtP
                  by_cases e : j + 1 < kn
                  · rw [if_pos e]; exact .inr rfl
                  · rw [if_neg e]; exact .inl rfl
                have HNX := Lib.hid (rfl : prtP W0 kn (j + 1) = prtP W0 kn (j + 1))
                generalize hPX : prtP W0 kn (j + 1) = PX at hNj h3 hnx HNX
                have HPX := Lib.hid hPX
                clear hPX
                have hbj : W0 + 2 * j + 1 < wr.heap.size := hNj.lt
                go_wp2_with fail
                refine hcb.mono ?_
                rintro e w4 ⟨v, rfl, hO4, hB4⟩
                obtain ⟨s4, c4, rfl, hc4, hs4⟩ := hO4.spread
                have hN4 := node_keep hNj hB4
                have hG4 := grown_below hG hB4
                have hcw4 := hcw.keep hB4
                have hNB4 := node_keep hNB hB4
                have HNs4 := Lib.hid (fun i (h1 : j ≤ i) (h2 : i < kn) => node_keep (hNs i h1 h2) hB4)
                have hsz4 := Nat.le_trans hsz hB4.size
                have hcall := hih (W0 + 2 * j + 1) (r + (j : Int) * m) (m * (kn : Int)) PX s4 _ c4 _ w4 hij hbl2 (by omega) hK2 hN4 hc4 (fun b off e => by
                  rcases hs4 with h | ⟨g, h, h5, _⟩
                  · rw [h] at e; cases e
                  · rw [h] at e; cases e; omega)
                clear hcb h0 h1 h2 h3 f2 f3 hG hcw hNB hNs hO4 hc4 hs4 hih hN4
                go_wp2_with fail
                refine hcall.mono ?_
                rintro e w5 ⟨rfl, hG5, hN5⟩
                have hG6 := grown_new hG4 hG5 (by omega)
                have hcw6 : C w5 := by
                  rw [HC.out]
                  exact cls_grownN hcw4 hG5 (HSB.out _ (by omega))
                clear hcall
                cases hnt : nat (pt (m * (kn : Int)) (r + (j : Int) * m) (belC (r + (j : Int) * m) (m * (kn : Int)) zs))
                · have HR := Lib.hid (HS'.out hnt)
                  clear hnt HS'
                  go_wp2_with fail
                  go_ret
                  exact ⟨rb HR.out.symm, hG6, fun h => by rw [HR.out] at h; cases h⟩
                · obtain ⟨f5, hN5⟩ := hN5 hnt
                  obtain ⟨h0, h1, h2, h3, f2, f3⟩ := hN5.cells
                  simp only at h0 h1
                  have HNT := Lib.hid hnt
                  clear hnt HS'
                  have hNB5 := node_grown hNB4 hG5 (by omega)
                  have HNs5 := Lib.hid (fun i (h1 : j + 1 ≤ i) (h2 : i < kn) => node_grown (HNs4.out i (by omega) h2) hG5 (by omega))
                  have HM := Lib.hid (prtM_less (W0 := W0) hlt)
                  have hsz5 := Nat.le_trans hsz4 hG5.size
                  have HAll' := Lib.hid (fun i (hi : i < j + 1) => show nat (pt (m * (kn : Int)) (r + (i : Int) * m) (belC (r + (i : Int) * m) (m * (kn : Int)) zs)) = true from by
                    by_cases e : i = j
                    · rw [e]; exact HNT.out
                    · exact HAll.out i (by omega))
                  go_wp2_with fail
                  go_roundw
                  case rel => exact ⟨j + 1, by omega, HPX.out.symm, hG6, hNB5, hcw6, hsz5, HNs5.out, HAll'⟩
                  case measure =>
                    have := HM.out
                    rw [HPX.out] at this
                    exact this
              · have hjk : j = kn := by omega
                subst hjk
                have hpj : prtP W0 j j = .pointer none := by unfold prtP; rw [if_neg (by omega)]
                rw [hpj]
                have HR := Lib.hid (HE'.out (fun i hi => HAll.out i (by simpa using hi)))
                clear HE' HS HPL HAll
                go_wp2_with fail
                go_ret
                exact ⟨rb HR.out.symm, hG, fun _ => ⟨_, hNB⟩⟩
end Go.Proofs.YtjempdnbbghnlaaDoor
