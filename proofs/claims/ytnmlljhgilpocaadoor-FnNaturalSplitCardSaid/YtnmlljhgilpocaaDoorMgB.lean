/- The program's widestSplit and classesBelow. -/
import Derived.Test.YtnmlljhgilpocaaDoorMathNc
import Derived.Test.YtnmlljhgilpocaaDoorMgS
import Derived.BigQuiet
import Derived.Test.YtnmlljhgilpocaaDoorMz6
import Derived.Test.YtnmlljhgilpocaaDoorStepA
import Derived.Deep.RegionHeld3
import Derived.Test.YtnmlljhgilpocaaDoorMg7
import Derived.Test.YtnmlljhgilpocaaDoorMgJ
namespace Go.Proofs.YtnmlljhgilpocaaDoor
open Go.RowKit
theorem gcdL_take (zs : List Cl) (k : Nat) (h : k < zs.length) : gcdL (zs.take (k + 1)) = Nat.gcd (gcdL (zs.take k)) (mAt zs k).toNat := by
  unfold gcdL
  rw [List.take_succ_eq_append_getElem h, List.foldl_append]
  simp [mAt, h]
theorem gcdL_le {zs : List Cl} {n : Nat} (hv : Vl n zs) (k : Nat) : gcdL (zs.take k) ≤ n := by
  by_cases hs : zs.take k = []
  · rw [hs]; exact Nat.zero_le _
  · obtain ⟨c, hc⟩ := List.exists_mem_of_ne_nil _ hs
    have h1 := gcdL_dvd hc
    have := hv c (List.mem_of_mem_take hc)
    have := Nat.le_of_dvd (by omega) h1
    omega
theorem gcdI_gcd (g : Nat) {m : Int} : gcdI (g : Int) m = ((Nat.gcd g m.toNat : Nat) : Int) := by simp [gcdI]
theorem vl_at {zs : List Cl} {n : Nat} (hv : Vl n zs) {k : Nat} (hk : k < zs.length) : 0 ≤ rAt zs k ∧ rAt zs k < mAt zs k ∧ mAt zs k ≤ n := by
  have := hv zs[k] (List.getElem_mem hk)
  simpa [rAt, mAt, hk] using this
set_option maxRecDepth 20000 in
set_option maxHeartbeats 1000000 in
theorem c_widestSplit (r m : Int) (m1 : 1 ≤ m) (m2 : m ≤ 1000) (s : Option Addr) (n cap : Nat) (zs : List Cl) (hn : n ≤ 8) (hv : Vl 1000 zs) (w : World) (hc : Cls w s n zs) : Calls Tryd.prog 30 #[.agg #[.int .i64 r, .int .i64 m], .slice s n cap] w fun e w' => e = .returned (.int .i64 (widI m zs)) ∧ Below w.heap.size w w' := by
  have HL := Lib.hid hc.len
  have hB0 : Below (w.alloc (Obj.cells #[Value.int IntKind.i64 r, Value.int IntKind.i64 m] 41)).heap.size (w.alloc (Obj.cells #[Value.int IntKind.i64 r, Value.int IntKind.i64 m] 41)) (w.alloc (Obj.cells #[Value.int IntKind.i64 r, Value.int IntKind.i64 m] 41)) := Below.refl _ _
  have hc1 := hc.keep (ba (Below.refl _ w) (Obj.cells #[Value.int IntKind.i64 r, Value.int IntKind.i64 m] 41))
  go_enter Tryd.func30, Tryd.ntmps30
  go_wp2_with fail
  go_loopw [5, 10] (fun d i wr => ∃ k : Nat, k ≤ n ∧ i = .int .i64 k ∧ d = .int .i64 (gcdL (zs.take k) : Int) ∧ Below (w.alloc (Obj.cells #[Value.int IntKind.i64 r, Value.int IntKind.i64 m] 41)).heap.size (w.alloc (Obj.cells #[Value.int IntKind.i64 r, Value.int IntKind.i64 m] 41)) wr) (fun _ i _ => n - (intOf i).toNat)
  case atStart => exact ⟨0, Nat.zero_le _, rfl, rfl, hB0⟩
  case round =>
    clear hB0
    obtain ⟨k, hk, rfl, rfl, hB⟩ := hrel
    have hgl := gcdL_le hv k
    by_cases hlt : k < n
    · rcases (hc1.keep hB).lies with h0 | ⟨b, off, rfl, hb, hcells⟩
      · omega
      obtain ⟨hx, hy⟩ := hcells k hlt
      obtain ⟨v1, v2, v3⟩ := vl_at hv (show k < zs.length by rw [HL.out]; exact hlt)
      have HG := Lib.hid (show gcdI (gcdL (zs.take k) : Int) (mAt zs k) = (gcdL (zs.take (k + 1)) : Int) by rw [gcdI_gcd, gcdL_take _ _ (by rw [HL.out]; exact hlt)])
      clear hcells
      generalize gcdL (zs.take k) = g at *
      generalize rAt zs k = a at *
      generalize mAt zs k = d at *
      have hB2 := ba hB (Obj.cells #[Value.int IntKind.i64 a, Value.int IntKind.i64 d] 41)
      go_wp2_with fail
      refine (c_commonDivisor (g : Int) d (by omega) (by omega) (by omega) (by omega) _).mono ?_
      rintro e w2 ⟨nq, rfl, rfl⟩
      go_wp2_with fail
      go_roundw
      case rel => exact ⟨k + 1, by omega, by go_num, by rw [HG.out], bel_drewN hB2 nq⟩
      case measure => simp [intOf]; omega
    · have hk' : k = n := by omega
      subst hk'
      have k1 : wr.cell? ⟨w.heap.size, 1, none⟩ = some (.int .i64 m) := kc hB 1
      have HT := Lib.hid (show widI m zs = (gcdL (zs.take k) : Int) / m by unfold widI; rw [List.take_of_length_le (by rw [HL.out]; exact Nat.le_refl _)])
      generalize gcdL (zs.take k) = g at *
      have hq1 : 0 ≤ (g : Int) / m := Int.ediv_nonneg (by omega) (by omega)
      have hq2 : (g : Int) / m ≤ g := Int.ediv_le_self m (by omega)
      go_wp2_with fail
      go_ret
      exact ⟨ri HT.out.symm, bt2 (ba (Below.refl _ w) _) hB⟩
theorem belC_take (r m : Int) (zs : List Cl) (k : Nat) (h : k < zs.length) : belC r m (zs.take (k + 1)) = belC r m (zs.take k) ++ (bif mAt zs k % m == 0 && rAt zs k % m == r then [(rAt zs k, mAt zs k)] else []) := by
  unfold belC
  rw [List.take_succ_eq_append_getElem h, List.filter_append]
  congr 1
  have e : zs[k] = (rAt zs k, mAt zs k) := by simp [rAt, mAt, h]
  rw [e]
  cases hb : (mAt zs k % m == 0 && rAt zs k % m == r) <;> simp [hb]
theorem belC_len (r m : Int) (zs : List Cl) : (belC r m zs).length ≤ zs.length := List.length_filter_le _ _
set_option maxRecDepth 20000 in
set_option maxHeartbeats 1000000 in
theorem c_classesBelow (r m : Int) (m1 : 1 ≤ m) (m2 : m ≤ 1000) (s : Option Addr) (n cap : Nat) (zs : List Cl) (hn : n ≤ 8) (hv : Vl 1000 zs) (w : World) (hc : Cls w s n zs) : Calls Tryd.prog 31 #[.agg #[.int .i64 r, .int .i64 m], .slice s n cap] w fun e w' => ∃ v, e = .returned v ∧ OwnC w' w.heap.size 41 v (belC r m zs) ∧ Below w.heap.size w w' := by
  obtain ⟨i0, hi, hz0, hz1, hz2⟩ := info_parts infoC
  have HL := Lib.hid hc.len
  have hB0 : Below (w.alloc (Obj.cells #[Value.int IntKind.i64 r, Value.int IntKind.i64 m] 41)).heap.size (w.alloc (Obj.cells #[Value.int IntKind.i64 r, Value.int IntKind.i64 m] 41)) (w.alloc (Obj.cells #[Value.int IntKind.i64 r, Value.int IntKind.i64 m] 41)) := Below.refl _ _
  have hc1 := hc.keep (ba (Below.refl _ w) (Obj.cells #[Value.int IntKind.i64 r, Value.int IntKind.i64 m] 41))
  have hO0 : (w.alloc (Obj.cells #[Value.int IntKind.i64 r, Value.int IntKind.i64 m] 41)).ownsRow (w.heap.size + 1) 41 2 (.slice none 0 0) 0 [] := World.ownsRow_nil _ _ _ _
  go_enter Tryd.func31, Tryd.ntmps31
  go_wp2_with fail
  go_loopw [5, 10] (fun v i wr => ∃ k : Nat, k ≤ n ∧ i = .int .i64 k ∧ wr.ownsRow (w.heap.size + 1) 41 2 v (belC r m (zs.take k)).length (cells2 (belC r m (zs.take k))) ∧ Below (w.heap.size + 1) (w.alloc (Obj.cells #[Value.int IntKind.i64 r, Value.int IntKind.i64 m] 41)) wr) (fun _ i _ => n - (intOf i).toNat)
  case atStart => exact ⟨0, Nat.zero_le _, rfl, hO0, by simpa using hB0⟩
  case round =>
    clear hB0 hO0
    obtain ⟨k, hk, rfl, hO, hB⟩ := hrel
    have hB' : Below (w.alloc (Obj.cells #[Value.int IntKind.i64 r, Value.int IntKind.i64 m] 41)).heap.size (w.alloc (Obj.cells #[Value.int IntKind.i64 r, Value.int IntKind.i64 m] 41)) wr := by simpa using hB
    have k0 : wr.cell? ⟨w.heap.size, 0, none⟩ = some (.int .i64 r) := kc hB' 0
    have k1 : wr.cell? ⟨w.heap.size, 1, none⟩ = some (.int .i64 m) := kc hB' 1
    have hz : w.heap.size < wr.heap.size := kz hB'
    by_cases hlt : k < n
    · rcases (hc1.keep hB').lies with h0 | ⟨b, off, rfl, hb, hcells⟩
      · omega
      obtain ⟨hx, hy⟩ := hcells k hlt
      obtain ⟨v1, v2, v3⟩ := vl_at hv (show k < zs.length by rw [HL.out]; exact hlt)
      have hT := belC_take r m zs k (by rw [HL.out]; exact hlt)
      have hln := belC_len r m (zs.take k)
      rw [List.length_take] at hln
      clear hcells
      generalize rAt zs k = a at *
      generalize mAt zs k = d at *
      have hW := ba hB' (Obj.cells #[Value.int IntKind.i64 a, Value.int IntKind.i64 d] 41)
      have hOW := hO.alloc (Obj.cells #[Value.int IntKind.i64 a, Value.int IntKind.i64 d] 41)
      have q0 := keepc (ba (Below.refl _ wr) (Obj.cells #[Value.int IntKind.i64 a, Value.int IntKind.i64 d] 41)) k0
      have q1 := keepc (ba (Below.refl _ wr) (Obj.cells #[Value.int IntKind.i64 a, Value.int IntKind.i64 d] 41)) k1
      have c0 : (wr.alloc (Obj.cells #[Value.int IntKind.i64 a, Value.int IntKind.i64 d] 41)).cell? ⟨wr.heap.size, 0, none⟩ = some (.int .i64 a) := by simp
      have c1 : (wr.alloc (Obj.cells #[Value.int IntKind.i64 a, Value.int IntKind.i64 d] 41)).cell? ⟨wr.heap.size, 1, none⟩ = some (.int .i64 d) := by simp
      cases he : (d % m == 0 && a % m == r)
      · rw [he, cond_false, List.append_nil] at hT
        have HT := Lib.hid hT
        clear hT
        go_wp2_with fail
        refine (c_below a d r m (by omega) (by omega) m1 m2 _).mono ?_
        rintro e w2 ⟨rfl, hb2⟩
        have hO2 := row_keep hOW hb2
        have hB2 : Below (w.heap.size + 1) (w.alloc (Obj.cells #[Value.int IntKind.i64 r, Value.int IntKind.i64 m] 41)) w2 := by simpa using bt2 hW hb2
        go_wp2_with fail
        go_roundw
        case rel => exact ⟨k + 1, by omega, by go_num, by rw [HT.out]; exact hO2, hB2⟩
        case measure => simp [intOf]; omega
      · rw [he, cond_true] at hT
        have HT := Lib.hid hT
        clear hT
        go_wp2_with fail
        refine (c_below a d r m (by omega) (by omega) m1 m2 _).mono ?_
        rintro e w2 ⟨rfl, hb2⟩
        have hO2 := row_keep hOW hb2
        have hB2 : Below (w.heap.size + 1) (w.alloc (Obj.cells #[Value.int IntKind.i64 r, Value.int IntKind.i64 m] 41)) w2 := by simpa using bt2 hW hb2
        have d0 := keepc hb2 c0
        have d1 := keepc hb2 c1
        have hz2' : w.heap.size + 1 ≤ w2.heap.size := by have := hB2.size; simp at this; omega
        clear c0 c1 hOW q0 q1 hx hy
        generalize hLe : (belC r m (zs.take k)).length = L at *
        go_wp2_with (at_builtin; refine wpList_append_own _ rfl _ _ 23 rfl (w.heap.size + 1) 41 i0 (.agg #[.int .i64 0, .int .i64 0]) 2 16 Tryd.underlying23 hi hz0 hz1 hz2 rfl (by decide) _ L _ rfl (hO2.alloc _) ⟨w2.heap.size, 0, none⟩ 1 1 [.int .i64 a, .int .i64 d] rfl rfl (two_new w2 _ _ _) (by simp [Value.oneCell']) (by unfold maxLen; omega) (by omega) (by simp; omega) ?_; intro v7 w7 hown7 hgrow7 _)
        have hb7 : Below (w.heap.size + 1) (w.alloc (Obj.cells #[Value.int IntKind.i64 r, Value.int IntKind.i64 m] 41)) w7 := (hB2.alloc hz2' _).grown hgrow7 (by simp; omega) (fun g e => (hO2.lt g e).1)
        go_roundw
        case rel => exact ⟨k + 1, by omega, by go_num, by rw [HT.out, cells2_append, List.length_append, hLe]; exact hown7, hb7⟩
        case measure => simp [intOf]; omega
    · have hk' : k = n := by omega
      subst hk'
      have HT := Lib.hid (show zs.take k = zs by rw [List.take_of_length_le (by rw [HL.out]; exact Nat.le_refl _)])
      rw [HT.out] at hO
      have hB2 := bt2 (ba (Below.refl _ w) _) hB'
      go_wp2_with fail
      go_ret
      exact ⟨_, rfl, OwnC.low (base := w.heap.size + 1) hO (by omega), hB2⟩
end Go.Proofs.YtnmlljhgilpocaaDoor
namespace Go.Proofs.YtnmlljhgilpocaaDoor
open Go.RowKit
theorem parL_atN {r m k : Int} {i : Nat} (h : i < k.toNat) : rAt (parL r m k) i = r + (i : Int) * m ∧ mAt (parL r m k) i = m * k := by
  simp [rAt, mAt, parL, h]
theorem node_grown {w w' : World} {row b : Nat} {c : Cl} {f q : Value} (h : NodeO w b c f q) (hg : w.grownBy w' (some row)) (hne : b ≠ row) : NodeO w' b c f q := (hg.block b h.lt (fun e => hne (by cases e; rfl))).trans h
theorem node_keep {w w' : World} {b : Nat} {c : Cl} {f q : Value} (h : NodeO w b c f q) (hb : Below w.heap.size w w') : NodeO w' b c f q := (hb.block b h.lt).trans h
/-- what is written behind the first world leaves no trace in it -/
theorem grown_new {w a b : World} {B x : Nat} (h : w.grownBy a (some B)) (k : a.grownBy b (some x)) (hx : w.heap.size ≤ x) : w.grownBy b (some B) :=
  ⟨k.os.trans h.os, k.tape.trans h.tape, k.output.trans h.output, Nat.le_trans h.size k.size, fun j hj hne => (k.block j (Nat.lt_of_lt_of_le hj h.size) (fun e => by cases e; omega)).trans (h.block j hj hne)⟩
theorem grown_below {w a b : World} {B : Nat} (h : w.grownBy a (some B)) (k : Below a.heap.size a b) : w.grownBy b (some B) :=
  ⟨k.os.trans h.os, k.tape.trans h.tape, k.output.trans h.output, Nat.le_trans h.size k.size, fun j hj hne => (k.block j (Nat.lt_of_lt_of_le hj h.size)).trans (h.block j hj hne)⟩
theorem one_class {zs : List Cl} {r m : Int} (h : zs.length = 1) : (rAt zs 0 == r && mAt zs 0 == m) = decide (zs = [(r, m)]) := by
  obtain ⟨c, hc⟩ := List.length_eq_one_iff.1 h
  subst hc
  rw [Bool.eq_iff_iff]
  simp [rAt, mAt, Prod.ext_iff]
theorem parB_of {r m k : Int} (h : parB r m k = true) : inB r m = true ∧ (1 ≤ k ∧ k ≤ 12) ∧ m * k ≤ 1000 := by simpa [parB, and_assoc] using h
/-- the next one of k linked parts -/
def prtP (W0 kn j : Nat) : Value := if j < kn then .pointer (some ⟨W0 + 2 * j + 1, 0, none⟩) else .pointer none
/-- the part of splitInto behind the first question -/
theorem nat_end {r m : Int} {zs : List Cl} (hc : inB r m = true) (h : Blw r m zs) (h8 : zs.length ≤ 8) (hk : widI m zs ≠ 1) (hp : parB r m (widI m zs) = true) :
    (∀ i, i < (widI m zs).toNat → nat (pt (m * widI m zs) (r + (i : Int) * m) (belC (r + (i : Int) * m) (m * widI m zs) zs)) = true) → nat (pt m r zs) = true := by
  intro hall
  rw [nat_wide hc h h8 hk, hp, cond_true]
  exact List.all_eq_true.2 fun i hi => hall i (List.mem_range.1 hi)
theorem nat_stop {r m : Int} {zs : List Cl} (hc : inB r m = true) (h : Blw r m zs) (h8 : zs.length ≤ 8) (hk : widI m zs ≠ 1) {i : Nat} (hi : i < (widI m zs).toNat)
    (hf : nat (pt (m * widI m zs) (r + (i : Int) * m) (belC (r + (i : Int) * m) (m * widI m zs) zs)) = false) : nat (pt m r zs) = false := by
  rw [nat_wide hc h h8 hk]
  cases parB r m (widI m zs)
  · rfl
  · rw [cond_true]
    exact all_f (List.mem_range.2 hi) hf
theorem nat_none {r m : Int} {zs : List Cl} (hc : inB r m = true) (h : Blw r m zs) (h8 : zs.length ≤ 8) (hk : widI m zs ≠ 1) (hp : parB r m (widI m zs) = false) : nat (pt m r zs) = false := by
  rw [nat_wide hc h h8 hk, hp]; rfl
theorem cls_grownN {w w' : World} {n x : Nat} {s : Option Addr} {zs : List Cl} (h : Cls w s n zs) (k : w.grownBy w' (some x)) (hs : ∀ b off, s = some ⟨b, off, none⟩ → n = 0 ∨ b ≠ x) : Cls w' s n zs := by
  rcases Nat.eq_zero_or_pos n with h0 | h0
  · exact ⟨h.len, .inl h0⟩
  · exact cls_grown h k (fun b off e e2 => by
      cases e2
      rcases hs _ _ e with h1 | h1
      · omega
      · exact h1 rfl)
theorem cls_far {w : World} {n : Nat} {s : Option Addr} {zs : List Cl} (h : Cls w s n zs) : ∀ x, w.heap.size ≤ x → ∀ b off, s = some ⟨b, off, none⟩ → n = 0 ∨ b ≠ x := by
  intro x hx b off e
  rcases h.lies with h0 | ⟨b', off', hs, hb, _⟩
  · exact .inl h0
  · rw [hs] at e
    cases e
    exact .inr (by omega)
/-- how far a link is from the end -/
def prtM (X : Nat) : Value → Nat
  | .pointer (some a) => X - a.block
  | _ => 0
theorem prtM_less {W0 kn j : Nat} (h : j < kn) : prtM (W0 + 2 * kn + 1) (prtP W0 kn (j + 1)) < prtM (W0 + 2 * kn + 1) (.pointer (some ⟨W0 + 2 * j + 1, 0, none⟩)) := by
  unfold prtP
  by_cases e : j + 1 < kn
  · rw [if_pos e]
    simp only [prtM]
    omega
  · rw [if_neg e]
    simp only [prtM]
    omega
def SplPost (B : Nat) (r m : Int) (q0 : Value) (zs : List Cl) (w : World) (e : Ending) (w' : World) : Prop := e = .returned (.bool (nat (pt m r zs))) ∧ w.grownBy w' (some B) ∧ (nat (pt m r zs) = true → ∃ f, NodeO w' B (r, m) f q0)
set_option maxRecDepth 20000 in
set_option maxHeartbeats 4000000 in
theorem c_splitInto : ∀ (K : Nat) (B : Nat) (r m : Int) (q0 : Value) (s : Option Addr) (n cap : Nat) (zs : List Cl) (w : World), inB r m = true → Blw r m zs → n ≤ 8 → 1001 ≤ (K : Int) + m → NodeO w B (r, m) (.pointer none) q0 → Cls w s n zs → (∀ b off, s = some ⟨b, off, none⟩ → b ≠ B) →
    Calls Tryd.prog 21 #[.pointer (some ⟨B, 0, none⟩), .slice s n cap] w (SplPost B r m q0 zs w) := by
  intro K
  induction K with
  | zero => intro B r m q0 s n cap zs w hin _ _ hK; have := (inB_iff.1 hin).2.1; omega
  | succ K ih =>
    intro B r m q0 s n cap zs w hin hbl hn hK hN hc hsb
    obtain ⟨m1, m2, r1, r2⟩ := inB_iff.1 hin
    have hl := hc.len
    obtain ⟨h0, h1, h2, h3, f2, f3⟩ := hN.cells
    simp only at h0 h1
    have hBl := hN.lt
    by_cases hone : zs = [(r, m)]
    · subst hone
      have hn1 : n = 1 := by simpa using hl.symm
      subst hn1
      have HR := Lib.hid (nat_self hin)
      rcases hc.lies with h00 | ⟨b, off, rfl, hb, hcells⟩
      · omega
      obtain ⟨hx, hy⟩ := hcells 0 (by omega)
      simp only [Nat.zero_mul, Nat.add_zero] at hx hy
      have e0 : rAt [(r, m)] 0 = r := rfl
      have e1 : mAt [(r, m)] 0 = m := rfl
      rw [e0] at hx
      rw [e1] at hy
      clear hcells e0 e1 ih
      go_enter Tryd.func21, Tryd.ntmps21
      go_wp2_with fail
      go_quiet (fail)
      go_wp2_with fail
      go_ret
      exact ⟨rb HR.out.symm, ⟨rfl, rfl, rfl, Nat.le_refl _, fun _ _ _ => rfl⟩, fun _ => ⟨_, hN⟩⟩
    · have hv := hbl.vl
      have h8 : zs.length ≤ 8 := by omega
      have HL := Lib.hid hl
      have HI := Lib.hid ih
      have HO := Lib.hid (fun h => nat_one hin hbl hone h)
      have HSB := Lib.hid (cls_far hc)
      obtain ⟨C, hC⟩ : ∃ C : World → Prop, C = fun w => Cls w s n zs := ⟨_, rfl⟩
      have HC := Lib.hid hC
      clear ih hC
      have hdec : n = 1 → (rAt zs 0 == r) = false ∨ ((rAt zs 0 == r) = true ∧ (mAt zs 0 == m) = false) := fun e => by
        have hne := one_class (r := r) (m := m) (zs := zs) (by omega)
        rw [decide_eq_false hone] at hne
        cases hx : (rAt zs 0 == r)
        · exact .inl rfl
        · rw [hx, Bool.true_and] at hne
          exact .inr ⟨rfl, hne⟩
      rcases (show (n = 1 ∧ (rAt zs 0 == r) = false) ∨ (n = 1 ∧ (rAt zs 0 == r) = true ∧ (mAt zs 0 == m) = false) ∨ n ≠ 1 by
        by_cases e : n = 1
        · rcases hdec e with h | h
          · exact .inl ⟨e, h⟩
          · exact .inr (.inl ⟨e, h⟩)
        · exact .inr (.inr e)) with ⟨hn1, hne⟩ | ⟨hn1, hne0, hne⟩ | hn1
      case' inl =>
        subst hn1
        rcases hc.lies with h00 | ⟨b, off, rfl, hb, hcells⟩
        · omega
        obtain ⟨hx, hy⟩ := hcells 0 (by omega)
        simp only [Nat.zero_mul, Nat.add_zero] at hx hy
        clear hcells hl hdec
        generalize rAt zs 0 = x at *
        generalize mAt zs 0 = y at *
        go_enter Tryd.func21, Tryd.ntmps21
        go_wp2_with fail
        go_quiet (fail)
        have hN1 : NodeO (w.drewN nq) B (r, m) (.pointer none) q0 := hN
        have hc1 := hc.keep (bel_drewN (Below.refl _ w) nq)
        have hB1 : Below w.heap.size w (w.drewN nq) := bel_drewN (Below.refl _ w) nq
        clear hx hy h0 h1 h2 h3 f2 f3 hne
      case' inr.inl =>
        subst hn1
        rcases hc.lies with h00 | ⟨b, off, rfl, hb, hcells⟩
        · omega
        obtain ⟨hx, hy⟩ := hcells 0 (by omega)
        simp only [Nat.zero_mul, Nat.add_zero] at hx hy
        clear hcells hl hdec
        generalize rAt zs 0 = x at *
        generalize mAt zs 0 = y at *
        have hxr : x = r := by simpa using hne0
        rw [hxr] at hx
        clear hne0 hxr
        go_enter Tryd.func21, Tryd.ntmps21
        go_wp2_with fail
        go_quiet (fail)
        have hN1 : NodeO (w.drewN nq) B (r, m) (.pointer none) q0 := hN
        have hc1 := hc.keep (bel_drewN (Below.refl _ w) nq)
        have hB1 : Below w.heap.size w (w.drewN nq) := bel_drewN (Below.refl _ w) nq
        clear hx hy h0 h1 h2 h3 f2 f3 hne
      case' inr.inr =>
        clear hdec
        have hne : ((n : Int) == 1) = false := by simp; omega
        clear hl
        go_enter Tryd.func21, Tryd.ntmps21
        go_wp2_with fail
        go_quiet (fail)
        have hN1 : NodeO (w.drewN nq) B (r, m) (.pointer none) q0 := hN
        have hc1 := hc.keep (bel_drewN (Below.refl _ w) nq)
        have hB1 : Below w.heap.size w (w.drewN nq) := bel_drewN (Below.refl _ w) nq
        clear h0 h1 h2 h3 f2 f3 hne
      all_goals
        generalize w.drewN nq = W1 at *
        obtain ⟨h0, h1, h2, h3, f2, f3⟩ := hN1.cells
        simp only at h0 h1
        go_wp2_with fail
        refine (c_widestSplit r m m1 m2 _ _ cap zs hn hv _ hc1).mono ?_
        rintro e w2 ⟨rfl, hb2⟩
        have hB2 := bt2 hB1 hb2
        have hN2 := node_keep hN1 hb2
        have hc2 := hc1.keep hb2
        clear h0 h1 h2 h3 f2 f3 hN1 hc1 hB1 hb2
        by_cases hk1 : widI m zs = 1
        · have HR := Lib.hid (HO.out hk1)
          have hkb : (widI m zs == 1) = true := by simpa using hk1
          generalize widI m zs = k at *
          go_wp2_with fail
          go_ret
          exact ⟨rb HR.out.symm, ⟨hB2.os, hB2.tape, hB2.output, hB2.size, fun j hj _ => hB2.block j hj⟩, fun _ => ⟨_, hN2⟩⟩
        · have hkb : (widI m zs == 1) = false := by simpa using hk1
          have hsp := c_split B r m (widI m zs) q0 w2 hN2
          have HE := Lib.hid (fun hp => nat_end hin hbl h8 hk1 hp)
          have HS := Lib.hid (fun i hi hf => nat_stop (i := i) hin hbl h8 hk1 hi hf)
          have HNo := Lib.hid (fun hp => nat_none hin hbl h8 hk1 hp)
          cases hp : parB r m (widI m zs)
          · have HR := Lib.hid (HNo.out hp)
            rw [hp] at hsp
            clear HE HS HNo HO hp
            generalize widI m zs = k at *
            go_wp2_with fail
            refine hsp.mono ?_
            rintro e w3 ⟨rfl, hG3, _⟩
            go_wp2_with fail
            go_ret
            exact ⟨rb HR.out.symm, (grown_of hB2).trans hG3, fun h => by rw [HR.out] at h; cases h⟩
          · rw [hp] at hsp
            have HE' := Lib.hid (HE.out hp)
            obtain ⟨_, hk12, hmk⟩ := parB_of hp
            obtain ⟨kn, hkn⟩ : ∃ kn : Nat, widI m zs = (kn : Int) := ⟨(widI m zs).toNat, by omega⟩
            clear HE HNo HO hp
            rw [hkn] at hk12 hmk hk1 hkb hsp HE' HS
            rw [hkn]
            clear hkn
            have hk2 : 2 ≤ kn := by omega
            have HPL := Lib.hid (fun i (hi : i < kn) => parL_atN (r := r) (m := m) (k := (kn : Int)) (i := i) (by simpa using hi))
            have hmk2 : m + 1 ≤ m * (kn : Int) := by
              have := Int.mul_le_mul_of_nonneg_left (show (2 : Int) ≤ kn by omega) (show 0 ≤ m by omega)
              omega
            rw [Int.toNat_natCast] at hsp
            clear hk1
            go_wp2_with fail
            refine hsp.mono ?_
            rintro e w3 ⟨rfl, hG3, hP3⟩
            obtain ⟨W0, hW0, hP3⟩ := hP3 trivial
            have hG := (grown_of (row := some B) hB2).trans hG3
            have hc3 := cls_grown hc2 hG3 (fun b off e e2 => hsb b off e (by cases e2; rfl))
            have hBW : B < W0 := Nat.lt_of_lt_of_le hN2.lt hW0
            have hwW : w.heap.size ≤ W0 := Nat.le_trans hB2.size hW0
            obtain ⟨hsz3, hNB3, hNs3⟩ := hP3
            rw [if_neg (by omega)] at hNB3
            obtain ⟨h0, h1, h2, h3, f2, f3⟩ := hNB3.cells
            simp only at h0 h1
            clear hsp hG3 hN2 hc2 hB2 hc hN
            go_wp2_with fail
            go_loopw [6] (fun q wr => ∃ j : Nat, j ≤ kn ∧ q = prtP W0 kn j ∧ w.grownBy wr (some B) ∧ NodeO wr B (r, m) (.pointer (some ⟨W0 + 1, 0, none⟩)) q0 ∧ C wr ∧ W0 + 2 * kn ≤ wr.heap.size ∧
              (∀ i, j ≤ i → i < kn → NodeO wr (W0 + 2 * i + 1) (r + (i : Int) * m, m * (kn : Int)) (.pointer none) (prtP W0 kn (i + 1))) ∧
              Hid (∀ i, i < j → nat (pt (m * (kn : Int)) (r + (i : Int) * m) (belC (r + (i : Int) * m) (m * (kn : Int)) zs)) = true)) (fun q _ => prtM (W0 + 2 * kn + 1) q)
            case atStart =>
              refine ⟨0, Nat.zero_le _, by unfold prtP; rw [if_pos (by omega)], hG, hNB3, by rw [HC.out]; exact hc3, by omega, fun i _ hi => ?_, Lib.hid (fun i hi => by omega)⟩
              have h := hNs3 i hi
              rw [(HPL.out i hi).1, (HPL.out i hi).2] at h
              unfold prtP
              by_cases e : i + 1 = kn
              · rw [if_pos e] at h
                rw [if_neg (by omega)]
                exact h
              · rw [if_neg e] at h
                rw [if_pos (by omega)]
                exact h
            case round =>
              clear hG hNB3 hc3 hsz3 hNs3 h0 h1 h2 h3 f2 f3
              obtain ⟨j, hj, rfl, hG, hNB, hcw, hsz, hNs, HAll⟩ := hrel
              rw [HC.out] at hcw
              by_cases hlt : j < kn
              · have hNj := hNs j (Nat.le_refl _) hlt
                obtain ⟨h0, h1, h2, h3, f2, f3⟩ := hNj.cells
                simp only at h0 h1
                have hpj : prtP W0 kn j = .pointer (some ⟨W0 + 2 * j + 1, 0, none⟩) := by unfold prtP; rw [if_pos hlt]
                rw [hpj]
                have hij : inB (r + (j : Int) * m) (m * (kn : Int)) = true := by
                  have h5 : (j : Int) * m ≤ ((kn : Int) - 1) * m := Int.mul_le_mul_of_nonneg_right (by omega) (by omega)
                  have h6 : (0 : Int) ≤ (j : Int) * m := Int.mul_nonneg (by omega) (by omega)
                  have h7 : ((kn : Int) - 1) * m = m * (kn : Int) - m := by rw [Int.sub_mul, Int.one_mul, Int.mul_comm]
                  exact inB_t ⟨by omega, hmk, by omega, by omega⟩
                have hcb := c_classesBelow (r + (j : Int) * m) (m * (kn : Int)) (by omega) hmk _ _ cap zs hn hv wr hcw
                have hih := HI.out
                have HS' := Lib.hid (HS.out j (by simpa using hlt))
                have hbl2 := belC_blw (r' := r + (j : Int) * m) (m' := m * (kn : Int)) hbl
                have hlen2 := belC_len (r + (j : Int) * m) (m * (kn : Int)) zs
                have hK2 : (1001 : Int) ≤ (K : Int) + m * (kn : Int) := by omega
                clear HPL HE' HS hpj
                have hnx : prtP W0 kn (j + 1) = .pointer none ∨ prtP W0 kn (j + 1) = .pointer (some ⟨W0 + 2 * (j + 1) + 1, 0, none⟩) := by
                  unfold prtP
                  by_cases e : j + 1 < kn
                  · rw [if_pos e]; exact .inr rfl
                  · rw [if_neg e]; exact .inl rfl
                have HNX := Lib.hid (rfl : prtP W0 kn (j + 1) = prtP W0 kn (j + 1))
                generalize hPX : prtP W0 kn (j + 1) = PX at hNj h3 hnx HNX
                have HPX := Lib.hid hPX
                clear hPX
                have hbj : W0 + 2 * j + 1 < wr.heap.size := hNj.lt
                go_wp2_with fail
                refine hcb.mono ?_
                rintro e w4 ⟨v, rfl, hO4, hB4⟩
                obtain ⟨s4, c4, rfl, hc4, hs4⟩ := hO4.spread
                have hN4 := node_keep hNj hB4
                have hG4 := grown_below hG hB4
                have hcw4 := hcw.keep hB4
                have hNB4 := node_keep hNB hB4
                have HNs4 := Lib.hid (fun i (h1 : j ≤ i) (h2 : i < kn) => node_keep (hNs i h1 h2) hB4)
                have hsz4 := Nat.le_trans hsz hB4.size
                have hcall := hih (W0 + 2 * j + 1) (r + (j : Int) * m) (m * (kn : Int)) PX s4 _ c4 _ w4 hij hbl2 (by omega) hK2 hN4 hc4 (fun b off e => by
                  rcases hs4 with h | ⟨g, h, h5, _⟩
                  · rw [h] at e; cases e
                  · rw [h] at e; cases e; omega)
                clear hcb h0 h1 h2 h3 f2 f3 hG hcw hNB hNs hO4 hc4 hs4 hih hN4
                go_wp2_with fail
                refine hcall.mono ?_
                rintro e w5 ⟨rfl, hG5, hN5⟩
                have hG6 := grown_new hG4 hG5 (by omega)
                have hcw6 : C w5 := by
                  rw [HC.out]
                  exact cls_grownN hcw4 hG5 (HSB.out _ (by omega))
                clear hcall
                cases hnt : nat (pt (m * (kn : Int)) (r + (j : Int) * m) (belC (r + (j : Int) * m) (m * (kn : Int)) zs))
                · have HR := Lib.hid (HS'.out hnt)
                  clear hnt HS'
                  go_wp2_with fail
                  go_ret
                  exact ⟨rb HR.out.symm, hG6, fun h => by rw [HR.out] at h; cases h⟩
                · obtain ⟨f5, hN5⟩ := hN5 hnt
                  obtain ⟨h0, h1, h2, h3, f2, f3⟩ := hN5.cells
                  simp only at h0 h1
                  have HNT := Lib.hid hnt
                  clear hnt HS'
                  have hNB5 := node_grown hNB4 hG5 (by omega)
                  have HNs5 := Lib.hid (fun i (h1 : j + 1 ≤ i) (h2 : i < kn) => node_grown (HNs4.out i (by omega) h2) hG5 (by omega))
                  have HM := Lib.hid (prtM_less (W0 := W0) hlt)
                  have hsz5 := Nat.le_trans hsz4 hG5.size
                  have HAll' := Lib.hid (fun i (hi : i < j + 1) => show nat (pt (m * (kn : Int)) (r + (i : Int) * m) (belC (r + (i : Int) * m) (m * (kn : Int)) zs)) = true from by
                    by_cases e : i = j
                    · rw [e]; exact HNT.out
                    · exact HAll.out i (by omega))
                  go_wp2_with fail
                  go_roundw
                  case rel => exact ⟨j + 1, by omega, HPX.out.symm, hG6, hNB5, hcw6, hsz5, HNs5.out, HAll'⟩
                  case measure =>
                    have := HM.out
                    rw [HPX.out] at this
                    exact this
              · have hjk : j = kn := by omega
                subst hjk
                have hpj : prtP W0 j j = .pointer none := by unfold prtP; rw [if_neg (by omega)]
                rw [hpj]
                have HR := Lib.hid (HE'.out (fun i hi => HAll.out i (by simpa using hi)))
                clear HE' HS HPL HAll
                go_wp2_with fail
                go_ret
                exact ⟨rb HR.out.symm, hG, fun _ => ⟨_, hNB⟩⟩
end Go.Proofs.YtnmlljhgilpocaaDoor
namespace Go.Proofs.YtnmlljhgilpocaaDoor
open Go.RowKit
theorem pt_take (d r : Int) (zs : List Cl) (k : Nat) (h : k < zs.length) : pt d r (zs.take (k + 1)) = pt d r (zs.take k) ++ (bif rAt zs k % d == r then [((rAt zs k - r) / d, mAt zs k / d)] else []) := by
  unfold pt
  rw [List.take_succ_eq_append_getElem h, List.filter_append, List.map_append]
  congr 1
  have e : zs[k] = (rAt zs k, mAt zs k) := by simp [rAt, mAt, h]
  rw [e]
  cases hb : (rAt zs k % d == r) <;> simp [hb]
theorem nat_less {zs : List Cl} (hv : Vl 1000 zs) (h1 : zs.length ≠ 1) (hg : gcdL zs ≤ 1) : nat zs = false := by
  rw [nat_unf hv, show (zs.length == 1) = false by simpa using h1, decide_eq_true hg]; rfl
theorem nat_more {zs : List Cl} (hv : Vl 1000 zs) (h1 : zs.length ≠ 1) (hg : 2 ≤ gcdL zs) : nat zs = (List.range (lpd (gcdL zs))).all fun r => nat (pt (lpd (gcdL zs)) r zs) := by
  rw [nat_unf hv, show (zs.length == 1) = false by simpa using h1, decide_eq_false (show ¬ gcdL zs ≤ 1 by omega)]; rfl
theorem nat_single {zs : List Cl} (hv : Vl 1000 zs) (h1 : zs.length = 1) : nat zs = (mAt zs 0 == 1) := by
  rw [nat_unf hv, h1]; rfl
theorem len8 {zs : List Cl} {d r : Int} {k : Nat} (h : zs.length ≤ 8) : (pt d r (zs.take k)).length ≤ 8 := by
  have h1 := pt_len (d := d) (r := r) (s := zs.take k)
  rw [List.length_take] at h1
  omega
end Go.Proofs.YtnmlljhgilpocaaDoor
namespace Go.Proofs.YtnmlljhgilpocaaDoor
open Go.RowKit
def natB (zs : List Cl) : Bool := sysB zs && nat zs
theorem pt_one (zs : List Cl) : pt 1 0 zs = zs := by
  unfold pt
  have h : zs.filter (fun c => c.1 % 1 == 0) = zs := List.filter_eq_self.2 fun c _ => by simp
  rw [h]
  have : (fun c : Cl => ((c.1 - 0) / 1, c.2 / 1)) = id := by funext c; simp
  rw [this, List.map_id]
theorem blw_all {zs : List Cl} (h : allB zs = true) : Blw 0 1 zs := by
  intro c hc
  exact ⟨List.all_eq_true.1 h c hc, by simp, by simp⟩
theorem vl_all {zs : List Cl} (h : allB zs = true) : Vl 1000 zs := (blw_all h).vl
theorem node_new (w : World) (a b : Int) : NodeO (w.alloc (.cells #[.int .i64 a, .int .i64 b, .pointer none, .pointer none] 43)) w.heap.size (a, b) (.pointer none) (.pointer none) := World.alloc_heap_new w _
set_option maxHeartbeats 1000000 in
theorem c_implExactNatural (s : Option Addr) (n cap : Nat) (zs : List Cl) (hn : n ≤ 1048576) (w : World) (hg : LaidE w) (hc : Cls w s n zs) : Calls Tryd.prog 8 #[.slice s n cap] w fun e w' => e = .returned (.bool (natB zs)) ∧ Below w.heap.size w w' := by
  have hchk := c_checkSystem s n cap zs hn w hc
  cases hs : sysB zs
  · have HR := Lib.hid (show natB zs = false by simp [natB, hs])
    rw [hs] at hchk
    go_enter Tryd.func8, Tryd.ntmps8
    go_wp2_with fail
    refine hchk.mono ?_
    rintro e w2 ⟨rfl, hb⟩
    have hg2 := hg.keep hb
    go_wp2_with fail
    refine (c_isNone false n _ hg2).mono ?_
    rintro e w3 ⟨rfl, hb3⟩
    go_wp2_with fail
    go_ret
    exact ⟨rb HR.out.symm, bt2 hb hb3⟩
  · have HR := Lib.hid (show natB zs = nat zs by simp [natB, hs])
    rw [hs] at hchk
    obtain ⟨l1, l2, l3, _⟩ := sysB_facts hs
    have hlen := hc.len
    rw [hlen] at l1 l2
    have HL := Lib.hid hlen
    clear hlen
    go_enter Tryd.func8, Tryd.ntmps8
    go_wp2_with fail
    refine hchk.mono ?_
    rintro e w2 ⟨rfl, hb⟩
    have hg2 := hg.keep hb
    go_wp2_with fail
    refine (c_isNone true n _ hg2).mono ?_
    rintro e w3 ⟨rfl, hb3⟩
    have hB3 := bt2 hb hb3
    clear hg hg2 hb hb3 hchk
    go_wp2_with fail
    refine (c_wholeClass _).mono ?_
    rintro e w4 ⟨rfl, hb4⟩
    have hB4 := bt2 hB3 hb4
    have hc4 := (hc.keep hB4).keep (ba (Below.refl _ w4) (.cells #[.int .i64 0, .int .i64 1, .pointer none, .pointer none] 43))
    have hN4 := node_new w4 0 1
    have hB5 := ba hB4 (.cells #[.int .i64 0, .int .i64 1, .pointer none, .pointer none] 43)
    have hcl := hc.keep hB4
    have hsp := c_splitInto 1000 w4.heap.size 0 1 (.pointer none) s n cap zs _ (by decide) (blw_all l3) l2 (by omega) hN4 hc4
    go_wp2_with fail
    rcases Nat.eq_zero_or_pos n with h0 | h0
    · omega
    refine (hsp ?_).mono ?_
    · intro b off e
      rcases hcl.lies with h | ⟨b', off', hs', hb', _⟩
      · omega
      · rw [hs'] at e; cases e; omega
    rintro e w6 ⟨rfl, hG6, _⟩
    rw [pt_one]
    have hB6 : Below w.heap.size w w6 := hB5.grown hG6 hB5.size (fun g e => by cases e; exact hB4.size)
    go_wp2_with fail
    go_ret
    exact ⟨rb HR.out.symm, hB6⟩
end Go.Proofs.YtnmlljhgilpocaaDoor
