/- The program's widestSplit and classesBelow. -/
import Derived.Test.YtjempdnbbghnlaaDoorMathNc
import Derived.Test.YtjempdnbbghnlaaDoorS46
namespace Go.Proofs.YtjempdnbbghnlaaDoor
open Go.RowKit
theorem gcdL_take (zs : List Cl) (k : Nat) (h : k < zs.length) : gcdL (zs.take (k + 1)) = Nat.gcd (gcdL (zs.take k)) (mAt zs k).toNat := by
  unfold gcdL
  rw [List.take_succ_eq_append_getElem h, List.foldl_append]
  simp [mAt, h]
theorem gcdL_le {zs : List Cl} {n : Nat} (hv : Vl n zs) (k : Nat) : gcdL (zs.take k) ≤ n := by
  by_cases hs : zs.take k = []
  · rw [hs]; exact Nat.zero_le _
  · obtain ⟨c, hc⟩ := List.exists_mem_of_ne_nil _ hs
    have h1 := gcdL_dvd hc
    have := hv c (List.mem_of_mem_take hc)
    have := Nat.le_of_dvd (by omega) h1
    omega
theorem gcdI_gcd (g : Nat) {m : Int} : gcdI (g : Int) m = ((Nat.gcd g m.toNat : Nat) : Int) := by simp [gcdI]
theorem vl_at {zs : List Cl} {n : Nat} (hv : Vl n zs) {k : Nat} (hk : k < zs.length) : 0 ≤ rAt zs k ∧ rAt zs k < mAt zs k ∧ mAt zs k ≤ n := by
  have := hv zs[k] (List.getElem_mem hk)
  simpa [rAt, mAt, hk] using this
set_option maxRecDepth 20000 in
set_option maxHeartbeats 1000000 in
theorem c_widestSplit (r m : Int) (m1 : 1 ≤ m) (m2 : m ≤ 1000) (s : Option Addr) (n cap : Nat) (zs : List Cl) (hn : n ≤ 8) (hv : Vl 1000 zs) (w : World) (hc : Cls w s n zs) : Calls Tryd.prog 31 #[.agg #[.int .i64 r, .int .i64 m], .slice s n cap] w fun e w' => e = .returned (.int .i64 (widI m zs)) ∧ Below w.heap.size w w' := by
  have HL := Lib.hid hc.len
  have hB0 : Below (w.alloc (Obj.cells #[Value.int IntKind.i64 r, Value.int IntKind.i64 m] 33)).heap.size (w.alloc (Obj.cells #[Value.int IntKind.i64 r, Value.int IntKind.i64 m] 33)) (w.alloc (Obj.cells #[Value.int IntKind.i64 r, Value.int IntKind.i64 m] 33)) := Below.refl _ _
  have hc1 := hc.keep (ba (Below.refl _ w) (Obj.cells #[Value.int IntKind.i64 r, Value.int IntKind.i64 m] 33))
  go_enter Tryd.func31, Tryd.ntmps31
  go_wp2_with fail
  go_loopw [5, 10] (fun d i wr => ∃ k : Nat, k ≤ n ∧ i = .int .i64 k ∧ d = .int .i64 (gcdL (zs.take k) : Int) ∧ Below (w.alloc (Obj.cells #[Value.int IntKind.i64 r, Value.int IntKind.i64 m] 33)).heap.size (w.alloc (Obj.cells #[Value.int IntKind.i64 r, Value.int IntKind.i64 m] 33)) wr) (fun _ i _ => n - (intOf i).toNat)
  case atStart => exact ⟨0, Nat.zero_le _, rfl, rfl, hB0⟩
  case round =>
    clear hB0
    obtain ⟨k, hk, rfl, rfl, hB⟩ := hrel
    have hgl := gcdL_le hv k
    by_cases hlt : k < n
    · rcases (hc1.keep hB).lies with h0 | ⟨b, off, rfl, hb, hcells⟩
      · omega
      obtain ⟨hx, hy⟩ := hcells k hlt
      obtain ⟨v1, v2, v3⟩ := vl_at hv (show k < zs.length by rw [HL.out]; exact hlt)
      have HG := Lib.hid (show gcdI (gcdL (zs.take k) : Int) (mAt zs k) = (gcdL (zs.take (k + 1)) : Int) by rw [gcdI_gcd, gcdL_take _ _ (by rw [HL.out]; exact hlt)])
      clear hcells
      generalize gcdL (zs.take k) = g at *
      generalize rAt zs k = a at *
      generalize mAt zs k = d at *
      have hB2 := ba hB (Obj.cells #[Value.int IntKind.i64 a, Value.int IntKind.i64 d] 33)
      go_wp2_with fail
      refine (c_commonDivisor (g : Int) d (by omega) (by omega) (by omega) (by omega) _).mono ?_
      rintro e w2 ⟨nq, rfl, rfl⟩
      go_wp2_with fail
      go_roundw
      case rel => exact ⟨k + 1, by omega, by go_num, by rw [HG.out], bel_drewN hB2 nq⟩
      case measure => simp [intOf]; omega
    · have hk' : k = n := by omega
      subst hk'
      have k1 : wr.cell? ⟨w.heap.size, 1, none⟩ = some (.int .i64 m) := kc hB 1
      have HT := Lib.hid (show widI m zs = (gcdL (zs.take k) : Int) / m by unfold widI; rw [List.take_of_length_le (by rw [HL.out]; exact Nat.le_refl _)])
      generalize gcdL (zs.take k) = g at *
      have hq1 : 0 ≤ (g : Int) / m := Int.ediv_nonneg (by omega) (by omega)
      have hq2 : (g : Int) / m ≤ g := Int.ediv_le_self m (by omega)
      go_wp2_with fail
      go_ret
      exact ⟨ri HT.out.symm, bt2 (ba (Below.refl _ w) _) hB⟩
theorem belC_take (r m : Int) (zs : List Cl) (k : Nat) (h : k < zs.length) : belC r m (zs.take (k + 1)) = belC r m (zs.take k) ++ (bif mAt zs k % m == 0 && rAt zs k % m == r then [(rAt zs k, mAt zs k)] else []) := by
  unfold belC
  rw [List.take_succ_eq_append_getElem h, List.filter_append]
  congr 1
  have e : zs[k] = (rAt zs k, mAt zs k) := by simp [rAt, mAt, h]
  rw [e]
  cases hb : (mAt zs k % m == 0 && rAt zs k % m == r) <;> simp [hb]
theorem belC_len (r m : Int) (zs : List Cl) : (belC r m zs).length ≤ zs.length := List.length_filter_le _ _
set_option maxRecDepth 20000 in
set_option maxHeartbeats 1000000 in
theorem c_classesBelow (r m : Int) (m1 : 1 ≤ m) (m2 : m ≤ 1000) (s : Option Addr) (n cap : Nat) (zs : List Cl) (hn : n ≤ 8) (hv : Vl 1000 zs) (w : World) (hc : Cls w s n zs) : Calls Tryd.prog 33 #[.agg #[.int .i64 r, .int .i64 m], .slice s n cap] w fun e w' => ∃ v, e = .returned v ∧ OwnC w' w.heap.size 33 v (belC r m zs) ∧ Below w.heap.size w w' := by
  obtain ⟨i0, hi, hz0, hz1, hz2⟩ := info_parts infoC
  have HL := Lib.hid hc.len
  have hB0 : Below (w.alloc (Obj.cells #[Value.int IntKind.i64 r, Value.int IntKind.i64 m] 33)).heap.size (w.alloc (Obj.cells #[Value.int IntKind.i64 r, Value.int IntKind.i64 m] 33)) (w.alloc (Obj.cells #[Value.int IntKind.i64 r, Value.int IntKind.i64 m] 33)) := Below.refl _ _
  have hc1 := hc.keep (ba (Below.refl _ w) (Obj.cells #[Value.int IntKind.i64 r, Value.int IntKind.i64 m] 33))
  have hO0 : (w.alloc (Obj.cells #[Value.int IntKind.i64 r, Value.int IntKind.i64 m] 33)).ownsRow (w.heap.size + 1) 33 2 (.slice none 0 0) 0 [] := World.ownsRow_nil _ _ _ _
  go_enter Tryd.func33, Tryd.ntmps33
  go_wp2_with fail
  go_loopw [5, 10] (fun v i wr => ∃ k : Nat, k ≤ n ∧ i = .int .i64 k ∧ wr.ownsRow (w.heap.size + 1) 33 2 v (belC r m (zs.take k)).length (cells2 (belC r m (zs.take k))) ∧ Below (w.heap.size + 1) (w.alloc (Obj.cells #[Value.int IntKind.i64 r, Value.int IntKind.i64 m] 33)) wr) (fun _ i _ => n - (intOf i).toNat)
  case atStart => exact ⟨0, Nat.zero_le _, rfl, hO0, by simpa using hB0⟩
  case round =>
    clear hB0 hO0
    obtain ⟨k, hk, rfl, hO, hB⟩ := hrel
    have hB' : Below (w.alloc (Obj.cells #[Value.int IntKind.i64 r, Value.int IntKind.i64 m] 33)).heap.size (w.alloc (Obj.cells #[Value.int IntKind.i64 r, Value.int IntKind.i64 m] 33)) wr := by simpa using hB
    have k0 : wr.cell? ⟨w.heap.size, 0, none⟩ = some (.int .i64 r) := kc hB' 0
    have k1 : wr.cell? ⟨w.heap.size, 1, none⟩ = some (.int .i64 m) := kc hB' 1
    have hz : w.heap.size < wr.heap.size := kz hB'
    by_cases hlt : k < n
    · rcases (hc1.keep hB').lies with h0 | ⟨b, off, rfl, hb, hcells⟩
      · omega
      obtain ⟨hx, hy⟩ := hcells k hlt
      obtain ⟨v1, v2, v3⟩ := vl_at hv (show k < zs.length by rw [HL.out]; exact hlt)
      have hT := belC_take r m zs k (by rw [HL.out]; exact hlt)
      have hln := belC_len r m (zs.take k)
      rw [List.length_take] at hln
      clear hcells
      generalize rAt zs k = a at *
      generalize mAt zs k = d at *
      have hW := ba hB' (Obj.cells #[Value.int IntKind.i64 a, Value.int IntKind.i64 d] 33)
      have hOW := hO.alloc (Obj.cells #[Value.int IntKind.i64 a, Value.int IntKind.i64 d] 33)
      have q0 := keepc (ba (Below.refl _ wr) (Obj.cells #[Value.int IntKind.i64 a, Value.int IntKind.i64 d] 33)) k0
      have q1 := keepc (ba (Below.refl _ wr) (Obj.cells #[Value.int IntKind.i64 a, Value.int IntKind.i64 d] 33)) k1
      have c0 : (wr.alloc (Obj.cells #[Value.int IntKind.i64 a, Value.int IntKind.i64 d] 33)).cell? ⟨wr.heap.size, 0, none⟩ = some (.int .i64 a) := by simp
      have c1 : (wr.alloc (Obj.cells #[Value.int IntKind.i64 a, Value.int IntKind.i64 d] 33)).cell? ⟨wr.heap.size, 1, none⟩ = some (.int .i64 d) := by simp
      cases he : (d % m == 0 && a % m == r)
      · rw [he, cond_false, List.append_nil] at hT
        have HT := Lib.hid hT
        clear hT
        go_wp2_with fail
        refine (c_below a d r m (by omega) (by omega) m1 m2 _).mono ?_
        rintro e w2 ⟨rfl, hb2⟩
        have hO2 := row_keep hOW hb2
        have hB2 : Below (w.heap.size + 1) (w.alloc (Obj.cells #[Value.int IntKind.i64 r, Value.int IntKind.i64 m] 33)) w2 := by simpa using bt2 hW hb2
        go_wp2_with fail
        go_roundw
        case rel => exact ⟨k + 1, by omega, by go_num, by rw [HT.out]; exact hO2, hB2⟩
        case measure => simp [intOf]; omega
      · rw [he, cond_true] at hT
        have HT := Lib.hid hT
        clear hT
        go_wp2_with fail
        refine (c_below a d r m (by omega) (by omega) m1 m2 _).mono ?_
        rintro e w2 ⟨rfl, hb2⟩
        have hO2 := row_keep hOW hb2
        have hB2 : Below (w.heap.size + 1) (w.alloc (Obj.cells #[Value.int IntKind.i64 r, Value.int IntKind.i64 m] 33)) w2 := by simpa using bt2 hW hb2
        have d0 := keepc hb2 c0
        have d1 := keepc hb2 c1
        have hz2' : w.heap.size + 1 ≤ w2.heap.size := by have := hB2.size; simp at this; omega
        clear c0 c1 hOW q0 q1 hx hy
        generalize hLe : (belC r m (zs.take k)).length = L at *
        go_wp2_with (at_builtin; refine wpList_append_own _ rfl _ _ 25 rfl (w.heap.size + 1) 33 i0 (.agg #[.int .i64 0, .int .i64 0]) 2 16 Tryd.underlying25 hi hz0 hz1 hz2 rfl (by decide) _ L _ rfl (hO2.alloc _) ⟨w2.heap.size, 0, none⟩ 1 1 [.int .i64 a, .int .i64 d] rfl rfl (two_new w2 _ _ _) (by simp [Value.oneCell']) (by unfold maxLen; omega) (by omega) (by simp; omega) ?_; intro v7 w7 hown7 hgrow7 _)
        have hb7 : Below (w.heap.size + 1) (w.alloc (Obj.cells #[Value.int IntKind.i64 r, Value.int IntKind.i64 m] 33)) w7 := (hB2.alloc hz2' _).grown hgrow7 (by simp; omega) (fun g e => (hO2.lt g e).1)
        go_roundw
        case rel => exact ⟨k + 1, by omega, by go_num, by rw [HT.out, cells2_append, List.length_append, hLe]; exact hown7, hb7⟩
        case measure => simp [intOf]; omega
    · have hk' : k = n := by omega
      subst hk'
      have HT := Lib.hid (show zs.take k = zs by rw [List.take_of_length_le (by rw [HL.out]; exact Nat.le_refl _)])
      rw [HT.out] at hO
      have hB2 := bt2 (ba (Below.refl _ w) _) hB'
      go_wp2_with fail
      go_ret
      exact ⟨_, rfl, OwnC.low (base := w.heap.size + 1) hO (by omega), hB2⟩
end Go.Proofs.YtjempdnbbghnlaaDoor
