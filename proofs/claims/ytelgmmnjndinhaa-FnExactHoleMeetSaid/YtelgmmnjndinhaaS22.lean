/- The program's HoleMeet. -/
import Derived.Test.YtelgmmnjndinhaaS17
import Derived.Test.YtelgmmnjndinhaaR3
import Derived.Test.YtelgmmnjndinhaaS3
import Derived.Maps.AppendAt
namespace Go.Proofs.Ytelgmmnjndinhaa
open Go.RowKit
/-- the meets of a class and the first j of a system -/
def mrow (c : Cl) (ys : List Cl) : Nat → List Cl
  | 0 => []
  | j + 1 => bif metB c.2 (rAt ys j) (mAt ys j) c.1 then mrow c ys j ++ [(metX c.2 (rAt ys j) (mAt ys j) c.1, lcmI c.2 (mAt ys j))] else mrow c ys j
def mall (zs ys : List Cl) : Nat → List Cl
  | 0 => []
  | i + 1 => mall zs ys i ++ mrow (rAt zs i, mAt zs i) ys ys.length
theorem mrow_le (c : Cl) (ys : List Cl) (j : Nat) : (mrow c ys j).length ≤ j := by
  induction j with
  | zero => simp [mrow]
  | succ j ih =>
    simp only [mrow]
    cases metB c.2 (rAt ys j) (mAt ys j) c.1
    · simp only [cond_false]; omega
    · simp only [cond_true, List.length_append, List.length_singleton]; omega
theorem mall_le (zs ys : List Cl) (i : Nat) : (mall zs ys i).length ≤ i * ys.length := by
  induction i with
  | zero => simp [mall]
  | succ i ih =>
    have := mrow_le (rAt zs i, mAt zs i) ys ys.length
    simp only [mall, List.length_append, Nat.add_mul, Nat.one_mul]
    omega
def hmeL (zs ys : List Cl) : List Cl := mall zs ys zs.length
def hmeB (zs ys : List Cl) : Bool := comB zs ys && sysB (hmeL zs ys)
def hmeR (zs ys : List Cl) : List Cl := bif hmeB zs ys then hmeL zs ys else []
theorem hmeR_le (zs ys : List Cl) : (hmeR zs ys).length ≤ 8 := by
  unfold hmeR
  cases h : hmeB zs ys
  · simp
  · unfold hmeB at h
    simp only [Bool.and_eq_true] at h
    have := (sysB_facts h.2).2.1
    simpa using this
set_option maxRecDepth 20000 in
set_option maxHeartbeats 2000000 in
theorem c_implHoleMeet (s t : Option Addr) (n m c1 c2 : Nat) (zs ys : List Cl) (hn : n ≤ 1048576) (hm : m ≤ 1048576) (w : World) (hc : Cls w s n zs) (hd : Cls w t m ys) :
    Calls Try.prog 43 #[.slice s n c1, .slice t m c2] w (RetC w (hmeR zs ys) (hmeB zs ys)) := by
  have hcon := c_commonPeriod s t n m c1 c2 zs ys hn hm w hc hd
  cases hB : comB zs ys
  · have H1 := Lib.hid (show hmeB zs ys = false by simp [hmeB, hB])
    have H2 := Lib.hid (show hmeR zs ys = [] by simp [hmeR, hmeB, hB])
    rw [hB] at hcon
    go_enter Try.func43, Try.ntmps43
    go_wp2_with (go_at_call 54; refine hcon.mono ?_; rintro e w2 ⟨rfl, hb⟩)
    go_ret2
    rw [H1.out, H2.out]
    exact ⟨_, rfl, OwnC.nil _ _ _, hb⟩
  · obtain ⟨hs, ht, _, _⟩ := com_bd hB
    obtain ⟨hl1, hl2, ha, _, _, _⟩ := sysB_facts hs
    obtain ⟨kl1, kl2, ka, _, _, _⟩ := sysB_facts ht
    have hlen := hc.len
    have klen := hd.len
    rw [hB] at hcon
    simp only [selI, cond_true] at hcon
    obtain ⟨i0, hi, hz0, hz1, hz2⟩ := info_parts infoC
    have HL := Lib.hid hlen
    have KL := Lib.hid klen
    have HA := Lib.hid (fun i (h : i < n) => allB_at ha i (by rw [hlen]; exact h))
    have KA := Lib.hid (fun j (h : j < m) => allB_at ka j (by rw [klen]; exact h))
    have hn8 : n ≤ 8 := by omega
    have hm8 : m ≤ 8 := by omega
    have HM := Lib.hid (fun i (h : i ≤ n) => show (mall zs ys i).length ≤ 64 by
      have h1 := mall_le zs ys i
      have h2 : i * ys.length ≤ 8 * 8 := Nat.mul_le_mul (by omega) (by omega)
      omega)
    have HR := Lib.hid (fun i j (h : j ≤ m) => show (mrow (rAt zs i, mAt zs i) ys j).length ≤ 8 by
      have h1 := mrow_le (rAt zs i, mAt zs i) ys j
      omega)
    clear hl1 hl2 kl1 kl2 ha ka hlen klen
    go_enter Try.func43, Try.ntmps43
    go_wp2_with (go_at_call 54; refine hcon.mono ?_; rintro e w2 ⟨rfl, hb⟩)
    clear hcon
    go_loopw [8, 25] (fun v q wr => ∃ (i : Nat), i ≤ n ∧ q = .int .i64 i ∧ wr.ownsRow w.heap.size 45 2 v (mall zs ys i).length (cells2 (mall zs ys i)) ∧ Below w.heap.size w wr) (fun _ q _ => n - (intOf q).toNat)
    case atStart => exact ⟨0, Nat.zero_le _, rfl, World.ownsRow_nil _ _ _ _, hb⟩
    case round =>
      obtain ⟨i, hi', rfl, hO, hBr⟩ := hrel
      by_cases hlt : i < n
      · rcases (hc.keep hBr).lies with h0 | ⟨b, off, rfl, hbw, hcells⟩
        · omega
        obtain ⟨x0, x1⟩ := hcells i hlt
        clear hcells
        have HI := Lib.hid (HA.out i hlt)
        go_wp2_with fail
        generalize hQ : wr.alloc (.cells #[.int .i64 (rAt zs i), .int .i64 (mAt zs i)] 45) = W1
        have q0 : W1.cell? ⟨wr.heap.size, 0, none⟩ = some (.int .i64 (rAt zs i)) := by rw [← hQ]; exact kc (Below.refl _ _) 0
        have q1 : W1.cell? ⟨wr.heap.size, 1, none⟩ = some (.int .i64 (mAt zs i)) := by rw [← hQ]; exact kc (Below.refl _ _) 1
        have hO1 : W1.ownsRow w.heap.size 45 2 u8 (mall zs ys i).length (cells2 (mall zs ys i)) := by rw [← hQ]; exact hO.alloc _
        have hB1 : Below w.heap.size w W1 := by rw [← hQ]; exact ba hBr _
        have hz1 : wr.heap.size < W1.heap.size := by rw [← hQ]; simp
        have hn1 : u8.ownBlock ≠ some wr.heap.size := fun e => by have := (hO.lt _ e).2; omega
        have hwB : w.heap.size ≤ wr.heap.size := hBr.size
        generalize wr.heap.size = B1 at *
        clear hQ x0 x1 hO hBr
        go_loopw [8, 31] (fun v q wr => ∃ (j : Nat), j ≤ m ∧ q = .int .i64 j ∧ wr.ownsRow w.heap.size 45 2 v (mall zs ys i ++ mrow (rAt zs i, mAt zs i) ys j).length (cells2 (mall zs ys i ++ mrow (rAt zs i, mAt zs i) ys j)) ∧ Below w.heap.size w wr ∧ wr.cell? ⟨B1, 0, none⟩ = some (.int .i64 (rAt zs i)) ∧ wr.cell? ⟨B1, 1, none⟩ = some (.int .i64 (mAt zs i)) ∧ B1 < wr.heap.size ∧ v.ownBlock ≠ some B1) (fun _ q _ => m - (intOf q).toNat)
        case atStart => exact ⟨0, Nat.zero_le _, rfl, by simpa [mrow] using hO1, hB1, q0, q1, hz1, hn1⟩
        case round =>
          clear q0 q1 hO1 hB1 hz1 hn1
          obtain ⟨j, hj, rfl, hO2, hB2, q0, q1, hz2, hn2⟩ := hrel
          by_cases hlj : j < m
          · rcases (hd.keep hB2).lies with h0 | ⟨d, doff, rfl, hdw, dcells⟩
            · omega
            obtain ⟨y0, y1⟩ := dcells j hlj
            clear dcells
            have HJ := Lib.hid (KA.out j hlj)
            go_wp2_with fail
            have q0' : (wr.alloc (.cells #[.int .i64 (rAt ys j), .int .i64 (mAt ys j)] 45)).cell? ⟨B1, 0, none⟩ = some (.int .i64 (rAt zs i)) := keep_alloc q0
            have q1' : (wr.alloc (.cells #[.int .i64 (rAt ys j), .int .i64 (mAt ys j)] 45)).cell? ⟨B1, 1, none⟩ = some (.int .i64 (mAt zs i)) := keep_alloc q1
            have hB3 := ba hB2 (.cells #[.int .i64 (rAt ys j), .int .i64 (mAt ys j)] 45)
            have hO3 := hO2.alloc (.cells #[.int .i64 (rAt ys j), .int .i64 (mAt ys j)] 45)
            have hz3 : B1 < (wr.alloc (.cells #[.int .i64 (rAt ys j), .int .i64 (mAt ys j)] 45)).heap.size := by simp; omega
            refine (c_implMeet2 _ _ _ _ HI.out HJ.out _).mono ?_
            rintro e w5 ⟨rfl, hb5⟩
            generalize wr.alloc (.cells #[.int .i64 (rAt ys j), .int .i64 (mAt ys j)] 45) = W3 at *
            have q05 := keepc hb5 q0'
            have q15 := keepc hb5 q1'
            have hB5 := bt2 hB3 hb5
            have hO5 : w5.ownsRow w.heap.size 45 2 u8 (mall zs ys i ++ mrow (rAt zs i, mAt zs i) ys j).length (cells2 (mall zs ys i ++ mrow (rAt zs i, mAt zs i) ys j)) := row_keep hO3 hb5
            have hz5 : B1 < w5.heap.size := Nat.lt_of_lt_of_le hz3 hb5.size
            clear q0 q1 q0' q1' hO2 hO3 hz2 hz3 hb5 y0 y1
            have hl1 := HM.out i (by omega)
            have hl2 := HR.out i j (by omega)
            have hll : (mall zs ys i ++ mrow (rAt zs i, mAt zs i) ys j).length ≤ 72 := by rw [List.length_append]; omega
            cases hmt : metB (mAt zs i) (rAt ys j) (mAt ys j) (rAt zs i)
            · have HK := Lib.hid (show mrow (rAt zs i, mAt zs i) ys (j + 1) = mrow (rAt zs i, mAt zs i) ys j by simp only [mrow, hmt, cond_false])
              go_wp2_with fail
              go_roundw
              case rel => exact ⟨j + 1, by omega, by go_num, by rw [HK.out]; exact hO5.alloc _, ba hB5 _, keep_alloc q05, keep_alloc q15, by simp; omega, hn2⟩
              case measure => simp [intOf]; omega
            · have HK := Lib.hid (show mrow (rAt zs i, mAt zs i) ys (j + 1) = mrow (rAt zs i, mAt zs i) ys j ++ [(metX (mAt zs i) (rAt ys j) (mAt ys j) (rAt zs i), lcmI (mAt zs i) (mAt ys j))] by simp only [mrow, hmt, cond_true])
              have hst : ∀ x : Int, selI true x = x := fun _ => rfl
              generalize metX (mAt zs i) (rAt ys j) (mAt ys j) (rAt zs i) = X at *
              generalize lcmI (mAt zs i) (mAt ys j) = Y at *
              go_wp2_with (at_builtin; refine wpList_append_own_at _ rfl _ _ 27 rfl w.heap.size 45 i0 (.agg #[.int .i64 0, .int .i64 0]) 2 16 Try.underlying27 hi hz0 hz1 hz2 rfl (by decide) u8 _ _ rfl ((hO5.alloc _).alloc _) ⟨w5.heap.size + 1, 0, none⟩ 1 1 [.int .i64 X, .int .i64 Y] rfl rfl (by simpa using two_new (w5.alloc _) _ _ _) (by simp [Value.oneCell']) (by unfold maxLen; omega) (by omega) (by have := hB5.size; simp; omega) ?_; intro v7 w7 hown7 hgrow7 _ hloc)
              have hB7 : Below w.heap.size w w7 := (ba (ba hB5 _) _).grown hgrow7 (by have := hB5.size; simp; omega) (fun g e => (hO5.lt g e).1)
              have hsz7 := hgrow7.size
              have q07 := hgrow7.cell (keep_alloc (keep_alloc q05)) (fun e => hn2 e.symm)
              have q17 := hgrow7.cell (keep_alloc (keep_alloc q15)) (fun e => hn2 e.symm)
              have hn7 : v7.ownBlock ≠ some B1 := by
                rcases hloc with h | h
                · rw [h]; exact hn2
                · rw [h]; simp; omega
              have HO7 := Lib.hid (show w7.ownsRow w.heap.size 45 2 v7 (mall zs ys i ++ mrow (rAt zs i, mAt zs i) ys (j + 1)).length (cells2 (mall zs ys i ++ mrow (rAt zs i, mAt zs i) ys (j + 1))) by
                rw [HK.out, ← List.append_assoc, cells2_append, List.length_append (bs := [(X, Y)])]
                exact hown7)
              go_roundw
              case rel => exact ⟨j + 1, by omega, by go_num, HO7.out, hB7, q07, q17, by simp at hsz7; omega, hn7⟩
              case measure => simp [intOf]; omega
          · have hj' : j = m := by omega
            subst hj'
            have HO8 := Lib.hid (show wr.ownsRow w.heap.size 45 2 u8 (mall zs ys (i + 1)).length (cells2 (mall zs ys (i + 1))) by
              rw [mall, KL.out]
              exact hO2)
            go_wp2_with fail
            go_roundw
            case rel => exact ⟨i + 1, by omega, by go_num, HO8.out, hB2⟩
            case measure => simp [intOf]; omega
      · have hi'' : i = n := by omega
        subst hi''
        have HE := Lib.hid (show mall zs ys i = hmeL zs ys by unfold hmeL; rw [HL.out])
        have hOC : OwnC wr w.heap.size 45 u8 (hmeL zs ys) := by
          rw [HE.out] at hO
          exact hO
        have hl1 := HM.out i (Nat.le_refl _)
        rw [HE.out] at hl1
        obtain ⟨s8, k8, rfl, hC8, _⟩ := hOC.spread
        have hcon2 := c_implSystemIn s8 (hmeL zs ys).length k8 (hmeL zs ys) (by omega) wr hC8
        cases hS : sysB (hmeL zs ys)
        · have H1 := Lib.hid (show hmeB zs ys = false by simp [hmeB, hS])
          have H2 := Lib.hid (show hmeR zs ys = [] by simp [hmeR, hmeB, hS])
          rw [hS] at hcon2
          clear hO
          go_wp2_with (go_at_call 67; refine hcon2.mono ?_; rintro e w9 ⟨rfl, hb9⟩)
          go_ret2
          rw [H1.out, H2.out]
          exact ⟨_, rfl, OwnC.nil _ _ _, bt2 hBr hb9⟩
        · have H1 := Lib.hid (show hmeB zs ys = true by simp [hmeB, hS, hB])
          have H2 := Lib.hid (show hmeR zs ys = hmeL zs ys by simp [hmeR, hmeB, hS, hB])
          rw [hS] at hcon2
          clear hO
          go_wp2_with (go_at_call 67; refine hcon2.mono ?_; rintro e w9 ⟨rfl, hb9⟩)
          go_ret2
          rw [H1.out, H2.out]
          exact ⟨_, rfl, hOC.keep hb9, bt2 hBr hb9⟩
end Go.Proofs.Ytelgmmnjndinhaa
