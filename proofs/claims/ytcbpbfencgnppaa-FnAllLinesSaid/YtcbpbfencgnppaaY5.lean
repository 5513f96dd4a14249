/- Chapter 6: SolveAll, the model. -/
import Derived.Test.YtcbpbfencgnppaaY4
namespace Go.Proofs.Ytcbpbfencgnppaa
open Go.RowKit
/-- a line of three numbers in their ranges -/
def goodL (l : List Int) : Prop := l.length = 3 ∧ nmsB (nAt l 2) (nAt l 0) (nAt l 1) = true
theorem linO_bad {a b m : Int} (h : nmsB m a b = false) : linO a b m = false := by
  unfold linO
  revert h
  unfold nmsB
  cases modB m <;> cases numB a <;> cases numB b <;> simp
theorem sol_bad {zss : List (List Int)} {k : Nat} (h6 : zss.length ≤ 6) (hk : k < zss.length) (hs : ∀ c, stp c (zss[k]?.getD []) = none) : solO zss = none := by
  rw [solO_le h6]
  refine solF_bad hs zss _ ?_
  rw [List.getElem?_eq_getElem hk]
  exact List.getElem_mem hk
set_option maxRecDepth 20000 in
set_option maxHeartbeats 4000000 in
theorem c_specSolveAll (s : Option Addr) (n cap : Nat) (zss : List (List Int)) (hn : n ≤ 1048576) (hr : ∀ i, i < n → (zss[i]?.getD []).length ≤ 1048576) (w : World) (hc : Ints2 w s n zss) : Calls Try.prog 12 #[.slice s n cap] w (SolPost w zss) := by
  have hl := hc.len
  have hA0 := (Bx2.new w 0 0).keep (ba (Below.refl _ (w.alloc (Obj.cells #[Value.int IntKind.i64 0, Value.int IntKind.i64 0] 26))) (Obj.cells #[Value.int IntKind.i64 0, Value.int IntKind.i64 1] 26))
  have hB0 := Bx2.new (w.alloc (Obj.cells #[Value.int IntKind.i64 0, Value.int IntKind.i64 0] 26)) 0 1
  have hT0 : Below w.heap.size w ((w.alloc (Obj.cells #[Value.int IntKind.i64 0, Value.int IntKind.i64 0] 26)).alloc (Obj.cells #[Value.int IntKind.i64 0, Value.int IntKind.i64 1] 26)) := ba (ba (Below.refl _ w) _) _
  by_cases h6 : ¬ n ≤ 6
  · have hs := Lib.hid (solO_ge (zss := zss) (by omega))
    go_enter Try.func12, Try.ntmps12
    go_wp2_with fail
    generalize (w.alloc (Obj.cells #[Value.int IntKind.i64 0, Value.int IntKind.i64 0] 26)).alloc (Obj.cells #[Value.int IntKind.i64 0, Value.int IntKind.i64 1] 26) = W1 at *
    go_wp2_with fail
    refine (c_l1None _).mono ?_
    rintro e w9 ⟨rfl, rfl⟩
    have hA9 := Bx2.keep hA0 (ba (Below.refl _ W1) (Obj.cells #[Value.int IntKind.i64 0, Value.int IntKind.i64 0] 26))
    have hT9 := ba hT0 (Obj.cells #[Value.int IntKind.i64 0, Value.int IntKind.i64 0] 26)
    generalize W1.alloc (Obj.cells #[Value.int IntKind.i64 0, Value.int IntKind.i64 0] 26) = w9 at *
    obtain ⟨a0, a1, a2, a3, a4⟩ := hA9
    go_wp2_with fail
    refine bodyPost_ret (v := .tuple #[.agg #[.int .i64 0, .int .i64 0], .bool false]) (by simp [results, Try.results12, go_sem, a0, a1]) rfl (solPost_f hs.out ?_)
    exact (hT9.setCell (Nat.le_refl _) _).setCell (Nat.le_refl _) _
  · have h6' : n ≤ 6 := by omega
    have hzl : zss.length ≤ 6 := by omega
    have HZ := Lib.hid hzl
    have HA := Lib.hid (solO_le (zss := zss) hzl)
    have HL := Lib.hid hl
    have HF0 := Lib.hid (show solF (zss.drop 0) (0, 1) = solO zss by rw [HA.out]; rfl)
    have hin0 : inB 0 1 = true := by decide
    clear h6 hl hzl
    go_enter Try.func12, Try.ntmps12
    go_wp2_with fail
    generalize hW1 : (w.alloc (Obj.cells #[Value.int IntKind.i64 0, Value.int IntKind.i64 0] 26)).alloc (Obj.cells #[Value.int IntKind.i64 0, Value.int IntKind.i64 1] 26) = W1 at *
    clear hW1
    have hBs : Bx2 W1 (w.heap.size + 1) 0 1 := by simpa using hB0
    clear hB0
    have hne : w.heap.size + 1 ≠ w.heap.size := by omega
    have hDs : w.heap.size ≤ w.heap.size + 1 := by omega
    generalize hD : w.heap.size + 1 = D at *
    clear hD
    go_loopw [5] (fun i wr => ∃ k : Nat, k ≤ n ∧ i = .int .i64 k ∧ Bx2 wr w.heap.size 0 0 ∧ Bx2 wr D 0 1 ∧ Hid (∀ j, j < k → goodL (zss[j]?.getD [])) ∧ Below w.heap.size w wr) (fun i _ => n - (intOf i).toNat)
    case atStart => exact ⟨0, Nat.zero_le _, rfl, hA0, hBs, Lib.hid (fun j hj => by omega), hT0⟩
    case round =>
      clear hA0 hBs hT0
      obtain ⟨k, hk, rfl, hA, hB, HG, hT⟩ := hrel
      by_cases hlt : k < n
      · rcases (hc.keep hT).lies with h0 | ⟨b, off, rfl, hb, hcells⟩
        · omega
        obtain ⟨t, c, hx, hI⟩ := hcells k hlt
        have hlen := hr k hlt
        have HK := Lib.hid (sol_bad (k := k) HZ.out (by rw [HL.out]; exact hlt))
        have HG2 := Lib.hid (fun (h : goodL (zss[k]?.getD [])) j (hj : j < k + 1) => show goodL (zss[j]?.getD []) from by
          by_cases e : j = k
          · rw [e]; exact h
          · exact HG.out j (by omega))
        have hk0 : (0 : Int) ≤ (k : Int) := by omega
        have hkl : (k : Int) < (n : Int) := by omega
        clear hcells HG
        generalize zss[k]?.getD [] = l at *
        by_cases h3 : l.length = 3
        · obtain ⟨b2, o2, rfl, y0, y1, y2⟩ := three_of hI h3
          rw [h3] at hx
          cases hg : nmsB (nAt l 2) (nAt l 0) (nAt l 1)
          · have hs := Lib.hid (HK.out (fun c => stp_f2 (linO_bad hg)))
            clear hI HK HG2 h3 hlen
            generalize nAt l 0 = p at *
            generalize nAt l 1 = q at *
            generalize nAt l 2 = m at *
            go_wp2_with fail
            go_quiet ((go_at_call 27; exact Calls.quiet_of_same ((c_l6sNumbers _ _ _ _).mono fun e w' h => ⟨h.1, h.2.symm⟩)))
            have hA6 := hA.keep (bel_drewN (Below.refl _ wr) nq)
            have hT6 := bel_drewN hT nq
            generalize wr.drewN nq = W6 at *
            go_wp2_with fail
            refine (c_l1None _).mono ?_
            rintro e w9 ⟨rfl, rfl⟩
            have hA9 := Bx2.keep hA6 (ba (Below.refl _ W6) (Obj.cells #[Value.int IntKind.i64 0, Value.int IntKind.i64 0] 26))
            have hT9 := ba hT6 (Obj.cells #[Value.int IntKind.i64 0, Value.int IntKind.i64 0] 26)
            generalize W6.alloc (Obj.cells #[Value.int IntKind.i64 0, Value.int IntKind.i64 0] 26) = w9 at *
            obtain ⟨a0, a1, a2, a3, a4⟩ := hA9
            go_wp2_with fail
            refine bodyPost_ret (v := .tuple #[.agg #[.int .i64 0, .int .i64 0], .bool false]) (by simp [results, Try.results12, go_sem, a0, a1]) rfl (solPost_f hs.out ?_)
            exact (hT9.setCell (Nat.le_refl _) _).setCell (Nat.le_refl _) _
          · have hg2 := Lib.hid (HG2.out ⟨h3, hg⟩)
            clear hI HK HG2 h3 hlen
            generalize nAt l 0 = p at *
            generalize nAt l 1 = q at *
            generalize nAt l 2 = m at *
            go_wp2_with fail
            go_quiet ((go_at_call 27; exact Calls.quiet_of_same ((c_l6sNumbers _ _ _ _).mono fun e w' h => ⟨h.1, h.2.symm⟩)))
            have hA6 := hA.keep (bel_drewN (Below.refl _ wr) nq)
            have hB6 := hB.keep (bel_drewN (Below.refl _ wr) nq)
            have hT6 := bel_drewN hT nq
            clear y0 y1 y2 hx hA hB hT hb
            generalize wr.drewN nq = W6 at *
            go_wp2_with fail
            go_roundw
            case rel => exact ⟨k + 1, by omega, by go_num, hA6, hB6, hg2, hT6⟩
            case measure => simp [intOf]; omega
        · have hs := Lib.hid (HK.out (fun c => stp_f1 h3))
          have h3' : ((l.length : Int) != 3) = true := by simp; omega
          clear hI HK HG2 h3
          go_wp2_with fail
          go_quiet ((go_at_call 27; exact Calls.quiet_of_same ((c_l6sNumbers _ _ _ _).mono fun e w' h => ⟨h.1, h.2.symm⟩)))
          have hA6 := hA.keep (bel_drewN (Below.refl _ wr) nq)
          have hT6 := bel_drewN hT nq
          generalize wr.drewN nq = W6 at *
          go_wp2_with fail
          refine (c_l1None _).mono ?_
          rintro e w9 ⟨rfl, rfl⟩
          have hA9 := Bx2.keep hA6 (ba (Below.refl _ W6) (Obj.cells #[Value.int IntKind.i64 0, Value.int IntKind.i64 0] 26))
          have hT9 := ba hT6 (Obj.cells #[Value.int IntKind.i64 0, Value.int IntKind.i64 0] 26)
          generalize W6.alloc (Obj.cells #[Value.int IntKind.i64 0, Value.int IntKind.i64 0] 26) = w9 at *
          obtain ⟨a0, a1, a2, a3, a4⟩ := hA9
          go_wp2_with fail
          refine bodyPost_ret (v := .tuple #[.agg #[.int .i64 0, .int .i64 0], .bool false]) (by simp [results, Try.results12, go_sem, a0, a1]) rfl (solPost_f hs.out ?_)
          exact (hT9.setCell (Nat.le_refl _) _).setCell (Nat.le_refl _) _
      · have hk' : k = n := by omega
        subst hk'
        have HGA := HG
        clear HG
        go_wp2_with fail
        go_loopw [6] (fun i wr => ∃ (k' : Nat) (x y : Int), k' ≤ k ∧ i = .int .i64 k' ∧ Bx2 wr w.heap.size 0 0 ∧ Bx2 wr D x y ∧ inB x y = true ∧ Hid (solF (zss.drop k') (x, y) = solO zss) ∧ Below w.heap.size w wr) (fun i _ => k - (intOf i).toNat)
        case atStart => exact ⟨0, 0, 1, Nat.zero_le _, rfl, hA, hB, hin0, HF0, hT⟩
        case round =>
          clear hA hB hT hin0 HF0
          obtain ⟨j, x, y, hj, rfl, hA, hB, hin, HF, hT⟩ := hrel
          by_cases hlt2 : j < k
          · rcases (hc.keep hT).lies with h0 | ⟨b, off, rfl, hb, hcells⟩
            · omega
            obtain ⟨t, c, hx, hI⟩ := hcells j hlt2
            have hgd := HGA.out j hlt2
            have hdr := drop_atZ (zss := zss) (k := j) (by rw [HL.out]; exact hlt2)
            rw [hdr] at HF
            have hj0 : (0 : Int) ≤ (j : Int) := by omega
            have hjl : (j : Int) < (k : Int) := by omega
            clear hcells hdr hr
            generalize zss[j]?.getD [] = l at *
            obtain ⟨h3, hnm⟩ := hgd
            obtain ⟨b2, o2, rfl, y0, y1, y2⟩ := three_of hI h3
            rw [h3] at hx
            have hne1 : wr.heap.size ≠ b2 := World.new_ne wr ⟨b2, o2, none⟩ y0
            have hne2 : wr.heap.size ≠ b := World.new_ne wr ⟨b, off + j, none⟩ hx
            obtain ⟨hm, ha, hbn⟩ := nmsB_of hnm
            obtain ⟨m1, m2⟩ := modB_iff.1 hm
            obtain ⟨q1, q2⟩ := numB_iff.1 hbn
            have hLO := linO_3 ha hm hbn
            have ci := fun w => c_l6sLine (nAt l 0) (nAt l 1) (nAt l 2) m1 m2 q1 q2 w
            rw [← hLO] at ci
            clear hnm hm ha hbn hLO HGA
            cases hO : linO (nAt l 0) (nAt l 1) (nAt l 2)
            · have hs := Lib.hid (HF.out.symm.trans (solF_stop (t := zss.drop (j + 1)) (stp_f2 (c := (x, y)) hO)))
              simp only [hO, selI_f] at ci
              clear HF hI hO h3 m1 m2 q1 q2
              generalize nAt l 0 = p at *
              generalize nAt l 1 = q at *
              generalize nAt l 2 = m at *
              go_wp2_with fail
              go_region_held3 (fun w' => w'.cell? ⟨b, off + j, none⟩ = some (.slice (some ⟨b2, o2, none⟩) 3 c) ∧ w'.cell? ⟨b2, o2, none⟩ = some (.int .i64 p) ∧ w'.cell? ⟨b2, o2 + 1, none⟩ = some (.int .i64 q) ∧ w'.cell? ⟨b2, o2 + 2, none⟩ = some (.int .i64 m)) (go_keep) (first | (go_at_call 29; refine (ci _).mono ?_; rintro e w5 ⟨rfl, hb5⟩; have g3 := keepc hb5 (a := ⟨b, off + j, none⟩) (v := .slice (some ⟨b2, o2, none⟩) 3 c) (by go_keep); have g0 := keepc hb5 (a := ⟨b2, o2, none⟩) (v := .int .i64 p) (by go_keep); have g1 := keepc hb5 (a := ⟨b2, o2 + 1, none⟩) (v := .int .i64 q) (by go_keep); have g2 := keepc hb5 (a := ⟨b2, o2 + 2, none⟩) (v := .int .i64 m) (by go_keep); have hne3 : w5.heap.size ≠ b2 := World.new_ne w5 ⟨b2, o2, none⟩ g0; have hne4 : w5.heap.size ≠ b := World.new_ne w5 ⟨b, off + j, none⟩ g3; (try (have nb := newbox2 hb5; obtain ⟨n0, n1, n2, n3, n4⟩ := nb))) | fail)
              all_goals
                first
                  | (have hK : Below wr.heap.size wr (w5.alloc (.cells #[.int .i64 0, .int .i64 0] 26)) := ba (bt2 (drew_below wr) hb5) _
                     have hE : Bx2 (w5.alloc (.cells #[.int .i64 0, .int .i64 0] 26)) w5.heap.size 0 0 := Bx2.new w5 0 0
                     generalize w5.alloc (.cells #[.int .i64 0, .int .i64 0] 26) = W6 at *)
                  | (have hK : Below wr.heap.size wr ((w5.setCell ⟨wr.heap.size, 0, none⟩ (.int .i64 0)).setCell ⟨wr.heap.size, 1, none⟩ (.int .i64 0)) := ((bt2 (ba (Below.refl _ wr) _).drew hb5).setCell (Nat.le_refl _) _).setCell (Nat.le_refl _) _
                     have hE : Bx2 ((w5.setCell ⟨wr.heap.size, 0, none⟩ (.int .i64 0)).setCell ⟨wr.heap.size, 1, none⟩ (.int .i64 0)) wr.heap.size 0 0 := Bx2.set ⟨n0, n1, n2, n3, n4⟩ 0 0
                     generalize (w5.setCell ⟨wr.heap.size, 0, none⟩ (.int .i64 0)).setCell ⟨wr.heap.size, 1, none⟩ (.int .i64 0) = W6 at *)
                have hA6 := hA.keep hK
                have hT6 := bt2 hT hK
                clear g0 g1 g2 g3 hx y0 y1 y2
                go_wp2_with fail
                refine (c_l1None _).mono ?_
                rintro e w9 ⟨rfl, rfl⟩
                have hA9 := Bx2.keep hA6 (ba (Below.refl _ W6) (Obj.cells #[Value.int IntKind.i64 0, Value.int IntKind.i64 0] 26))
                have hT9 := ba hT6 (Obj.cells #[Value.int IntKind.i64 0, Value.int IntKind.i64 0] 26)
                generalize W6.alloc (Obj.cells #[Value.int IntKind.i64 0, Value.int IntKind.i64 0] 26) = w9 at *
                obtain ⟨a0, a1, a2, a3, a4⟩ := hA9
                go_wp2_with fail
                refine bodyPost_ret (v := .tuple #[.agg #[.int .i64 0, .int .i64 0], .bool false]) (by simp [results, Try.results12, go_sem, a0, a1]) rfl (solPost_f hs.out ?_)
                exact (hT9.setCell (Nat.le_refl _) _).setCell (Nat.le_refl _) _
            · have hci := lin_in hO
              have hcm := fun w => c_l1Meet x y (linX (nAt l 0) (nAt l 1) (nAt l 2)) (linN (nAt l 0) (nAt l 2)) hin hci w
              have hmt := mtB_2 hin hci
              cases hM : metB y (linX (nAt l 0) (nAt l 1) (nAt l 2)) (linN (nAt l 0) (nAt l 2)) x
              · have hs := Lib.hid (HF.out.symm.trans (solF_stop (t := zss.drop (j + 1)) (stp_f3 (c := (x, y)) (hmt.trans hM))))
                simp only [hO, selI_t] at ci
                simp only [hM, selI_f] at hcm
                clear HF hI hO h3 hM hci hmt m1 m2 q1 q2
                generalize linX (nAt l 0) (nAt l 1) (nAt l 2) = X at *
                generalize linN (nAt l 0) (nAt l 2) = N at *
                generalize nAt l 0 = p at *
                generalize nAt l 1 = q at *
                generalize nAt l 2 = m at *
                go_wp2_with fail
                go_region_held3 (fun w' => w'.cell? ⟨b, off + j, none⟩ = some (.slice (some ⟨b2, o2, none⟩) 3 c) ∧ w'.cell? ⟨b2, o2, none⟩ = some (.int .i64 p) ∧ w'.cell? ⟨b2, o2 + 1, none⟩ = some (.int .i64 q) ∧ w'.cell? ⟨b2, o2 + 2, none⟩ = some (.int .i64 m)) (go_keep) (first | (go_at_call 29; refine (ci _).mono ?_; rintro e w5 ⟨rfl, hb5⟩; have g3 := keepc hb5 (a := ⟨b, off + j, none⟩) (v := .slice (some ⟨b2, o2, none⟩) 3 c) (by go_keep); have g0 := keepc hb5 (a := ⟨b2, o2, none⟩) (v := .int .i64 p) (by go_keep); have g1 := keepc hb5 (a := ⟨b2, o2 + 1, none⟩) (v := .int .i64 q) (by go_keep); have g2 := keepc hb5 (a := ⟨b2, o2 + 2, none⟩) (v := .int .i64 m) (by go_keep); have hne3 : w5.heap.size ≠ b2 := World.new_ne w5 ⟨b2, o2, none⟩ g0; have hne4 : w5.heap.size ≠ b := World.new_ne w5 ⟨b, off + j, none⟩ g3; (try (have nb := newbox2 hb5; obtain ⟨n0, n1, n2, n3, n4⟩ := nb))) | fail)
                all_goals
                  first
                    | (have hK : Below wr.heap.size wr (w5.alloc (.cells #[.int .i64 X, .int .i64 N] 26)) := ba (bt2 (drew_below wr) hb5) _
                       have hE : Bx2 (w5.alloc (.cells #[.int .i64 X, .int .i64 N] 26)) w5.heap.size X N := Bx2.new w5 X N
                       generalize w5.alloc (.cells #[.int .i64 X, .int .i64 N] 26) = W6 at *)
                    | (have hK : Below wr.heap.size wr ((w5.setCell ⟨wr.heap.size, 0, none⟩ (.int .i64 X)).setCell ⟨wr.heap.size, 1, none⟩ (.int .i64 N)) := ((bt2 (ba (Below.refl _ wr) _).drew hb5).setCell (Nat.le_refl _) _).setCell (Nat.le_refl _) _
                       have hE : Bx2 ((w5.setCell ⟨wr.heap.size, 0, none⟩ (.int .i64 X)).setCell ⟨wr.heap.size, 1, none⟩ (.int .i64 N)) wr.heap.size X N := Bx2.set ⟨n0, n1, n2, n3, n4⟩ X N
                       generalize (w5.setCell ⟨wr.heap.size, 0, none⟩ (.int .i64 X)).setCell ⟨wr.heap.size, 1, none⟩ (.int .i64 N) = W6 at *)
                  have hA6 := hA.keep hK
                  have hB6 := hB.keep hK
                  have hT6 := bt2 hT hK
                  obtain ⟨d0, d1, d2, d3, d4⟩ := hB6
                  obtain ⟨e0, e1, e2, e3, e4⟩ := hE
                  clear g0 g1 g2 g3 hx y0 y1 y2 hK hT hA hB
                  go_wp2_with fail
                  refine (hcm _).mono ?_
                  rintro e w7 ⟨rfl, hb7⟩
                  have hA7 := (hA6.keep hb7).keep (ba (Below.refl _ w7) (Obj.cells #[Value.int IntKind.i64 0, Value.int IntKind.i64 0] 26))
                  have hT7 := ba (bt2 hT6 hb7) (Obj.cells #[Value.int IntKind.i64 0, Value.int IntKind.i64 0] 26)
                  clear d0 d1 d2 d3 d4 e0 e1 e2 e3 e4
                  go_wp2_with fail
                  generalize w7.alloc (Obj.cells #[Value.int IntKind.i64 0, Value.int IntKind.i64 0] 26) = W8 at *
                  go_wp2_with fail
                  refine (c_l1None _).mono ?_
                  rintro e w9 ⟨rfl, rfl⟩
                  have hA9 := Bx2.keep hA7 (ba (Below.refl _ W8) (Obj.cells #[Value.int IntKind.i64 0, Value.int IntKind.i64 0] 26))
                  have hT9 := ba hT7 (Obj.cells #[Value.int IntKind.i64 0, Value.int IntKind.i64 0] 26)
                  generalize W8.alloc (Obj.cells #[Value.int IntKind.i64 0, Value.int IntKind.i64 0] 26) = w9 at *
                  obtain ⟨a0, a1, a2, a3, a4⟩ := hA9
                  go_wp2_with fail
                  refine bodyPost_ret (v := .tuple #[.agg #[.int .i64 0, .int .i64 0], .bool false]) (by simp [results, Try.results12, go_sem, a0, a1]) rfl (solPost_f hs.out ?_)
                  exact (hT9.setCell (Nat.le_refl _) _).setCell (Nat.le_refl _) _
              · have hs := Lib.hid ((solF_cons (t := zss.drop (j + 1)) (stp_t (c := (x, y)) h3 hO (hmt.trans hM))).symm.trans HF.out)
                have hmi := met_in (hmt.trans hM)
                simp only [hO, selI_t] at ci
                simp only [hM, selI_t] at hcm
                clear HF hI hO h3 hM hci hmt m1 m2 q1 q2
                generalize linX (nAt l 0) (nAt l 1) (nAt l 2) = X at *
                generalize linN (nAt l 0) (nAt l 2) = N at *
                generalize nAt l 0 = p at *
                generalize nAt l 1 = q at *
                generalize nAt l 2 = m at *
                generalize metX y X N x = X2 at *
                generalize lcmI y N = N2 at *
                go_wp2_with fail
                go_region_held3 (fun w' => w'.cell? ⟨b, off + j, none⟩ = some (.slice (some ⟨b2, o2, none⟩) 3 c) ∧ w'.cell? ⟨b2, o2, none⟩ = some (.int .i64 p) ∧ w'.cell? ⟨b2, o2 + 1, none⟩ = some (.int .i64 q) ∧ w'.cell? ⟨b2, o2 + 2, none⟩ = some (.int .i64 m)) (go_keep) (first | (go_at_call 29; refine (ci _).mono ?_; rintro e w5 ⟨rfl, hb5⟩; have g3 := keepc hb5 (a := ⟨b, off + j, none⟩) (v := .slice (some ⟨b2, o2, none⟩) 3 c) (by go_keep); have g0 := keepc hb5 (a := ⟨b2, o2, none⟩) (v := .int .i64 p) (by go_keep); have g1 := keepc hb5 (a := ⟨b2, o2 + 1, none⟩) (v := .int .i64 q) (by go_keep); have g2 := keepc hb5 (a := ⟨b2, o2 + 2, none⟩) (v := .int .i64 m) (by go_keep); have hne3 : w5.heap.size ≠ b2 := World.new_ne w5 ⟨b2, o2, none⟩ g0; have hne4 : w5.heap.size ≠ b := World.new_ne w5 ⟨b, off + j, none⟩ g3; (try (have nb := newbox2 hb5; obtain ⟨n0, n1, n2, n3, n4⟩ := nb))) | fail)
                all_goals
                  first
                    | (have hK : Below wr.heap.size wr (w5.alloc (.cells #[.int .i64 X, .int .i64 N] 26)) := ba (bt2 (drew_below wr) hb5) _
                       have hE : Bx2 (w5.alloc (.cells #[.int .i64 X, .int .i64 N] 26)) w5.heap.size X N := Bx2.new w5 X N
                       generalize w5.alloc (.cells #[.int .i64 X, .int .i64 N] 26) = W6 at *)
                    | (have hK : Below wr.heap.size wr ((w5.setCell ⟨wr.heap.size, 0, none⟩ (.int .i64 X)).setCell ⟨wr.heap.size, 1, none⟩ (.int .i64 N)) := ((bt2 (ba (Below.refl _ wr) _).drew hb5).setCell (Nat.le_refl _) _).setCell (Nat.le_refl _) _
                       have hE : Bx2 ((w5.setCell ⟨wr.heap.size, 0, none⟩ (.int .i64 X)).setCell ⟨wr.heap.size, 1, none⟩ (.int .i64 N)) wr.heap.size X N := Bx2.set ⟨n0, n1, n2, n3, n4⟩ X N
                       generalize (w5.setCell ⟨wr.heap.size, 0, none⟩ (.int .i64 X)).setCell ⟨wr.heap.size, 1, none⟩ (.int .i64 N) = W6 at *)
                  have hA6 := hA.keep hK
                  have hB6 := hB.keep hK
                  have hT6 := bt2 hT hK
                  obtain ⟨d0, d1, d2, d3, d4⟩ := hB6
                  obtain ⟨e0, e1, e2, e3, e4⟩ := hE
                  clear g0 g1 g2 g3 hx y0 y1 y2 hK hT hA hB
                  go_wp2_with fail
                  refine (hcm _).mono ?_
                  rintro e w7 ⟨rfl, hb7⟩
                  have hA7 := (hA6.keep hb7).keep (ba (Below.refl _ w7) (Obj.cells #[Value.int IntKind.i64 X2, Value.int IntKind.i64 N2] 26))
                  have hB7 := (Bx2.keep ⟨d0, d1, d2, d3, d4⟩ hb7).keep (ba (Below.refl _ w7) (Obj.cells #[Value.int IntKind.i64 X2, Value.int IntKind.i64 N2] 26))
                  have hT7 := ba (bt2 hT6 hb7) (Obj.cells #[Value.int IntKind.i64 X2, Value.int IntKind.i64 N2] 26)
                  have hA8 := (hA7.miss hne 0 (.int .i64 X2)).miss hne 1 (.int .i64 N2)
                  have hB8 := hB7.set X2 N2
                  have hnew := Bx2.new w7 X2 N2
                  have hT8 := (hT7.setCell (p := ⟨D, 0, none⟩) hDs (.int .i64 X2)).setCell (p := ⟨D, 1, none⟩) hDs (.int .i64 N2)
                  clear d0 d1 d2 d3 d4 e0 e1 e2 e3 e4
                  obtain ⟨b0, b1, b2', b3, b4⟩ := hB7
                  obtain ⟨e0, e1, e2, e3, e4⟩ := hnew
                  go_wp2_with fail
                  go_roundw
                  case rel => exact ⟨j + 1, X2, N2, by omega, by go_num, hA8, hB8, hmi, hs, hT8⟩
                  case measure => simp [intOf]; omega
          · have hj' : j = k := by omega
            subst hj'
            have hs := Lib.hid (show solO zss = some (x, y) by rw [← HF.out, List.drop_of_length_le (by rw [HL.out]; exact Nat.le_refl _)]; rfl)
            obtain ⟨a0, a1, a2, a3, a4⟩ := hA
            obtain ⟨d0, d1, d2, d3, d4⟩ := hB
            clear HF hc hr HGA
            go_wp2_with fail
            refine bodyPost_ret (v := .tuple #[.agg #[.int .i64 x, .int .i64 y], .bool true]) (by simp [results, Try.results12, go_sem, a0, a1]) rfl (solPost_t hs.out ?_)
            exact (hT.setCell (Nat.le_refl _) _).setCell (Nat.le_refl _) _
end Go.Proofs.Ytcbpbfencgnppaa
