/- The model's l4Sorted. -/
import Derived.Test.YtobdliefaaoefaaDoorS1
import Derived.Test.YtobdliefaaoefaaDoorMathO
import Derived.Test.YtobdliefaaoefaaDoorStepC
import Derived.Test.YtobdliefaaoefaaDoorS3
import Derived.Deep.RegionHeld3
import Derived.BigQuiet
namespace Go.Proofs.YtobdliefaaoefaaDoor
open Go.RowKit
theorem posI_step {c : Cl} {l : List Cl} {k : Nat} (h : ¬ leC (rAt l k, mAt l k) c) : posI c l (k + 1) = posI c l k := by simp only [posI]; rw [if_neg h]
theorem posI_stop {c : Cl} {l : List Cl} {k : Nat} (h : leC (rAt l k, mAt l k) c) : posI c l (k + 1) = k + 1 := by simp only [posI]; rw [if_pos h]
theorem Cls.front {w : World} {s : Option Addr} {n k : Nat} {zs : List Cl} (h : Cls w s n zs) (hk : k ≤ n) : Cls w s k (zs.take k) := by
  have hlen := h.len
  refine ⟨by rw [List.length_take]; omega, ?_⟩
  rcases h.lies with h0 | ⟨b1, o1, hh, hb1, hcells1⟩
  · left
    omega
  · right
    refine ⟨b1, o1, hh, hb1, fun j hj => ?_⟩
    have := hcells1 j (by omega)
    unfold rAt mAt at *
    have e : (zs.take k).getD j (0, 0) = zs.getD j (0, 0) := by
      simp [List.getD, hj]
    rw [e]
    exact this
theorem Cls.back {w : World} {b off n k : Nat} {zs : List Cl} (h : Cls w (some ⟨b, off, none⟩) n zs) (hk : k ≤ n) : Cls w (some ⟨b, off + k * 2, none⟩) (n - k) (zs.drop k) := by
  have hlen := h.len
  refine ⟨by rw [List.length_drop, hlen], ?_⟩
  rcases h.lies with h0 | ⟨b1, o1, hh, hb1, hcells1⟩
  · left
    omega
  · right
    cases hh
    refine ⟨b, off + k * 2, rfl, hb1, fun j hj => ?_⟩
    have := hcells1 (k + j) (by omega)
    unfold rAt mAt at *
    have e : (zs.drop k).getD j (0, 0) = zs.getD (k + j) (0, 0) := by simp [List.getD]
    rw [e, show off + k * 2 + j * 2 = off + (k + j) * 2 by omega]
    exact this
theorem cls_new (w : World) (r m : Int) : Cls (w.alloc (.cells #[.int .i64 r, .int .i64 m] 31)) (some ⟨w.heap.size, 0, none⟩) 1 [(r, m)] := by
  refine ⟨rfl, .inr ⟨w.heap.size, 0, rfl, by simp, fun j hj => ?_⟩⟩
  obtain rfl : j = 0 := by omega
  exact ⟨by simp [rAt], by simp [mAt]⟩
set_option maxRecDepth 20000 in
set_option maxHeartbeats 8000000 in
theorem c_l4Sorted (s : Option Addr) (n cap : Nat) (zs : List Cl) (hn : n ≤ 1000) (w : World) (hc : Cls w s n zs) :
    Calls Tryd.prog 22 #[.slice s n cap] w fun e w' => ∃ v, e = .returned v ∧ OwnC w' w.heap.size 31 v (srtL zs) ∧ Below w.heap.size w w' := by
  have hlen := hc.len
  have HLen := Lib.hid (fun (i : Nat) (hi : i ≤ n) => srtK_length zs i (by omega))
  have HEnd := Lib.hid (show srtK zs n = srtL zs by unfold srtL; rw [hlen])
  have HStep := Lib.hid (fun (i : Nat) => show srtK zs (i + 1) = insC (rAt zs i, mAt zs i) (srtK zs i) from rfl)
  clear hlen
  go_enter Tryd.func22, Tryd.ntmps22
  go_wp2_with fail
  go_loopw [3, 4] (fun v i wr => ∃ k g cp : Nat, k ≤ n ∧ i = .int .i64 k ∧ v = .slice (some ⟨g, 0, none⟩) k cp ∧ k ≤ cp ∧ OwnC wr w.heap.size 31 (.slice (some ⟨g, 0, none⟩) k cp) (srtK zs k) ∧ Below w.heap.size w wr) (fun _ i _ => n - (intOf i).toNat)
  case atStart => exact ⟨0, w.heap.size, 0, Nat.zero_le _, rfl, rfl, Nat.le_refl _, own_lit0 w, ba (Below.refl _ _) _⟩
  case round =>
    obtain ⟨i, g, cp, hi, rfl, rfl, hcp, hO, hB⟩ := hrel
    have hiw : i ≤ 1000 := by omega
    by_cases hlt : i < n
    · have hL := hO.cls.1
      have hll := HLen.out i hi
      have HS := Lib.hid (HStep.out i)
      rcases (hc.keep hB).lies with h0 | ⟨b1, o1, rfl, hb1, hcells1⟩
      · omega
      obtain ⟨hx1, hx2⟩ := hcells1 i hlt
      generalize hcl : srtK zs i = l at *
      clear hcells1
      generalize hrc : rAt zs i = rc at *
      generalize hmc : mAt zs i = mc at *
      have hiz0 : (0 : Int) ≤ (i : Int) := by omega
      have hiz1 : (i : Int) < (n : Int) := by omega
      go_wp2_with fail
      go_loopw [5] (fun x wq => ∃ k : Nat, k ≤ i ∧ x = .int .i64 k ∧ Hid (posI (rc, mc) l i = posI (rc, mc) l k) ∧ Below wr.heap.size wr wq) (fun x _ => (intOf x).toNat)
      case atStart => exact ⟨i, Nat.le_refl _, rfl, Lib.hid rfl, Below.refl _ _⟩
      case round =>
        obtain ⟨k, hk, rfl, hP, hBq⟩ := hrel
        have hx1' := keepc hBq hx1
        have hx2' := keepc hBq hx2
        rcases Nat.eq_zero_or_pos k with hk0 | hk0
        · have hPk : posI (rc, mc) l k = k := by rw [hk0]; rfl
          have hkz : decide (0 < k) = false := by rw [hk0]; rfl
          replace hk0 := Lib.hid hk0
          · go_wp2_with fail
            go_quiet (fail)
            go_wp2_with fail
            have hpk : posI (rc, mc) l i = k := by rw [hP.out]; exact hPk
            have HI := Lib.hid (show insC (rc, mc) l = [] ++ l.take k ++ [(rc, mc)] ++ l.drop k by unfold insC; rw [hll, hpk]; try simp)
            clear hpk hPk hP
            have hkz0 : (0 : Int) ≤ (k : Int) := by omega
            have hkz1 : (k : Int) ≤ (cp : Int) := by omega
            have hkz2 : (k : Int) ≤ (i : Int) := by omega
            have hkz3 : (i : Int) ≤ (cp : Int) := by omega
            have hBz := bel_drewN hBq nq
            generalize wr.drewN nq = wq at *
            have hLk := hL.keep hBz
            have hO1 := own_lit0 wq
            have hO2 := hO1.keep (ba (Below.refl _ _) (.cells #[.int .i64 rc, .int .i64 mc] 31))
            have hO3 : OwnC ((wq.alloc (.cells #[.int .i64 rc, .int .i64 mc] 31)).alloc (.cells #[] 31)) wq.heap.size 31 (.slice (some ⟨wq.heap.size + 1, 0, none⟩) 0 0) [] := by
              have := (own_lit0 (wq.alloc (.cells #[.int .i64 rc, .int .i64 mc] 31))).low (b2 := wq.heap.size) (by simp)
              simpa using this
            have HF := Lib.hid (fun W (h : Below wq.heap.size wq W) => (hLk.keep h).front (k := k) hk)
            have HD := Lib.hid (fun W (h : Below wq.heap.size wq W) => show Cls W (some ⟨g, k * 2, none⟩) (i - k) (l.drop k) by
              have := (hLk.keep h).back (k := k) hk
              rwa [Nat.zero_add] at this)
            have hlt2 : (l.take k).length = k := by rw [List.length_take]; omega
            have hn1 : ∀ W : World, Cls (W.alloc (.cells #[.int .i64 rc, .int .i64 mc] 31)) (some ⟨W.heap.size, 0, none⟩) 1 [(rc, mc)] := fun W => cls_new W rc mc
            have hA : k < cp ∨ k = cp := by omega
            have hq1 := keepc hBz hx1
            have hq2 := keepc hBz hx2
            have hN2 : Cls ((wq.alloc (.cells #[] 31)).alloc (.cells #[.int .i64 rc, .int .i64 mc] 31)) (some ⟨wq.heap.size + 1, 0, none⟩) 1 [(rc, mc)] := by simpa using hn1 (wq.alloc (.cells #[] 31))
            have hN3 := (hn1 wq).keep (ba (Below.refl _ _) (.cells #[] 31))
            have hw11 := (ba (Below.refl wq.heap.size wq) (.cells #[] 31)).drew
            have hw22 := (ba (ba (Below.refl wq.heap.size wq) (.cells #[] 31)) (.cells #[.int .i64 rc, .int .i64 mc] 31)).drew
            have hw33 := (ba (ba (Below.refl wq.heap.size wq) (.cells #[.int .i64 rc, .int .i64 mc] 31)) (.cells #[] 31)).drew
            have hP1 : OwnC (wq.alloc (.cells #[] 31)).drew wq.heap.size 31 (.slice (some ⟨wq.heap.size, 0, none⟩) 0 0) [] := hO1
            have hP2 : OwnC ((wq.alloc (.cells #[] 31)).alloc (.cells #[.int .i64 rc, .int .i64 mc] 31)).drew wq.heap.size 31 (.slice (some ⟨wq.heap.size, 0, none⟩) 0 0) [] := hO2
            have hP3 : OwnC ((wq.alloc (.cells #[.int .i64 rc, .int .i64 mc] 31)).alloc (.cells #[] 31)).drew wq.heap.size 31 (.slice (some ⟨wq.heap.size + 1, 0, none⟩) 0 0) [] := hO3
            have hM2 := hN2.keep (Below.refl _ _).drew
            have hM3 := hN3.keep (Below.refl _ _).drew
            have hb11 := hw11.size
            have hb22 := hw22.size
            have hb33 := hw33.size
            have hF1 := HF.out _ hw11
            have hF2 := HF.out _ hw22
            have hF3 := HF.out _ hw33
            have hbase : w.heap.size ≤ wq.heap.size := Nat.le_trans hB.size hBz.size
            have HIL := Lib.hid (show (insC (rc, mc) l).length = i + 1 by rw [insC_length, hll])
            have hBw := Lib.hid (hB.trans (hBz.mono hB.size))
            clear hL hLk hO hk0
            try clear hkz
            rcases hA with hA | hA
            · have hAn : ¬ cp = k := by omega
              go_region_held3 (fun w' => w'.cell? ⟨b1, o1 + i * 2, none⟩ = some (.int .i64 rc) ∧ w'.cell? ⟨b1, o1 + i * 2 + 1, none⟩ = some (.int .i64 mc)) (first | go_keep | exact ⟨keepc (by repeat (first | exact Below.refl _ _ | assumption | refine Below.drew ?_ | refine bel_drewN ?_ _ | refine ba ?_ _ | refine bt2 ?_ (by assumption) | refine Below.setCell ?_ (by simp <;> omega) _)) hq1, keepc (by repeat (first | exact Below.refl _ _ | assumption | refine Below.drew ?_ | refine bel_drewN ?_ _ | refine ba ?_ _ | refine bt2 ?_ (by assumption) | refine Below.setCell ?_ (by simp <;> omega) _)) hq2⟩) (first
                | (refine step_append_cls rfl (.tmp 61) (.tmp 64) rfl wq.heap.size _ [] rfl hP1 (some ⟨g, 0, none⟩) k cp (l.take k) rfl hF1 (by simp; omega) hb11 ?_; intro v5 w5 hO5 hg5; have hB5 : Below wq.heap.size wq w5 := Below.grown hw11 hg5 hb11 (fun g e => by cases e; exact Nat.le_refl _); have hC5 := hn1 w5; have hs5 := hB5.size)
                | (refine step_append_cls rfl (.tmp 61) (.tmp 64) rfl wq.heap.size _ [] rfl hP2 (some ⟨g, 0, none⟩) k cp (l.take k) rfl hF2 (by simp; omega) hb22 ?_; intro v5 w5 hO5 hg5; have hB5 : Below wq.heap.size wq w5 := Below.grown hw22 hg5 hb22 (fun g e => by cases e; exact Nat.le_refl _); have hC5 := Cls.other (b := wq.heap.size) hM2 hg5 (by omega); have hs5 := hB5.size)
                | (refine step_append_cls rfl (.tmp 61) (.tmp 64) rfl wq.heap.size _ [] rfl hP3 (some ⟨g, 0, none⟩) k cp (l.take k) rfl hF3 (by simp; omega) hb33 ?_; intro v5 w5 hO5 hg5; have hB5 : Below wq.heap.size wq w5 := Below.grown hw33 hg5 hb33 (fun g e => by cases e; simp); have hC5 := Cls.other (b := wq.heap.size + 1) hM3 hg5 (by omega); have hs5 := hB5.size)
                | (refine step_append_cls rfl (.tmp 65) (.tmp 70) rfl wq.heap.size v5 _ rfl (hO5.keep (ba (Below.refl _ _) _)) (some ⟨w5.heap.size, 0, none⟩) 1 1 [(rc, mc)] rfl hC5 (by simp; omega) (by simp; omega) ?_; intro v7 w7 hO7 hg7; have hB7 : Below wq.heap.size wq w7 := Below.grown (by repeat (first | exact Below.refl _ _ | assumption | refine Below.drew ?_ | refine bel_drewN ?_ _ | refine ba ?_ _ | refine bt2 ?_ (by assumption) | refine Below.setCell ?_ (by simp <;> omega) _)) hg7 (by simp; omega) (fun g e => (World.ownsRow.lt hO5 g e).1); have hs7 := hB7.size)
                | (refine step_append_cls rfl (.tmp 65) (.tmp 70) rfl wq.heap.size v5 _ rfl hO5 (some ⟨wq.heap.size + 1, 0, none⟩) 1 1 [(rc, mc)] rfl hC5 (by simp; omega) hs5 ?_; intro v7 w7 hO7 hg7; have hB7 : Below wq.heap.size wq w7 := Below.grown hB5 hg7 hs5 (fun g e => (World.ownsRow.lt hO5 g e).1); have hs7 := hB7.size)
                | (refine step_append_cls rfl (.tmp 65) (.tmp 70) rfl wq.heap.size v5 _ rfl hO5 (some ⟨wq.heap.size, 0, none⟩) 1 1 [(rc, mc)] rfl hC5 (by simp; omega) hs5 ?_; intro v7 w7 hO7 hg7; have hB7 : Below wq.heap.size wq w7 := Below.grown hB5 hg7 hs5 (fun g e => (World.ownsRow.lt hO5 g e).1); have hs7 := hB7.size)
                | (refine step_append_cls rfl (.tmp 71) (.tmp 74) rfl wq.heap.size v7 _ rfl hO7 (some ⟨g, k * 2, none⟩) (i - k) (cp - k) (l.drop k) rfl (HD.out _ hB7) (by simp; omega) hs7 ?_; intro v9 w9 hO9 hg9; have hB9 : Below wq.heap.size wq w9 := Below.grown hB7 hg9 hs7 (fun g e => (World.ownsRow.lt hO7 g e).1))
                | fail)
              all_goals
                rw [← HI.out] at hO9
                obtain ⟨g9, c9, hv9⟩ : ∃ g9 c9, v9 = .slice (some ⟨g9, 0, none⟩) (i + 1) c9 := by
                  rcases hO9.cases with ⟨_, hz⟩ | ⟨g9, c9, hv, _⟩
                  · rw [hz] at HIL; have := HIL.out; simp at this
                  · exact ⟨g9, c9, by rw [hv, HIL.out]⟩
                subst hv9
                have hle9 := hO9.cls.2.2
                have hOw := hO9.low hbase
                rw [← HS.out] at hOw
                have hB9w := hBw.out.trans (hB9.mono hbase)
                clear hO9 hO7 hO5 hg9 hg7 hg5 hB9 hB7 hB5
                go_wp2_with fail
                go_roundw
                case rel => exact ⟨i + 1, g9, c9, by omega, by go_num, rfl, hle9, hOw, hB9w⟩
                case measure => simp [intOf]; omega
            · obtain rfl : k = i := by omega
              obtain rfl : k = cp := hA
              go_region_held3 (fun w' => w'.cell? ⟨b1, o1 + k * 2, none⟩ = some (.int .i64 rc) ∧ w'.cell? ⟨b1, o1 + k * 2 + 1, none⟩ = some (.int .i64 mc)) (first | go_keep | exact ⟨keepc (by repeat (first | exact Below.refl _ _ | assumption | refine Below.drew ?_ | refine bel_drewN ?_ _ | refine ba ?_ _ | refine bt2 ?_ (by assumption) | refine Below.setCell ?_ (by simp <;> omega) _)) hq1, keepc (by repeat (first | exact Below.refl _ _ | assumption | refine Below.drew ?_ | refine bel_drewN ?_ _ | refine ba ?_ _ | refine bt2 ?_ (by assumption) | refine Below.setCell ?_ (by simp <;> omega) _)) hq2⟩) (first
                | (refine step_append_cls rfl (.tmp 61) (.tmp 64) rfl wq.heap.size _ [] rfl hP1 (some ⟨g, 0, none⟩) k k (l.take k) rfl hF1 (by simp; omega) hb11 ?_; intro v5 w5 hO5 hg5; have hB5 : Below wq.heap.size wq w5 := Below.grown hw11 hg5 hb11 (fun g e => by cases e; exact Nat.le_refl _); have hC5 := hn1 w5; have hs5 := hB5.size)
                | (refine step_append_cls rfl (.tmp 61) (.tmp 64) rfl wq.heap.size _ [] rfl hP2 (some ⟨g, 0, none⟩) k k (l.take k) rfl hF2 (by simp; omega) hb22 ?_; intro v5 w5 hO5 hg5; have hB5 : Below wq.heap.size wq w5 := Below.grown hw22 hg5 hb22 (fun g e => by cases e; exact Nat.le_refl _); have hC5 := Cls.other (b := wq.heap.size) hM2 hg5 (by omega); have hs5 := hB5.size)
                | (refine step_append_cls rfl (.tmp 61) (.tmp 64) rfl wq.heap.size _ [] rfl hP3 (some ⟨g, 0, none⟩) k k (l.take k) rfl hF3 (by simp; omega) hb33 ?_; intro v5 w5 hO5 hg5; have hB5 : Below wq.heap.size wq w5 := Below.grown hw33 hg5 hb33 (fun g e => by cases e; simp); have hC5 := Cls.other (b := wq.heap.size + 1) hM3 hg5 (by omega); have hs5 := hB5.size)
                | (refine step_append_cls rfl (.tmp 65) (.tmp 70) rfl wq.heap.size v5 _ rfl (hO5.keep (ba (Below.refl _ _) _)) (some ⟨w5.heap.size, 0, none⟩) 1 1 [(rc, mc)] rfl hC5 (by simp; omega) (by simp; omega) ?_; intro v7 w7 hO7 hg7; have hB7 : Below wq.heap.size wq w7 := Below.grown (by repeat (first | exact Below.refl _ _ | assumption | refine Below.drew ?_ | refine bel_drewN ?_ _ | refine ba ?_ _ | refine bt2 ?_ (by assumption) | refine Below.setCell ?_ (by simp <;> omega) _)) hg7 (by simp; omega) (fun g e => (World.ownsRow.lt hO5 g e).1); have hs7 := hB7.size)
                | (refine step_append_cls rfl (.tmp 65) (.tmp 70) rfl wq.heap.size v5 _ rfl hO5 (some ⟨wq.heap.size + 1, 0, none⟩) 1 1 [(rc, mc)] rfl hC5 (by simp; omega) hs5 ?_; intro v7 w7 hO7 hg7; have hB7 : Below wq.heap.size wq w7 := Below.grown hB5 hg7 hs5 (fun g e => (World.ownsRow.lt hO5 g e).1); have hs7 := hB7.size)
                | (refine step_append_cls rfl (.tmp 65) (.tmp 70) rfl wq.heap.size v5 _ rfl hO5 (some ⟨wq.heap.size, 0, none⟩) 1 1 [(rc, mc)] rfl hC5 (by simp; omega) hs5 ?_; intro v7 w7 hO7 hg7; have hB7 : Below wq.heap.size wq w7 := Below.grown hB5 hg7 hs5 (fun g e => (World.ownsRow.lt hO5 g e).1); have hs7 := hB7.size)
                | (refine step_append_cls rfl (.tmp 71) (.tmp 74) rfl wq.heap.size v7 _ rfl hO7 (some ⟨g, 0, none⟩) 0 0 [] rfl ⟨rfl, .inl rfl⟩ (by simp; omega) hs7 ?_; intro v9 w9 hO9 hg9; have hB9 : Below wq.heap.size wq w9 := Below.grown hB7 hg9 hs7 (fun g e => (World.ownsRow.lt hO7 g e).1))
                | fail)
              all_goals
                rw [show [] ++ l.take k ++ [(rc, mc)] ++ [] = insC (rc, mc) l by rw [HI.out, List.drop_eq_nil_of_le (by omega)]] at hO9
                obtain ⟨g9, c9, hv9⟩ : ∃ g9 c9, v9 = .slice (some ⟨g9, 0, none⟩) (k + 1) c9 := by
                  rcases hO9.cases with ⟨_, hz⟩ | ⟨g9, c9, hv, _⟩
                  · rw [hz] at HIL; have := HIL.out; simp at this
                  · exact ⟨g9, c9, by rw [hv, HIL.out]⟩
                subst hv9
                have hle9 := hO9.cls.2.2
                have hOw := hO9.low hbase
                rw [← HS.out] at hOw
                have hB9w := hBw.out.trans (hB9.mono hbase)
                clear hO9 hO7 hO5 hg9 hg7 hg5 hB9 hB7 hB5
                go_wp2_with fail
                go_roundw
                case rel => exact ⟨k + 1, g9, c9, by omega, by go_num, rfl, hle9, hOw, hB9w⟩
                case measure => simp [intOf]; omega
        · obtain ⟨j, rfl⟩ : ∃ j, k = j + 1 := ⟨k - 1, by omega⟩
          obtain ⟨hy1, hy2⟩ : wr.cell? ⟨g, j * 2, none⟩ = some (.int .i64 (rAt l j)) ∧ wr.cell? ⟨g, j * 2 + 1, none⟩ = some (.int .i64 (mAt l j)) := by
            rcases (hL.keep hBq).lies with h0 | ⟨b2, o2, e2, hb2, hcells2⟩
            · omega
            · cases e2
              have := hcells2 j (by omega)
              rwa [Nat.zero_add] at this
          have hjz0 : (0 : Int) ≤ (j : Int) := by omega
          have hjz1 : (j : Int) < (i : Int) := by omega
          have hst := fun (h : ¬ leC (rAt l j, mAt l j) (rc, mc)) => posI_step h
          have hsp := fun (h : leC (rAt l j, mAt l j) (rc, mc)) => posI_stop h
          unfold leC at hst hsp
          simp only at hst hsp
          generalize rAt l j = rl at *
          generalize mAt l j = ml at *
          rcases Int.lt_trichotomy mc ml with hA | hA | hA
          · have HP2 := Lib.hid (show posI (rc, mc) l i = posI (rc, mc) l j by rw [hP.out]; exact hst (by omega))
            clear hst hsp
            go_wp2_with fail
            go_quiet (fail)
            go_wp2_with fail
            go_roundw
            case rel => exact ⟨j, by omega, rfl, HP2, bel_drewN hBq _⟩
            case measure => simp [intOf]
          · have hE : (mc == ml) = true := by simpa using hA
            by_cases hr : rc < rl
            · have HP2 := Lib.hid (show posI (rc, mc) l i = posI (rc, mc) l j by rw [hP.out]; exact hst (by omega))
              have hA2 : ¬ mc < ml := by omega
              clear hst hsp
              go_wp2_with fail
              go_quiet (fail)
              go_wp2_with fail
              go_roundw
              case rel => exact ⟨j, by omega, rfl, HP2, bel_drewN hBq _⟩
              case measure => simp [intOf]
            · have hPk : posI (rc, mc) l (j + 1) = j + 1 := hsp (by omega)
              have hA2 : decide (mc < ml) = false := by simp; omega
              have hr2 : decide (rc < rl) = false := by simp; omega
              clear hst hsp hA hr
              go_wp2_with fail
              go_quiet (fail)
              go_wp2_with fail
              generalize hjk : j + 1 = k at *
              have hpk : posI (rc, mc) l i = k := by rw [hP.out]; exact hPk
              have HI := Lib.hid (show insC (rc, mc) l = [] ++ l.take k ++ [(rc, mc)] ++ l.drop k by unfold insC; rw [hll, hpk]; try simp)
              clear hpk hPk hP
              have hkz0 : (0 : Int) ≤ (k : Int) := by omega
              have hkz1 : (k : Int) ≤ (cp : Int) := by omega
              have hkz2 : (k : Int) ≤ (i : Int) := by omega
              have hkz3 : (i : Int) ≤ (cp : Int) := by omega
              have hBz := bel_drewN hBq nq
              generalize wr.drewN nq = wq at *
              have hLk := hL.keep hBz
              have hO1 := own_lit0 wq
              have hO2 := hO1.keep (ba (Below.refl _ _) (.cells #[.int .i64 rc, .int .i64 mc] 31))
              have hO3 : OwnC ((wq.alloc (.cells #[.int .i64 rc, .int .i64 mc] 31)).alloc (.cells #[] 31)) wq.heap.size 31 (.slice (some ⟨wq.heap.size + 1, 0, none⟩) 0 0) [] := by
                have := (own_lit0 (wq.alloc (.cells #[.int .i64 rc, .int .i64 mc] 31))).low (b2 := wq.heap.size) (by simp)
                simpa using this
              have HF := Lib.hid (fun W (h : Below wq.heap.size wq W) => (hLk.keep h).front (k := k) hk)
              have HD := Lib.hid (fun W (h : Below wq.heap.size wq W) => show Cls W (some ⟨g, k * 2, none⟩) (i - k) (l.drop k) by
                have := (hLk.keep h).back (k := k) hk
                rwa [Nat.zero_add] at this)
              have hlt2 : (l.take k).length = k := by rw [List.length_take]; omega
              have hn1 : ∀ W : World, Cls (W.alloc (.cells #[.int .i64 rc, .int .i64 mc] 31)) (some ⟨W.heap.size, 0, none⟩) 1 [(rc, mc)] := fun W => cls_new W rc mc
              have hA : k < cp ∨ k = cp := by omega
              have hq1 := keepc hBz hx1
              have hq2 := keepc hBz hx2
              have hN2 : Cls ((wq.alloc (.cells #[] 31)).alloc (.cells #[.int .i64 rc, .int .i64 mc] 31)) (some ⟨wq.heap.size + 1, 0, none⟩) 1 [(rc, mc)] := by simpa using hn1 (wq.alloc (.cells #[] 31))
              have hN3 := (hn1 wq).keep (ba (Below.refl _ _) (.cells #[] 31))
              have hw11 := (ba (Below.refl wq.heap.size wq) (.cells #[] 31)).drew
              have hw22 := (ba (ba (Below.refl wq.heap.size wq) (.cells #[] 31)) (.cells #[.int .i64 rc, .int .i64 mc] 31)).drew
              have hw33 := (ba (ba (Below.refl wq.heap.size wq) (.cells #[.int .i64 rc, .int .i64 mc] 31)) (.cells #[] 31)).drew
              have hP1 : OwnC (wq.alloc (.cells #[] 31)).drew wq.heap.size 31 (.slice (some ⟨wq.heap.size, 0, none⟩) 0 0) [] := hO1
              have hP2 : OwnC ((wq.alloc (.cells #[] 31)).alloc (.cells #[.int .i64 rc, .int .i64 mc] 31)).drew wq.heap.size 31 (.slice (some ⟨wq.heap.size, 0, none⟩) 0 0) [] := hO2
              have hP3 : OwnC ((wq.alloc (.cells #[.int .i64 rc, .int .i64 mc] 31)).alloc (.cells #[] 31)).drew wq.heap.size 31 (.slice (some ⟨wq.heap.size + 1, 0, none⟩) 0 0) [] := hO3
              have hM2 := hN2.keep (Below.refl _ _).drew
              have hM3 := hN3.keep (Below.refl _ _).drew
              have hb11 := hw11.size
              have hb22 := hw22.size
              have hb33 := hw33.size
              have hF1 := HF.out _ hw11
              have hF2 := HF.out _ hw22
              have hF3 := HF.out _ hw33
              have hbase : w.heap.size ≤ wq.heap.size := Nat.le_trans hB.size hBz.size
              have HIL := Lib.hid (show (insC (rc, mc) l).length = i + 1 by rw [insC_length, hll])
              have hBw := Lib.hid (hB.trans (hBz.mono hB.size))
              clear hL hLk hO hk0
              try clear hkz
              rcases hA with hA | hA
              · have hAn : ¬ cp = k := by omega
                go_region_held3 (fun w' => w'.cell? ⟨b1, o1 + i * 2, none⟩ = some (.int .i64 rc) ∧ w'.cell? ⟨b1, o1 + i * 2 + 1, none⟩ = some (.int .i64 mc)) (first | go_keep | exact ⟨keepc (by repeat (first | exact Below.refl _ _ | assumption | refine Below.drew ?_ | refine bel_drewN ?_ _ | refine ba ?_ _ | refine bt2 ?_ (by assumption) | refine Below.setCell ?_ (by simp <;> omega) _)) hq1, keepc (by repeat (first | exact Below.refl _ _ | assumption | refine Below.drew ?_ | refine bel_drewN ?_ _ | refine ba ?_ _ | refine bt2 ?_ (by assumption) | refine Below.setCell ?_ (by simp <;> omega) _)) hq2⟩) (first
                  | (refine step_append_cls rfl (.tmp 61) (.tmp 64) rfl wq.heap.size _ [] rfl hP1 (some ⟨g, 0, none⟩) k cp (l.take k) rfl hF1 (by simp; omega) hb11 ?_; intro v5 w5 hO5 hg5; have hB5 : Below wq.heap.size wq w5 := Below.grown hw11 hg5 hb11 (fun g e => by cases e; exact Nat.le_refl _); have hC5 := hn1 w5; have hs5 := hB5.size)
                  | (refine step_append_cls rfl (.tmp 61) (.tmp 64) rfl wq.heap.size _ [] rfl hP2 (some ⟨g, 0, none⟩) k cp (l.take k) rfl hF2 (by simp; omega) hb22 ?_; intro v5 w5 hO5 hg5; have hB5 : Below wq.heap.size wq w5 := Below.grown hw22 hg5 hb22 (fun g e => by cases e; exact Nat.le_refl _); have hC5 := Cls.other (b := wq.heap.size) hM2 hg5 (by omega); have hs5 := hB5.size)
                  | (refine step_append_cls rfl (.tmp 61) (.tmp 64) rfl wq.heap.size _ [] rfl hP3 (some ⟨g, 0, none⟩) k cp (l.take k) rfl hF3 (by simp; omega) hb33 ?_; intro v5 w5 hO5 hg5; have hB5 : Below wq.heap.size wq w5 := Below.grown hw33 hg5 hb33 (fun g e => by cases e; simp); have hC5 := Cls.other (b := wq.heap.size + 1) hM3 hg5 (by omega); have hs5 := hB5.size)
                  | (refine step_append_cls rfl (.tmp 65) (.tmp 70) rfl wq.heap.size v5 _ rfl (hO5.keep (ba (Below.refl _ _) _)) (some ⟨w5.heap.size, 0, none⟩) 1 1 [(rc, mc)] rfl hC5 (by simp; omega) (by simp; omega) ?_; intro v7 w7 hO7 hg7; have hB7 : Below wq.heap.size wq w7 := Below.grown (by repeat (first | exact Below.refl _ _ | assumption | refine Below.drew ?_ | refine bel_drewN ?_ _ | refine ba ?_ _ | refine bt2 ?_ (by assumption) | refine Below.setCell ?_ (by simp <;> omega) _)) hg7 (by simp; omega) (fun g e => (World.ownsRow.lt hO5 g e).1); have hs7 := hB7.size)
                  | (refine step_append_cls rfl (.tmp 65) (.tmp 70) rfl wq.heap.size v5 _ rfl hO5 (some ⟨wq.heap.size + 1, 0, none⟩) 1 1 [(rc, mc)] rfl hC5 (by simp; omega) hs5 ?_; intro v7 w7 hO7 hg7; have hB7 : Below wq.heap.size wq w7 := Below.grown hB5 hg7 hs5 (fun g e => (World.ownsRow.lt hO5 g e).1); have hs7 := hB7.size)
                  | (refine step_append_cls rfl (.tmp 65) (.tmp 70) rfl wq.heap.size v5 _ rfl hO5 (some ⟨wq.heap.size, 0, none⟩) 1 1 [(rc, mc)] rfl hC5 (by simp; omega) hs5 ?_; intro v7 w7 hO7 hg7; have hB7 : Below wq.heap.size wq w7 := Below.grown hB5 hg7 hs5 (fun g e => (World.ownsRow.lt hO5 g e).1); have hs7 := hB7.size)
                  | (refine step_append_cls rfl (.tmp 71) (.tmp 74) rfl wq.heap.size v7 _ rfl hO7 (some ⟨g, k * 2, none⟩) (i - k) (cp - k) (l.drop k) rfl (HD.out _ hB7) (by simp; omega) hs7 ?_; intro v9 w9 hO9 hg9; have hB9 : Below wq.heap.size wq w9 := Below.grown hB7 hg9 hs7 (fun g e => (World.ownsRow.lt hO7 g e).1))
                  | fail)
                all_goals
                  rw [← HI.out] at hO9
                  obtain ⟨g9, c9, hv9⟩ : ∃ g9 c9, v9 = .slice (some ⟨g9, 0, none⟩) (i + 1) c9 := by
                    rcases hO9.cases with ⟨_, hz⟩ | ⟨g9, c9, hv, _⟩
                    · rw [hz] at HIL; have := HIL.out; simp at this
                    · exact ⟨g9, c9, by rw [hv, HIL.out]⟩
                  subst hv9
                  have hle9 := hO9.cls.2.2
                  have hOw := hO9.low hbase
                  rw [← HS.out] at hOw
                  have hB9w := hBw.out.trans (hB9.mono hbase)
                  clear hO9 hO7 hO5 hg9 hg7 hg5 hB9 hB7 hB5
                  go_wp2_with fail
                  go_roundw
                  case rel => exact ⟨i + 1, g9, c9, by omega, by go_num, rfl, hle9, hOw, hB9w⟩
                  case measure => simp [intOf]; omega
              · obtain rfl : k = i := by omega
                obtain rfl : k = cp := hA
                go_region_held3 (fun w' => w'.cell? ⟨b1, o1 + k * 2, none⟩ = some (.int .i64 rc) ∧ w'.cell? ⟨b1, o1 + k * 2 + 1, none⟩ = some (.int .i64 mc)) (first | go_keep | exact ⟨keepc (by repeat (first | exact Below.refl _ _ | assumption | refine Below.drew ?_ | refine bel_drewN ?_ _ | refine ba ?_ _ | refine bt2 ?_ (by assumption) | refine Below.setCell ?_ (by simp <;> omega) _)) hq1, keepc (by repeat (first | exact Below.refl _ _ | assumption | refine Below.drew ?_ | refine bel_drewN ?_ _ | refine ba ?_ _ | refine bt2 ?_ (by assumption) | refine Below.setCell ?_ (by simp <;> omega) _)) hq2⟩) (first
                  | (refine step_append_cls rfl (.tmp 61) (.tmp 64) rfl wq.heap.size _ [] rfl hP1 (some ⟨g, 0, none⟩) k k (l.take k) rfl hF1 (by simp; omega) hb11 ?_; intro v5 w5 hO5 hg5; have hB5 : Below wq.heap.size wq w5 := Below.grown hw11 hg5 hb11 (fun g e => by cases e; exact Nat.le_refl _); have hC5 := hn1 w5; have hs5 := hB5.size)
                  | (refine step_append_cls rfl (.tmp 61) (.tmp 64) rfl wq.heap.size _ [] rfl hP2 (some ⟨g, 0, none⟩) k k (l.take k) rfl hF2 (by simp; omega) hb22 ?_; intro v5 w5 hO5 hg5; have hB5 : Below wq.heap.size wq w5 := Below.grown hw22 hg5 hb22 (fun g e => by cases e; exact Nat.le_refl _); have hC5 := Cls.other (b := wq.heap.size) hM2 hg5 (by omega); have hs5 := hB5.size)
                  | (refine step_append_cls rfl (.tmp 61) (.tmp 64) rfl wq.heap.size _ [] rfl hP3 (some ⟨g, 0, none⟩) k k (l.take k) rfl hF3 (by simp; omega) hb33 ?_; intro v5 w5 hO5 hg5; have hB5 : Below wq.heap.size wq w5 := Below.grown hw33 hg5 hb33 (fun g e => by cases e; simp); have hC5 := Cls.other (b := wq.heap.size + 1) hM3 hg5 (by omega); have hs5 := hB5.size)
                  | (refine step_append_cls rfl (.tmp 65) (.tmp 70) rfl wq.heap.size v5 _ rfl (hO5.keep (ba (Below.refl _ _) _)) (some ⟨w5.heap.size, 0, none⟩) 1 1 [(rc, mc)] rfl hC5 (by simp; omega) (by simp; omega) ?_; intro v7 w7 hO7 hg7; have hB7 : Below wq.heap.size wq w7 := Below.grown (by repeat (first | exact Below.refl _ _ | assumption | refine Below.drew ?_ | refine bel_drewN ?_ _ | refine ba ?_ _ | refine bt2 ?_ (by assumption) | refine Below.setCell ?_ (by simp <;> omega) _)) hg7 (by simp; omega) (fun g e => (World.ownsRow.lt hO5 g e).1); have hs7 := hB7.size)
                  | (refine step_append_cls rfl (.tmp 65) (.tmp 70) rfl wq.heap.size v5 _ rfl hO5 (some ⟨wq.heap.size + 1, 0, none⟩) 1 1 [(rc, mc)] rfl hC5 (by simp; omega) hs5 ?_; intro v7 w7 hO7 hg7; have hB7 : Below wq.heap.size wq w7 := Below.grown hB5 hg7 hs5 (fun g e => (World.ownsRow.lt hO5 g e).1); have hs7 := hB7.size)
                  | (refine step_append_cls rfl (.tmp 65) (.tmp 70) rfl wq.heap.size v5 _ rfl hO5 (some ⟨wq.heap.size, 0, none⟩) 1 1 [(rc, mc)] rfl hC5 (by simp; omega) hs5 ?_; intro v7 w7 hO7 hg7; have hB7 : Below wq.heap.size wq w7 := Below.grown hB5 hg7 hs5 (fun g e => (World.ownsRow.lt hO5 g e).1); have hs7 := hB7.size)
                  | (refine step_append_cls rfl (.tmp 71) (.tmp 74) rfl wq.heap.size v7 _ rfl hO7 (some ⟨g, 0, none⟩) 0 0 [] rfl ⟨rfl, .inl rfl⟩ (by simp; omega) hs7 ?_; intro v9 w9 hO9 hg9; have hB9 : Below wq.heap.size wq w9 := Below.grown hB7 hg9 hs7 (fun g e => (World.ownsRow.lt hO7 g e).1))
                  | fail)
                all_goals
                  rw [show [] ++ l.take k ++ [(rc, mc)] ++ [] = insC (rc, mc) l by rw [HI.out, List.drop_eq_nil_of_le (by omega)]] at hO9
                  obtain ⟨g9, c9, hv9⟩ : ∃ g9 c9, v9 = .slice (some ⟨g9, 0, none⟩) (k + 1) c9 := by
                    rcases hO9.cases with ⟨_, hz⟩ | ⟨g9, c9, hv, _⟩
                    · rw [hz] at HIL; have := HIL.out; simp at this
                    · exact ⟨g9, c9, by rw [hv, HIL.out]⟩
                  subst hv9
                  have hle9 := hO9.cls.2.2
                  have hOw := hO9.low hbase
                  rw [← HS.out] at hOw
                  have hB9w := hBw.out.trans (hB9.mono hbase)
                  clear hO9 hO7 hO5 hg9 hg7 hg5 hB9 hB7 hB5
                  go_wp2_with fail
                  go_roundw
                  case rel => exact ⟨k + 1, g9, c9, by omega, by go_num, rfl, hle9, hOw, hB9w⟩
                  case measure => simp [intOf]; omega
          · have hPk : posI (rc, mc) l (j + 1) = j + 1 := hsp (by omega)
            have hA2 : decide (mc < ml) = false := by simp; omega
            have hE : (mc == ml) = false := beq_false_of_ne (by omega)
            clear hst hsp hA
            go_wp2_with fail
            go_quiet (fail)
            go_wp2_with fail
            generalize hjk : j + 1 = k at *
            have hpk : posI (rc, mc) l i = k := by rw [hP.out]; exact hPk
            have HI := Lib.hid (show insC (rc, mc) l = [] ++ l.take k ++ [(rc, mc)] ++ l.drop k by unfold insC; rw [hll, hpk]; try simp)
            clear hpk hPk hP
            have hkz0 : (0 : Int) ≤ (k : Int) := by omega
            have hkz1 : (k : Int) ≤ (cp : Int) := by omega
            have hkz2 : (k : Int) ≤ (i : Int) := by omega
            have hkz3 : (i : Int) ≤ (cp : Int) := by omega
            have hBz := bel_drewN hBq nq
            generalize wr.drewN nq = wq at *
            have hLk := hL.keep hBz
            have hO1 := own_lit0 wq
            have hO2 := hO1.keep (ba (Below.refl _ _) (.cells #[.int .i64 rc, .int .i64 mc] 31))
            have hO3 : OwnC ((wq.alloc (.cells #[.int .i64 rc, .int .i64 mc] 31)).alloc (.cells #[] 31)) wq.heap.size 31 (.slice (some ⟨wq.heap.size + 1, 0, none⟩) 0 0) [] := by
              have := (own_lit0 (wq.alloc (.cells #[.int .i64 rc, .int .i64 mc] 31))).low (b2 := wq.heap.size) (by simp)
              simpa using this
            have HF := Lib.hid (fun W (h : Below wq.heap.size wq W) => (hLk.keep h).front (k := k) hk)
            have HD := Lib.hid (fun W (h : Below wq.heap.size wq W) => show Cls W (some ⟨g, k * 2, none⟩) (i - k) (l.drop k) by
              have := (hLk.keep h).back (k := k) hk
              rwa [Nat.zero_add] at this)
            have hlt2 : (l.take k).length = k := by rw [List.length_take]; omega
            have hn1 : ∀ W : World, Cls (W.alloc (.cells #[.int .i64 rc, .int .i64 mc] 31)) (some ⟨W.heap.size, 0, none⟩) 1 [(rc, mc)] := fun W => cls_new W rc mc
            have hA : k < cp ∨ k = cp := by omega
            have hq1 := keepc hBz hx1
            have hq2 := keepc hBz hx2
            have hN2 : Cls ((wq.alloc (.cells #[] 31)).alloc (.cells #[.int .i64 rc, .int .i64 mc] 31)) (some ⟨wq.heap.size + 1, 0, none⟩) 1 [(rc, mc)] := by simpa using hn1 (wq.alloc (.cells #[] 31))
            have hN3 := (hn1 wq).keep (ba (Below.refl _ _) (.cells #[] 31))
            have hw11 := (ba (Below.refl wq.heap.size wq) (.cells #[] 31)).drew
            have hw22 := (ba (ba (Below.refl wq.heap.size wq) (.cells #[] 31)) (.cells #[.int .i64 rc, .int .i64 mc] 31)).drew
            have hw33 := (ba (ba (Below.refl wq.heap.size wq) (.cells #[.int .i64 rc, .int .i64 mc] 31)) (.cells #[] 31)).drew
            have hP1 : OwnC (wq.alloc (.cells #[] 31)).drew wq.heap.size 31 (.slice (some ⟨wq.heap.size, 0, none⟩) 0 0) [] := hO1
            have hP2 : OwnC ((wq.alloc (.cells #[] 31)).alloc (.cells #[.int .i64 rc, .int .i64 mc] 31)).drew wq.heap.size 31 (.slice (some ⟨wq.heap.size, 0, none⟩) 0 0) [] := hO2
            have hP3 : OwnC ((wq.alloc (.cells #[.int .i64 rc, .int .i64 mc] 31)).alloc (.cells #[] 31)).drew wq.heap.size 31 (.slice (some ⟨wq.heap.size + 1, 0, none⟩) 0 0) [] := hO3
            have hM2 := hN2.keep (Below.refl _ _).drew
            have hM3 := hN3.keep (Below.refl _ _).drew
            have hb11 := hw11.size
            have hb22 := hw22.size
            have hb33 := hw33.size
            have hF1 := HF.out _ hw11
            have hF2 := HF.out _ hw22
            have hF3 := HF.out _ hw33
            have hbase : w.heap.size ≤ wq.heap.size := Nat.le_trans hB.size hBz.size
            have HIL := Lib.hid (show (insC (rc, mc) l).length = i + 1 by rw [insC_length, hll])
            have hBw := Lib.hid (hB.trans (hBz.mono hB.size))
            clear hL hLk hO hk0
            try clear hkz
            rcases hA with hA | hA
            · have hAn : ¬ cp = k := by omega
              go_region_held3 (fun w' => w'.cell? ⟨b1, o1 + i * 2, none⟩ = some (.int .i64 rc) ∧ w'.cell? ⟨b1, o1 + i * 2 + 1, none⟩ = some (.int .i64 mc)) (first | go_keep | exact ⟨keepc (by repeat (first | exact Below.refl _ _ | assumption | refine Below.drew ?_ | refine bel_drewN ?_ _ | refine ba ?_ _ | refine bt2 ?_ (by assumption) | refine Below.setCell ?_ (by simp <;> omega) _)) hq1, keepc (by repeat (first | exact Below.refl _ _ | assumption | refine Below.drew ?_ | refine bel_drewN ?_ _ | refine ba ?_ _ | refine bt2 ?_ (by assumption) | refine Below.setCell ?_ (by simp <;> omega) _)) hq2⟩) (first
                | (refine step_append_cls rfl (.tmp 61) (.tmp 64) rfl wq.heap.size _ [] rfl hP1 (some ⟨g, 0, none⟩) k cp (l.take k) rfl hF1 (by simp; omega) hb11 ?_; intro v5 w5 hO5 hg5; have hB5 : Below wq.heap.size wq w5 := Below.grown hw11 hg5 hb11 (fun g e => by cases e; exact Nat.le_refl _); have hC5 := hn1 w5; have hs5 := hB5.size)
                | (refine step_append_cls rfl (.tmp 61) (.tmp 64) rfl wq.heap.size _ [] rfl hP2 (some ⟨g, 0, none⟩) k cp (l.take k) rfl hF2 (by simp; omega) hb22 ?_; intro v5 w5 hO5 hg5; have hB5 : Below wq.heap.size wq w5 := Below.grown hw22 hg5 hb22 (fun g e => by cases e; exact Nat.le_refl _); have hC5 := Cls.other (b := wq.heap.size) hM2 hg5 (by omega); have hs5 := hB5.size)
                | (refine step_append_cls rfl (.tmp 61) (.tmp 64) rfl wq.heap.size _ [] rfl hP3 (some ⟨g, 0, none⟩) k cp (l.take k) rfl hF3 (by simp; omega) hb33 ?_; intro v5 w5 hO5 hg5; have hB5 : Below wq.heap.size wq w5 := Below.grown hw33 hg5 hb33 (fun g e => by cases e; simp); have hC5 := Cls.other (b := wq.heap.size + 1) hM3 hg5 (by omega); have hs5 := hB5.size)
                | (refine step_append_cls rfl (.tmp 65) (.tmp 70) rfl wq.heap.size v5 _ rfl (hO5.keep (ba (Below.refl _ _) _)) (some ⟨w5.heap.size, 0, none⟩) 1 1 [(rc, mc)] rfl hC5 (by simp; omega) (by simp; omega) ?_; intro v7 w7 hO7 hg7; have hB7 : Below wq.heap.size wq w7 := Below.grown (by repeat (first | exact Below.refl _ _ | assumption | refine Below.drew ?_ | refine bel_drewN ?_ _ | refine ba ?_ _ | refine bt2 ?_ (by assumption) | refine Below.setCell ?_ (by simp <;> omega) _)) hg7 (by simp; omega) (fun g e => (World.ownsRow.lt hO5 g e).1); have hs7 := hB7.size)
                | (refine step_append_cls rfl (.tmp 65) (.tmp 70) rfl wq.heap.size v5 _ rfl hO5 (some ⟨wq.heap.size + 1, 0, none⟩) 1 1 [(rc, mc)] rfl hC5 (by simp; omega) hs5 ?_; intro v7 w7 hO7 hg7; have hB7 : Below wq.heap.size wq w7 := Below.grown hB5 hg7 hs5 (fun g e => (World.ownsRow.lt hO5 g e).1); have hs7 := hB7.size)
                | (refine step_append_cls rfl (.tmp 65) (.tmp 70) rfl wq.heap.size v5 _ rfl hO5 (some ⟨wq.heap.size, 0, none⟩) 1 1 [(rc, mc)] rfl hC5 (by simp; omega) hs5 ?_; intro v7 w7 hO7 hg7; have hB7 : Below wq.heap.size wq w7 := Below.grown hB5 hg7 hs5 (fun g e => (World.ownsRow.lt hO5 g e).1); have hs7 := hB7.size)
                | (refine step_append_cls rfl (.tmp 71) (.tmp 74) rfl wq.heap.size v7 _ rfl hO7 (some ⟨g, k * 2, none⟩) (i - k) (cp - k) (l.drop k) rfl (HD.out _ hB7) (by simp; omega) hs7 ?_; intro v9 w9 hO9 hg9; have hB9 : Below wq.heap.size wq w9 := Below.grown hB7 hg9 hs7 (fun g e => (World.ownsRow.lt hO7 g e).1))
                | fail)
              all_goals
                rw [← HI.out] at hO9
                obtain ⟨g9, c9, hv9⟩ : ∃ g9 c9, v9 = .slice (some ⟨g9, 0, none⟩) (i + 1) c9 := by
                  rcases hO9.cases with ⟨_, hz⟩ | ⟨g9, c9, hv, _⟩
                  · rw [hz] at HIL; have := HIL.out; simp at this
                  · exact ⟨g9, c9, by rw [hv, HIL.out]⟩
                subst hv9
                have hle9 := hO9.cls.2.2
                have hOw := hO9.low hbase
                rw [← HS.out] at hOw
                have hB9w := hBw.out.trans (hB9.mono hbase)
                clear hO9 hO7 hO5 hg9 hg7 hg5 hB9 hB7 hB5
                go_wp2_with fail
                go_roundw
                case rel => exact ⟨i + 1, g9, c9, by omega, by go_num, rfl, hle9, hOw, hB9w⟩
                case measure => simp [intOf]; omega
            · obtain rfl : k = i := by omega
              obtain rfl : k = cp := hA
              go_region_held3 (fun w' => w'.cell? ⟨b1, o1 + k * 2, none⟩ = some (.int .i64 rc) ∧ w'.cell? ⟨b1, o1 + k * 2 + 1, none⟩ = some (.int .i64 mc)) (first | go_keep | exact ⟨keepc (by repeat (first | exact Below.refl _ _ | assumption | refine Below.drew ?_ | refine bel_drewN ?_ _ | refine ba ?_ _ | refine bt2 ?_ (by assumption) | refine Below.setCell ?_ (by simp <;> omega) _)) hq1, keepc (by repeat (first | exact Below.refl _ _ | assumption | refine Below.drew ?_ | refine bel_drewN ?_ _ | refine ba ?_ _ | refine bt2 ?_ (by assumption) | refine Below.setCell ?_ (by simp <;> omega) _)) hq2⟩) (first
                | (refine step_append_cls rfl (.tmp 61) (.tmp 64) rfl wq.heap.size _ [] rfl hP1 (some ⟨g, 0, none⟩) k k (l.take k) rfl hF1 (by simp; omega) hb11 ?_; intro v5 w5 hO5 hg5; have hB5 : Below wq.heap.size wq w5 := Below.grown hw11 hg5 hb11 (fun g e => by cases e; exact Nat.le_refl _); have hC5 := hn1 w5; have hs5 := hB5.size)
                | (refine step_append_cls rfl (.tmp 61) (.tmp 64) rfl wq.heap.size _ [] rfl hP2 (some ⟨g, 0, none⟩) k k (l.take k) rfl hF2 (by simp; omega) hb22 ?_; intro v5 w5 hO5 hg5; have hB5 : Below wq.heap.size wq w5 := Below.grown hw22 hg5 hb22 (fun g e => by cases e; exact Nat.le_refl _); have hC5 := Cls.other (b := wq.heap.size) hM2 hg5 (by omega); have hs5 := hB5.size)
                | (refine step_append_cls rfl (.tmp 61) (.tmp 64) rfl wq.heap.size _ [] rfl hP3 (some ⟨g, 0, none⟩) k k (l.take k) rfl hF3 (by simp; omega) hb33 ?_; intro v5 w5 hO5 hg5; have hB5 : Below wq.heap.size wq w5 := Below.grown hw33 hg5 hb33 (fun g e => by cases e; simp); have hC5 := Cls.other (b := wq.heap.size + 1) hM3 hg5 (by omega); have hs5 := hB5.size)
                | (refine step_append_cls rfl (.tmp 65) (.tmp 70) rfl wq.heap.size v5 _ rfl (hO5.keep (ba (Below.refl _ _) _)) (some ⟨w5.heap.size, 0, none⟩) 1 1 [(rc, mc)] rfl hC5 (by simp; omega) (by simp; omega) ?_; intro v7 w7 hO7 hg7; have hB7 : Below wq.heap.size wq w7 := Below.grown (by repeat (first | exact Below.refl _ _ | assumption | refine Below.drew ?_ | refine bel_drewN ?_ _ | refine ba ?_ _ | refine bt2 ?_ (by assumption) | refine Below.setCell ?_ (by simp <;> omega) _)) hg7 (by simp; omega) (fun g e => (World.ownsRow.lt hO5 g e).1); have hs7 := hB7.size)
                | (refine step_append_cls rfl (.tmp 65) (.tmp 70) rfl wq.heap.size v5 _ rfl hO5 (some ⟨wq.heap.size + 1, 0, none⟩) 1 1 [(rc, mc)] rfl hC5 (by simp; omega) hs5 ?_; intro v7 w7 hO7 hg7; have hB7 : Below wq.heap.size wq w7 := Below.grown hB5 hg7 hs5 (fun g e => (World.ownsRow.lt hO5 g e).1); have hs7 := hB7.size)
                | (refine step_append_cls rfl (.tmp 65) (.tmp 70) rfl wq.heap.size v5 _ rfl hO5 (some ⟨wq.heap.size, 0, none⟩) 1 1 [(rc, mc)] rfl hC5 (by simp; omega) hs5 ?_; intro v7 w7 hO7 hg7; have hB7 : Below wq.heap.size wq w7 := Below.grown hB5 hg7 hs5 (fun g e => (World.ownsRow.lt hO5 g e).1); have hs7 := hB7.size)
                | (refine step_append_cls rfl (.tmp 71) (.tmp 74) rfl wq.heap.size v7 _ rfl hO7 (some ⟨g, 0, none⟩) 0 0 [] rfl ⟨rfl, .inl rfl⟩ (by simp; omega) hs7 ?_; intro v9 w9 hO9 hg9; have hB9 : Below wq.heap.size wq w9 := Below.grown hB7 hg9 hs7 (fun g e => (World.ownsRow.lt hO7 g e).1))
                | fail)
              all_goals
                rw [show [] ++ l.take k ++ [(rc, mc)] ++ [] = insC (rc, mc) l by rw [HI.out, List.drop_eq_nil_of_le (by omega)]] at hO9
                obtain ⟨g9, c9, hv9⟩ : ∃ g9 c9, v9 = .slice (some ⟨g9, 0, none⟩) (k + 1) c9 := by
                  rcases hO9.cases with ⟨_, hz⟩ | ⟨g9, c9, hv, _⟩
                  · rw [hz] at HIL; have := HIL.out; simp at this
                  · exact ⟨g9, c9, by rw [hv, HIL.out]⟩
                subst hv9
                have hle9 := hO9.cls.2.2
                have hOw := hO9.low hbase
                rw [← HS.out] at hOw
                have hB9w := hBw.out.trans (hB9.mono hbase)
                clear hO9 hO7 hO5 hg9 hg7 hg5 hB9 hB7 hB5
                go_wp2_with fail
                go_roundw
                case rel => exact ⟨k + 1, g9, c9, by omega, by go_num, rfl, hle9, hOw, hB9w⟩
                case measure => simp [intOf]; omega
    · have hkn : n = i := by omega
      subst hkn
      rw [HEnd.out] at hO
      have hOC : OwnC wr w.heap.size 31 (.slice (some ⟨g, 0, none⟩) n cp) (srtL zs) := hO
      go_wp2_with fail
      go_ret
      exact ⟨_, rfl, hOC, hB⟩
end Go.Proofs.YtobdliefaaoefaaDoor
