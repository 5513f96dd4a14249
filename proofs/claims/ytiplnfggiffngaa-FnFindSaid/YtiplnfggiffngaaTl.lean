/- Chapter 7, the model: l7All. -/
import Derived.Test.YtiplnfggiffngaaTk
import Derived.Test.YtiplnfggiffngaaMathTd
namespace Go.Proofs.Ytiplnfggiffngaa
open Go.RowKit
/-- all tiles with the place 0 that tile with a tile, as the model finds them; put in order -/
def allS (N : Nat) (a : List Int) : List (List Int) := srtLL (allT N a) (allT N a).length
theorem int_one (w : World) (x : Int) : OwnI (w.alloc (.cells #[.int .i64 x] 3)) w.heap.size 3 (.slice (some ⟨w.heap.size, 0, none⟩) 1 1) [x] := World.ownsRow_lit w #[.int .i64 x] 1 (Nat.le_refl _) (by unfold maxLen; omega) rfl
theorem LL.lit (w : World) (base : Nat) (h : base ≤ w.heap.size) : LL (w.alloc (.cells #[] 23)) base (.slice (some ⟨w.heap.size, 0, none⟩) 0 0) [] :=
  ⟨[], World.ownsRow_lit w #[] 0 h (by unfold maxLen; omega) rfl, fun j hj => by simp at hj⟩
def AllPost (w : World) (Z : List (List Int)) (e : Ending) (w' : World) : Prop := ∃ (v : Value) (hs : List Value), e = .returned v ∧ OwnV w' w.heap.size 23 v hs ∧ Heads w.heap.size w' hs (srtLL Z Z.length) ∧ Below w.heap.size w w'
theorem srtLL_all {Z : List (List Int)} {D : Nat} (h : ∀ j, j < Z.length → (Z[j]?.getD []).length = D) : ∀ k, k ≤ Z.length → ∀ y ∈ srtLL Z k, y.length = D := by
  intro k
  induction k with
  | zero => intro _ y hy; simp [srtLL] at hy
  | succ k ih =>
    intro hk y hy
    rcases insL_mem.1 hy with rfl | hy
    · rw [srtZ_length]; exact h k (by omega)
    · exact ih (by omega) y hy
theorem all_at {l : List (List Int)} {D : Nat} (h : ∀ y ∈ l, y.length = D) (j : Nat) (hj : j < l.length) : (l[j]?.getD []).length = D := by
  rw [List.getElem?_eq_getElem hj]
  exact h _ (List.getElem_mem hj)
set_option maxRecDepth 20000 in
set_option maxHeartbeats 8000000 in
theorem c_l7All (N : Nat) (s : Option Addr) (l cap : Nat) (a : List Int) (hT : Til (N : Int) a) (D : Nat) (hcnt : (allT N a).length < 100000) (hD : ∀ j, j < (allT N a).length → ((allT N a)[j]?.getD []).length = D) (hD2 : D ≤ 1000) (w : World) (ha : Ints w s l a) :
    Calls Try.prog 23 #[.int .i64 (N : Int), .slice s l cap] w (AllPost w (allT N a)) := by
  obtain ⟨n1, n2, l1, l2⟩ := tsizes hT ha.len
  have hN24 : N ≤ 24 := by omega
  have hs : ∀ b off, s = some ⟨b, off, none⟩ → b < w.heap.size := fun b off e => by
    rcases ha.lies with h0 | ⟨b1, o1, h1, hb1, _⟩
    · omega
    · rw [e] at h1
      cases h1
      exact hb1
  have hP24 := pow_le24 hN24
  have hmu : mskL a < 2 ^ N := mskL_lt a fun x hx => by have := hT.2.2.2.2 x hx; omega
  have HFill := Lib.hid (fun (W : World) (hB : Below w.heap.size w W) => c_l7Fill N s l cap a hT w.heap.size hs (2 ^ N) (mskL a) (some ⟨W.heap.size, 0, none⟩) 1 1 [0] (.slice (some ⟨W.heap.size + 1, 0, none⟩) 0 0) [] ((W.alloc (.cells #[.int .i64 0] 3)).alloc (.cells #[] 23)) (by have := Nat.two_pow_pos N; omega) hmu (by omega) (by omega) (by simpa [allT] using hcnt) (by have := hB.size; simp; omega) (ha.keep (ba (ba hB _) _)) (((int_one W 0).keep (ba (Below.refl _ _) _)).low hB.size) rfl (by simpa using LL.lit (W.alloc (.cells #[.int .i64 0] 3)) w.heap.size (by have := hB.size; simp; omega)))
  have HAll := Lib.hid (srtLL_all hD)
  have HD := Lib.hid hD
  have HLen := Lib.hid (fun k => srtLL_length (allT N a) k)
  have HStep := Lib.hid (fun k => show srtLL (allT N a) (k + 1) = insL (srtZ ((allT N a)[k]?.getD []) ((allT N a)[k]?.getD []).length) (srtLL (allT N a) k) from rfl)
  have HX := Lib.hid hT.2.2.2.2
  have hM0 : mskL (a.take 0) = 0 := rfl
  have HMe : Hid (mskL (a.take a.length) = mskL a) := Lib.hid (by rw [List.take_length])
  have HMn : Hid (∀ k, k < a.length → mskL (a.take (k + 1)) = mskL (a.take k) ||| 2 ^ (gZ a k).toNat) := Lib.hid (fun k hk => by rw [List.take_succ_eq_append_getElem hk, mskL_snoc, gZ_get a k hk])
  have HMb : Hid (∀ k, mskL (a.take k) < 16777216) := Lib.hid (fun k => mskL_lt24 (n := N) (a.take k) hN24 fun x hx => by have := hT.2.2.2.2 x (List.mem_of_mem_take hx); omega)
  have HFe : Hid ([] ++ fil N a (2 ^ N) (mskL a) [0] = allT N a) := Lib.hid rfl
  clear hD hmu hP24 hT hs
  rw [HFe.out] at HFill
  generalize hMa : mskL a = Ma at *
  generalize allT N a = Z at *
  go_enter Try.func23, Try.ntmps23
  go_wp2_with fail
  go_loopw [5, 6] (fun st ik wr => ∃ k : Nat, ik = .int .i64 k ∧ k ≤ a.length ∧ st = .int .i64 ((mskL (a.take k) : Nat) : Int) ∧ Below w.heap.size w wr) (fun _ ik _ => a.length - (intOf ik).toNat)
  case atStart => exact ⟨0, rfl, by omega, by rw [hM0]; rfl, Below.refl _ _⟩
  case round =>
    clear hM0
    obtain ⟨k, rfl, hk, rfl, hB⟩ := hrel
    have hal := ha.len
    by_cases hlt : k < a.length
    · rcases (ha.keep hB).lies with h0 | ⟨b1, o1, rfl, hbw, hcells⟩
      · omega
      have hx : wr.cell? ⟨b1, o1 + k, none⟩ = some (.int .i64 (gZ a k)) := hcells k (by omega)
      obtain ⟨p0, p1⟩ := HX.out _ (gZ_mem a k hlt)
      have hkl : (k : Int) < (l : Int) := by omega
      obtain ⟨X, hX⟩ : ∃ X : Nat, gZ a k = (X : Int) := ⟨(gZ a k).toNat, by omega⟩
      have hMk := HMn.out k hlt
      rw [hX] at hx p0 p1 hMk
      rw [Int.toNat_natCast] at hMk
      have HM := Lib.hid hMk
      have hMl := HMb.out k
      obtain ⟨P', hP'⟩ : ∃ P', P' = 2 ^ X := ⟨_, rfl⟩
      have hPi' := int_pow hP'
      have hP24' : P' ≤ 16777216 := by rw [hP']; exact pow_le24 (by omega)
      rw [← hP'] at HM
      clear hP' hX hcells hMk
      have hor := or_nat (mskL (a.take k)) P' (by omega) (by omega)
      generalize mskL (a.take k) = M at *
      go_wp2_with fail
      go_roundw
      case rel => exact ⟨k + 1, by go_num, by omega, by rw [HM.out], hB⟩
      case measure => simp [intOf]; omega
    · have hk' : k = a.length := by omega
      subst hk'
      rw [HMe.out]
      have hb1 : Below w.heap.size w ((wr.alloc (.cells #[.int .i64 0] 3)).alloc (.cells #[] 23)) := ba (ba hB _) _
      go_wp2_with (first | (go_at_call 39; refine (HFill.out wr hB).mono ?_; rintro e w5 ⟨vL, rfl, hLL, hFr⟩; obtain ⟨vsL, hrowL, _⟩ := id hLL; obtain ⟨sL, cL, rfl⟩ := row_slice hrowL) | fail)
      have hB5 : Below w.heap.size w w5 := ⟨hFr.os.trans hb1.os, hFr.tape.trans hb1.tape, hFr.output.trans hb1.output, Nat.le_trans hb1.size hFr.size, fun b hb => (hFr.low b hb (Nat.lt_of_lt_of_le hb hb1.size)).trans (hb1.block b hb)⟩
      clear hrowL hb1 hFr hB HFill
      have hO0 : OwnV (w5.alloc (.cells #[] 23)) w.heap.size 23 (.slice (some ⟨w5.heap.size, 0, none⟩) 0 0) [] := (own_litV w5).low hB5.size
      have hL0 := hLL.below (ba (Below.refl _ _) (.cells #[] 23))
      have hH0 : Heads w.heap.size (w5.alloc (.cells #[] 23)) [] (srtLL Z 0) := ⟨rfl, fun j hj => by simp [srtLL] at hj⟩
      have hB0 := ba hB5 (.cells #[] 23)
      go_loopw [8, 9] (fun v ii wr => ∃ (i g cp : Nat) (hs : List Value), i ≤ Z.length ∧ ii = .int .i64 i ∧ v = .slice (some ⟨g, 0, none⟩) i cp ∧ i ≤ cp ∧ OwnV wr w.heap.size 23 (.slice (some ⟨g, 0, none⟩) i cp) hs ∧ Heads w.heap.size wr hs (srtLL Z i) ∧ LL wr w.heap.size (.slice sL Z.length cL) Z ∧ Below w.heap.size w wr) (fun _ ii _ => Z.length - (intOf ii).toNat)
      case atStart => exact ⟨0, w5.heap.size, 0, [], by omega, rfl, rfl, by omega, hO0, hH0, hL0, hB0⟩
      case round =>
        clear hO0 hL0 hH0 hB0 hLL hB5
        obtain ⟨i, g, cp, hs, hi, rfl, rfl, hcp, hO, hH, hLL, hB⟩ := hrel
        by_cases hlt : i < Z.length
        · obtain ⟨gL, rfl, tL, dL, hcL, hIL⟩ := hLL.at i hlt
          have hDi := HD.out i hlt
          have HS := Lib.hid (HStep.out i)
          have hll := HLen.out i
          have hlD := HAll.out i (by omega)
          rw [hDi] at hcL hIL
          generalize hzi : Z[i]?.getD [] = zi at *
          generalize hle : srtLL Z i = lz at *
          have hsl : hs.length = i := by have := hH.1; omega
          have hV := hO.vals hsl
          have hAS := hH.all
          have hiz0 : (0 : Int) ≤ (i : Int) := by omega
          have hiz1 : (i : Int) < (Z.length : Int) := by omega
          have hsrt := fun W hI => c_l7Sorted tL D dL zi hD2 W hI
          have hwr := hB.size
          go_wp2_with (first | (go_at_call 40; refine (hsrt _ hIL).mono ?_; rintro e w6 ⟨vb, rfl, hOb, hBb⟩) | fail)
          obtain ⟨sb, cb, hvb, hIb, _⟩ := hOb.spread
          have hbl := srtZ_length zi D
          rw [hbl] at hvb hIb
          subst hvb
          rw [hDi] at HS
          generalize hbz : srtZ zi D = bz at *
          have hB6 := bt2 hB hBb
          have hH6 := hH.keep hBb
          have hV6 := hV.keep hBb
          have hL6 := hLL.below hBb
          have hOb6 := hOb.low hwr
          clear hH hV hLL hO hOb hcL hIL hB hBb hsrt hwr hDi hzi hle hbz
          go_wp2_with fail
          go_loopw [11] (fun x wq => ∃ k : Nat, k ≤ i ∧ x = .int .i64 k ∧ Hid (posL bz lz i = posL bz lz k) ∧ Below w6.heap.size w6 wq) (fun x _ => (intOf x).toNat)
          case atStart => exact ⟨i, Nat.le_refl _, rfl, Lib.hid rfl, Below.refl _ _⟩
          case round =>
            obtain ⟨k, hk, rfl, hP, hBz⟩ := hrel
            rcases Nat.eq_zero_or_pos k with hk0 | hk0
            · have hPk : posL bz lz k = k := by rw [hk0]; rfl
              have hkz : ¬ 0 < k := by omega
              replace hk0 := Lib.hid hk0
              go_wp2_with fail
              generalize wr = wq at *
              have hpk : posL bz lz i = k := by rw [hP.out]; exact hPk
              have HI := Lib.hid (show insL bz lz = [] ++ lz.take k ++ [bz] ++ lz.drop k by unfold insL; rw [hll, hpk])
              clear hpk hPk hP
              have hkz0 : (0 : Int) ≤ (k : Int) := by omega
              have hkz1 : (k : Int) ≤ (cp : Int) := by omega
              have hkz2 : (k : Int) ≤ (i : Int) := by omega
              have hkz3 : (i : Int) ≤ (cp : Int) := by omega
              have hVk := hV6.keep hBz
              have HHn := Lib.hid ((hH6.keep hBz).ins k (by omega) (hOb6.keep hBz))
              have HHl := Lib.hid (show (([] ++ hs.take k ++ [.slice sb D cb]) ++ hs.drop k : List Value).length = i + 1 by
                simp only [List.nil_append, List.length_append, List.length_take, List.length_drop, List.length_singleton]; omega)
              have HLk := Lib.hid (hL6.below hBz)
              have hO1 := own_litV wq
              have hO2 := hO1.keep (ba (Below.refl _ _) (.cells #[.slice sb D cb] 23))
              have hO3 : OwnV ((wq.alloc (.cells #[.slice sb D cb] 23)).alloc (.cells #[] 23)) wq.heap.size 23 (.slice (some ⟨wq.heap.size + 1, 0, none⟩) 0 0) [] := by
                have := (own_litV (wq.alloc (.cells #[.slice sb D cb] 23))).low (b2 := wq.heap.size) (by simp)
                simpa using this
              have HF := Lib.hid (fun W (h : Below wq.heap.size wq W) => (hVk.keep h).front (k := k) hk)
              have HD2 := Lib.hid (fun W (h : Below wq.heap.size wq W) => show Vals W (some ⟨g, k, none⟩) (i - k) (hs.drop k) by
                have := (hVk.keep h).back (k := k) hk
                rwa [Nat.zero_add] at this)
              have hlt2 : (hs.take k).length = k := by rw [List.length_take]; omega
              have hT1 := hAS.take k
              have hT2 : AllS [.slice sb D cb] := fun u hu => by rw [List.mem_singleton.1 hu]; rfl
              have HT3 := Lib.hid (hAS.drop k)
              have hn1 : ∀ W : World, Vals (W.alloc (.cells #[.slice sb D cb] 23)) (some ⟨W.heap.size, 0, none⟩) 1 [.slice sb D cb] := fun W => vals_new W _
              have hA : k < cp ∨ k = cp := by omega
              have hN2 : Vals ((wq.alloc (.cells #[] 23)).alloc (.cells #[.slice sb D cb] 23)) (some ⟨wq.heap.size + 1, 0, none⟩) 1 [.slice sb D cb] := by simpa using hn1 (wq.alloc (.cells #[] 23))
              have hN3 := (hn1 wq).keep (ba (Below.refl _ _) (.cells #[] 23))
              have hw11 := (ba (Below.refl wq.heap.size wq) (.cells #[] 23)).drew
              have hw22 := (ba (ba (Below.refl wq.heap.size wq) (.cells #[] 23)) (.cells #[.slice sb D cb] 23)).drew
              have hw33 := (ba (ba (Below.refl wq.heap.size wq) (.cells #[.slice sb D cb] 23)) (.cells #[] 23)).drew
              have hP1 : OwnV (wq.alloc (.cells #[] 23)).drew wq.heap.size 23 (.slice (some ⟨wq.heap.size, 0, none⟩) 0 0) [] := hO1
              have hP2 : OwnV ((wq.alloc (.cells #[] 23)).alloc (.cells #[.slice sb D cb] 23)).drew wq.heap.size 23 (.slice (some ⟨wq.heap.size, 0, none⟩) 0 0) [] := hO2
              have hP3 : OwnV ((wq.alloc (.cells #[.slice sb D cb] 23)).alloc (.cells #[] 23)).drew wq.heap.size 23 (.slice (some ⟨wq.heap.size + 1, 0, none⟩) 0 0) [] := hO3
              have hM2 := hN2.keep (Below.refl _ _).drew
              have hM3 := hN3.keep (Below.refl _ _).drew
              have hb11 := hw11.size
              have hb22 := hw22.size
              have hb33 := hw33.size
              have hF1 := HF.out _ hw11
              have hF2 := HF.out _ hw22
              have hF3 := HF.out _ hw33
              have hbase : w.heap.size ≤ wq.heap.size := Nat.le_trans hB6.size hBz.size
              have hBw := Lib.hid (hB6.trans (hBz.mono hB6.size))
              have hi100 : i < 100000 := by omega
              try clear hk0
              clear hVk hV6 hH6 hL6 hOb6 hAS hIb hcnt
              try clear hkz
              rcases hA with hA | hA
              · have hAn : ¬ cp = k := by omega
                go_region_held3 (fun w' => True) (first | trivial) (first
                  | (refine step_append_val rfl (.tmp 58) (.tmp 61) rfl wq.heap.size _ [] rfl hP1 (some ⟨g, 0, none⟩) k cp (hs.take k) rfl hF1 hT1 (by simp; omega) hb11 ?_; intro v5 w5 hO5 hg5; have hB5 : Below wq.heap.size wq w5 := Below.grown hw11 hg5 hb11 (fun g e => by cases e; exact Nat.le_refl _); have hC5 := hn1 w5; have hs5 := hB5.size)
                  | (refine step_append_val rfl (.tmp 62) (.tmp 64) rfl wq.heap.size v5 _ rfl (hO5.keep (ba (Below.refl _ _) _)) (some ⟨w5.heap.size, 0, none⟩) 1 1 [.slice sb D cb] rfl hC5 hT2 (by simp; omega) (by simp; omega) ?_; intro v7 w7 hO7 hg7; have hB7 : Below wq.heap.size wq w7 := Below.grown (by repeat (first | exact Below.refl _ _ | assumption | refine Below.drew ?_ | refine bel_drewN ?_ _ | refine ba ?_ _ | refine bt2 ?_ (by assumption) | refine Below.setCell ?_ (by simp <;> omega) _)) hg7 (by simp; omega) (fun g e => (World.ownsRow.lt hO5 g e).1); have hs7 := hB7.size)
                  | (refine step_append_val rfl (.tmp 65) (.tmp 68) rfl wq.heap.size v7 _ rfl hO7 (some ⟨g, k, none⟩) (i - k) (cp - k) (hs.drop k) rfl (HD2.out _ hB7) HT3.out (by simp; omega) hs7 ?_; intro v9 w9 hO9 hg9; have hB9 : Below wq.heap.size wq w9 := Below.grown hB7 hg9 hs7 (fun g e => (World.ownsRow.lt hO7 g e).1))
                  | (refine step_append_val rfl (.tmp 58) (.tmp 61) rfl wq.heap.size _ [] rfl hP2 (some ⟨g, 0, none⟩) k cp (hs.take k) rfl hF2 hT1 (by simp; omega) hb22 ?_; intro v5 w5 hO5 hg5; have hB5 : Below wq.heap.size wq w5 := Below.grown hw22 hg5 hb22 (fun g e => by cases e; exact Nat.le_refl _); have hC5 := Vals.other (g := wq.heap.size) hM2 hg5 (by omega); have hs5 := hB5.size)
                  | (refine step_append_val rfl (.tmp 62) (.tmp 64) rfl wq.heap.size v5 _ rfl hO5 (some ⟨wq.heap.size + 1, 0, none⟩) 1 1 [.slice sb D cb] rfl hC5 hT2 (by simp; omega) hs5 ?_; intro v7 w7 hO7 hg7; have hB7 : Below wq.heap.size wq w7 := Below.grown hB5 hg7 hs5 (fun g e => (World.ownsRow.lt hO5 g e).1); have hs7 := hB7.size)
                  | (refine step_append_val rfl (.tmp 58) (.tmp 61) rfl wq.heap.size _ [] rfl hP3 (some ⟨g, 0, none⟩) k cp (hs.take k) rfl hF3 hT1 (by simp; omega) hb33 ?_; intro v5 w5 hO5 hg5; have hB5 : Below wq.heap.size wq w5 := Below.grown hw33 hg5 hb33 (fun g e => by cases e; simp); have hC5 := Vals.other (g := wq.heap.size + 1) hM3 hg5 (by omega); have hs5 := hB5.size)
                  | (refine step_append_val rfl (.tmp 62) (.tmp 64) rfl wq.heap.size v5 _ rfl hO5 (some ⟨wq.heap.size, 0, none⟩) 1 1 [.slice sb D cb] rfl hC5 hT2 (by simp; omega) hs5 ?_; intro v7 w7 hO7 hg7; have hB7 : Below wq.heap.size wq w7 := Below.grown hB5 hg7 hs5 (fun g e => (World.ownsRow.lt hO5 g e).1); have hs7 := hB7.size)
                  | fail)
                all_goals
                  have hHn := (HHn.out).keep hB9
                  rw [← HI.out, ← HS.out] at hHn
                  have hln : (([] ++ hs.take k ++ [.slice sb D cb]) ++ hs.drop k : List Value).length = i + 1 := HHl.out
                  obtain ⟨g9, c9, hv9⟩ : ∃ g9 c9, v9 = .slice (some ⟨g9, 0, none⟩) (i + 1) c9 := by
                    rcases hO9.cases with ⟨_, hz⟩ | ⟨g9, c9, hv, _⟩
                    · rw [hz] at hln; simp at hln
                    · exact ⟨g9, c9, by rw [hv, hln]⟩
                  subst hv9
                  have hle9 := ownV_le hO9
                  have hOw := hO9.low hbase
                  have hB9w := hBw.out.trans (hB9.mono hbase)
                  have hL9 := HLk.out.below hB9
                  clear hO9 hO7 hO5 hg9 hg7 hg5 hB9 hB7 hB5 hln
                  go_wp2_with fail
                  go_roundw
                  case rel => exact ⟨i + 1, g9, c9, _, by omega, by go_num, rfl, hle9, hOw, hHn, hL9, hB9w⟩
                  case measure => simp [intOf]; omega
              · obtain rfl : k = i := by omega
                obtain rfl : k = cp := hA
                have HDr := Lib.hid (show hs.drop k = [] from List.drop_eq_nil_of_le (by omega))
                go_region_held3 (fun w' => True) (first | trivial) (first
                  | (refine step_append_val rfl (.tmp 58) (.tmp 61) rfl wq.heap.size _ [] rfl hP1 (some ⟨g, 0, none⟩) k k (hs.take k) rfl hF1 hT1 (by simp; omega) hb11 ?_; intro v5 w5 hO5 hg5; have hB5 : Below wq.heap.size wq w5 := Below.grown hw11 hg5 hb11 (fun g e => by cases e; exact Nat.le_refl _); have hC5 := hn1 w5; have hs5 := hB5.size)
                  | (refine step_append_val rfl (.tmp 62) (.tmp 64) rfl wq.heap.size v5 _ rfl (hO5.keep (ba (Below.refl _ _) _)) (some ⟨w5.heap.size, 0, none⟩) 1 1 [.slice sb D cb] rfl hC5 hT2 (by simp; omega) (by simp; omega) ?_; intro v7 w7 hO7 hg7; have hB7 : Below wq.heap.size wq w7 := Below.grown (by repeat (first | exact Below.refl _ _ | assumption | refine Below.drew ?_ | refine bel_drewN ?_ _ | refine ba ?_ _ | refine bt2 ?_ (by assumption) | refine Below.setCell ?_ (by simp <;> omega) _)) hg7 (by simp; omega) (fun g e => (World.ownsRow.lt hO5 g e).1); have hs7 := hB7.size)
                  | (refine step_append_val rfl (.tmp 65) (.tmp 68) rfl wq.heap.size v7 _ rfl hO7 (some ⟨g, 0, none⟩) 0 0 [] rfl ⟨rfl, .inl rfl⟩ (fun u hu => by simp at hu) (by simp; omega) hs7 ?_; intro v9 w9 hO9 hg9; have hB9 : Below wq.heap.size wq w9 := Below.grown hB7 hg9 hs7 (fun g e => (World.ownsRow.lt hO7 g e).1))
                  | (refine step_append_val rfl (.tmp 58) (.tmp 61) rfl wq.heap.size _ [] rfl hP2 (some ⟨g, 0, none⟩) k k (hs.take k) rfl hF2 hT1 (by simp; omega) hb22 ?_; intro v5 w5 hO5 hg5; have hB5 : Below wq.heap.size wq w5 := Below.grown hw22 hg5 hb22 (fun g e => by cases e; exact Nat.le_refl _); have hC5 := Vals.other (g := wq.heap.size) hM2 hg5 (by omega); have hs5 := hB5.size)
                  | (refine step_append_val rfl (.tmp 62) (.tmp 64) rfl wq.heap.size v5 _ rfl hO5 (some ⟨wq.heap.size + 1, 0, none⟩) 1 1 [.slice sb D cb] rfl hC5 hT2 (by simp; omega) hs5 ?_; intro v7 w7 hO7 hg7; have hB7 : Below wq.heap.size wq w7 := Below.grown hB5 hg7 hs5 (fun g e => (World.ownsRow.lt hO5 g e).1); have hs7 := hB7.size)
                  | (refine step_append_val rfl (.tmp 58) (.tmp 61) rfl wq.heap.size _ [] rfl hP3 (some ⟨g, 0, none⟩) k k (hs.take k) rfl hF3 hT1 (by simp; omega) hb33 ?_; intro v5 w5 hO5 hg5; have hB5 : Below wq.heap.size wq w5 := Below.grown hw33 hg5 hb33 (fun g e => by cases e; simp); have hC5 := Vals.other (g := wq.heap.size + 1) hM3 hg5 (by omega); have hs5 := hB5.size)
                  | (refine step_append_val rfl (.tmp 62) (.tmp 64) rfl wq.heap.size v5 _ rfl hO5 (some ⟨wq.heap.size, 0, none⟩) 1 1 [.slice sb D cb] rfl hC5 hT2 (by simp; omega) hs5 ?_; intro v7 w7 hO7 hg7; have hB7 : Below wq.heap.size wq w7 := Below.grown hB5 hg7 hs5 (fun g e => (World.ownsRow.lt hO5 g e).1); have hs7 := hB7.size)
                  | fail)
                all_goals
                  rw [show ([] ++ hs.take k ++ [.slice sb D cb] ++ [] : List Value) = [] ++ hs.take k ++ [.slice sb D cb] ++ hs.drop k by rw [HDr.out]] at hO9
                  have hHn := (HHn.out).keep hB9
                  rw [← HI.out, ← HS.out] at hHn
                  have hln : (([] ++ hs.take k ++ [.slice sb D cb]) ++ hs.drop k : List Value).length = k + 1 := HHl.out
                  obtain ⟨g9, c9, hv9⟩ : ∃ g9 c9, v9 = .slice (some ⟨g9, 0, none⟩) (k + 1) c9 := by
                    rcases hO9.cases with ⟨_, hz⟩ | ⟨g9, c9, hv, _⟩
                    · rw [hz] at hln; simp at hln
                    · exact ⟨g9, c9, by rw [hv, hln]⟩
                  subst hv9
                  have hle9 := ownV_le hO9
                  have hOw := hO9.low hbase
                  have hB9w := hBw.out.trans (hB9.mono hbase)
                  have hL9 := HLk.out.below hB9
                  clear hO9 hO7 hO5 hg9 hg7 hg5 hB9 hB7 hB5 hln
                  go_wp2_with fail
                  go_roundw
                  case rel => exact ⟨k + 1, g9, c9, _, by omega, by go_num, rfl, hle9, hOw, hHn, hL9, hB9w⟩
                  case measure => simp [intOf]; omega
            · obtain ⟨j, rfl⟩ : ∃ j, k = j + 1 := ⟨k - 1, by omega⟩
              have hcj : wr.cell? ⟨g, j, none⟩ = some (hs[j]?.getD (.bool false)) := by
                rcases (hV6.keep hBz).lies with h0 | ⟨b2, o2, e2, hb2, hcells2⟩
                · omega
                · cases e2
                  have := hcells2 j (by omega)
                  rwa [Nat.zero_add] at this
              have hOj := (hH6.keep hBz).2 j (by omega)
              have hlj : (lz[j]?.getD []).length = D := all_at hlD j (by omega)
              obtain ⟨sj, cj, hvj, hIj, _⟩ := hOj.spread
              rw [hlj] at hvj hIj
              rw [hvj] at hcj
              have hjz0 : (0 : Int) ≤ (j : Int) := by omega
              have hjz1 : (j : Int) < (i : Int) := by omega
              have hcb := c_l7Before sb sj D cb D cj bz (lz[j]?.getD []) (by omega) (Nat.le_refl _) (by omega) wr (hIb.keep hBz) hIj
              have hst := posL_step (x := bz) (l := lz) (k := j)
              have hsp := posL_stop (x := bz) (l := lz) (k := j)
              clear hOj hvj hIj hlj hk0
              cases hlt3 : ltL bz (lz[j]?.getD [])
              · rw [hlt3] at hcb
                have hPk : posL bz lz (j + 1) = j + 1 := hsp hlt3
                clear hst hsp hlt3
                go_wp2_with (first | (go_at_call 41; refine hcb.mono ?_; rintro e wq ⟨rfl, hBq⟩) | fail)
                have hBz := bt2 hBz hBq
                clear hBq hcb hcj
                generalize hjk : j + 1 = k at *
                have hjz : (j : Int) + 1 = (k : Int) := by omega
                rw [hjz]
                clear hjz hjz0 hjz1
                have hpk : posL bz lz i = k := by rw [hP.out]; exact hPk
                have HI := Lib.hid (show insL bz lz = [] ++ lz.take k ++ [bz] ++ lz.drop k by unfold insL; rw [hll, hpk])
                clear hpk hPk hP
                have hkz0 : (0 : Int) ≤ (k : Int) := by omega
                have hkz1 : (k : Int) ≤ (cp : Int) := by omega
                have hkz2 : (k : Int) ≤ (i : Int) := by omega
                have hkz3 : (i : Int) ≤ (cp : Int) := by omega
                have hVk := hV6.keep hBz
                have HHn := Lib.hid ((hH6.keep hBz).ins k (by omega) (hOb6.keep hBz))
                have HHl := Lib.hid (show (([] ++ hs.take k ++ [.slice sb D cb]) ++ hs.drop k : List Value).length = i + 1 by
                  simp only [List.nil_append, List.length_append, List.length_take, List.length_drop, List.length_singleton]; omega)
                have HLk := Lib.hid (hL6.below hBz)
                have hO1 := own_litV wq
                have hO2 := hO1.keep (ba (Below.refl _ _) (.cells #[.slice sb D cb] 23))
                have hO3 : OwnV ((wq.alloc (.cells #[.slice sb D cb] 23)).alloc (.cells #[] 23)) wq.heap.size 23 (.slice (some ⟨wq.heap.size + 1, 0, none⟩) 0 0) [] := by
                  have := (own_litV (wq.alloc (.cells #[.slice sb D cb] 23))).low (b2 := wq.heap.size) (by simp)
                  simpa using this
                have HF := Lib.hid (fun W (h : Below wq.heap.size wq W) => (hVk.keep h).front (k := k) hk)
                have HD2 := Lib.hid (fun W (h : Below wq.heap.size wq W) => show Vals W (some ⟨g, k, none⟩) (i - k) (hs.drop k) by
                  have := (hVk.keep h).back (k := k) hk
                  rwa [Nat.zero_add] at this)
                have hlt2 : (hs.take k).length = k := by rw [List.length_take]; omega
                have hT1 := hAS.take k
                have hT2 : AllS [.slice sb D cb] := fun u hu => by rw [List.mem_singleton.1 hu]; rfl
                have HT3 := Lib.hid (hAS.drop k)
                have hn1 : ∀ W : World, Vals (W.alloc (.cells #[.slice sb D cb] 23)) (some ⟨W.heap.size, 0, none⟩) 1 [.slice sb D cb] := fun W => vals_new W _
                have hA : k < cp ∨ k = cp := by omega
                have hN2 : Vals ((wq.alloc (.cells #[] 23)).alloc (.cells #[.slice sb D cb] 23)) (some ⟨wq.heap.size + 1, 0, none⟩) 1 [.slice sb D cb] := by simpa using hn1 (wq.alloc (.cells #[] 23))
                have hN3 := (hn1 wq).keep (ba (Below.refl _ _) (.cells #[] 23))
                have hw11 := (ba (Below.refl wq.heap.size wq) (.cells #[] 23)).drew
                have hw22 := (ba (ba (Below.refl wq.heap.size wq) (.cells #[] 23)) (.cells #[.slice sb D cb] 23)).drew
                have hw33 := (ba (ba (Below.refl wq.heap.size wq) (.cells #[.slice sb D cb] 23)) (.cells #[] 23)).drew
                have hP1 : OwnV (wq.alloc (.cells #[] 23)).drew wq.heap.size 23 (.slice (some ⟨wq.heap.size, 0, none⟩) 0 0) [] := hO1
                have hP2 : OwnV ((wq.alloc (.cells #[] 23)).alloc (.cells #[.slice sb D cb] 23)).drew wq.heap.size 23 (.slice (some ⟨wq.heap.size, 0, none⟩) 0 0) [] := hO2
                have hP3 : OwnV ((wq.alloc (.cells #[.slice sb D cb] 23)).alloc (.cells #[] 23)).drew wq.heap.size 23 (.slice (some ⟨wq.heap.size + 1, 0, none⟩) 0 0) [] := hO3
                have hM2 := hN2.keep (Below.refl _ _).drew
                have hM3 := hN3.keep (Below.refl _ _).drew
                have hb11 := hw11.size
                have hb22 := hw22.size
                have hb33 := hw33.size
                have hF1 := HF.out _ hw11
                have hF2 := HF.out _ hw22
                have hF3 := HF.out _ hw33
                have hbase : w.heap.size ≤ wq.heap.size := Nat.le_trans hB6.size hBz.size
                have hBw := Lib.hid (hB6.trans (hBz.mono hB6.size))
                have hi100 : i < 100000 := by omega
                try clear hk0
                clear hVk hV6 hH6 hL6 hOb6 hAS hIb hcnt
                try clear hkz
                rcases hA with hA | hA
                · have hAn : ¬ cp = k := by omega
                  go_region_held3 (fun w' => True) (first | trivial) (first
                    | (refine step_append_val rfl (.tmp 58) (.tmp 61) rfl wq.heap.size _ [] rfl hP1 (some ⟨g, 0, none⟩) k cp (hs.take k) rfl hF1 hT1 (by simp; omega) hb11 ?_; intro v5 w5 hO5 hg5; have hB5 : Below wq.heap.size wq w5 := Below.grown hw11 hg5 hb11 (fun g e => by cases e; exact Nat.le_refl _); have hC5 := hn1 w5; have hs5 := hB5.size)
                    | (refine step_append_val rfl (.tmp 62) (.tmp 64) rfl wq.heap.size v5 _ rfl (hO5.keep (ba (Below.refl _ _) _)) (some ⟨w5.heap.size, 0, none⟩) 1 1 [.slice sb D cb] rfl hC5 hT2 (by simp; omega) (by simp; omega) ?_; intro v7 w7 hO7 hg7; have hB7 : Below wq.heap.size wq w7 := Below.grown (by repeat (first | exact Below.refl _ _ | assumption | refine Below.drew ?_ | refine bel_drewN ?_ _ | refine ba ?_ _ | refine bt2 ?_ (by assumption) | refine Below.setCell ?_ (by simp <;> omega) _)) hg7 (by simp; omega) (fun g e => (World.ownsRow.lt hO5 g e).1); have hs7 := hB7.size)
                    | (refine step_append_val rfl (.tmp 65) (.tmp 68) rfl wq.heap.size v7 _ rfl hO7 (some ⟨g, k, none⟩) (i - k) (cp - k) (hs.drop k) rfl (HD2.out _ hB7) HT3.out (by simp; omega) hs7 ?_; intro v9 w9 hO9 hg9; have hB9 : Below wq.heap.size wq w9 := Below.grown hB7 hg9 hs7 (fun g e => (World.ownsRow.lt hO7 g e).1))
                    | (refine step_append_val rfl (.tmp 58) (.tmp 61) rfl wq.heap.size _ [] rfl hP2 (some ⟨g, 0, none⟩) k cp (hs.take k) rfl hF2 hT1 (by simp; omega) hb22 ?_; intro v5 w5 hO5 hg5; have hB5 : Below wq.heap.size wq w5 := Below.grown hw22 hg5 hb22 (fun g e => by cases e; exact Nat.le_refl _); have hC5 := Vals.other (g := wq.heap.size) hM2 hg5 (by omega); have hs5 := hB5.size)
                    | (refine step_append_val rfl (.tmp 62) (.tmp 64) rfl wq.heap.size v5 _ rfl hO5 (some ⟨wq.heap.size + 1, 0, none⟩) 1 1 [.slice sb D cb] rfl hC5 hT2 (by simp; omega) hs5 ?_; intro v7 w7 hO7 hg7; have hB7 : Below wq.heap.size wq w7 := Below.grown hB5 hg7 hs5 (fun g e => (World.ownsRow.lt hO5 g e).1); have hs7 := hB7.size)
                    | (refine step_append_val rfl (.tmp 58) (.tmp 61) rfl wq.heap.size _ [] rfl hP3 (some ⟨g, 0, none⟩) k cp (hs.take k) rfl hF3 hT1 (by simp; omega) hb33 ?_; intro v5 w5 hO5 hg5; have hB5 : Below wq.heap.size wq w5 := Below.grown hw33 hg5 hb33 (fun g e => by cases e; simp); have hC5 := Vals.other (g := wq.heap.size + 1) hM3 hg5 (by omega); have hs5 := hB5.size)
                    | (refine step_append_val rfl (.tmp 62) (.tmp 64) rfl wq.heap.size v5 _ rfl hO5 (some ⟨wq.heap.size, 0, none⟩) 1 1 [.slice sb D cb] rfl hC5 hT2 (by simp; omega) hs5 ?_; intro v7 w7 hO7 hg7; have hB7 : Below wq.heap.size wq w7 := Below.grown hB5 hg7 hs5 (fun g e => (World.ownsRow.lt hO5 g e).1); have hs7 := hB7.size)
                    | fail)
                  all_goals
                    have hHn := (HHn.out).keep hB9
                    rw [← HI.out, ← HS.out] at hHn
                    have hln : (([] ++ hs.take k ++ [.slice sb D cb]) ++ hs.drop k : List Value).length = i + 1 := HHl.out
                    obtain ⟨g9, c9, hv9⟩ : ∃ g9 c9, v9 = .slice (some ⟨g9, 0, none⟩) (i + 1) c9 := by
                      rcases hO9.cases with ⟨_, hz⟩ | ⟨g9, c9, hv, _⟩
                      · rw [hz] at hln; simp at hln
                      · exact ⟨g9, c9, by rw [hv, hln]⟩
                    subst hv9
                    have hle9 := ownV_le hO9
                    have hOw := hO9.low hbase
                    have hB9w := hBw.out.trans (hB9.mono hbase)
                    have hL9 := HLk.out.below hB9
                    clear hO9 hO7 hO5 hg9 hg7 hg5 hB9 hB7 hB5 hln
                    go_wp2_with fail
                    go_roundw
                    case rel => exact ⟨i + 1, g9, c9, _, by omega, by go_num, rfl, hle9, hOw, hHn, hL9, hB9w⟩
                    case measure => simp [intOf]; omega
                · obtain rfl : k = i := by omega
                  obtain rfl : k = cp := hA
                  have HDr := Lib.hid (show hs.drop k = [] from List.drop_eq_nil_of_le (by omega))
                  go_region_held3 (fun w' => True) (first | trivial) (first
                    | (refine step_append_val rfl (.tmp 58) (.tmp 61) rfl wq.heap.size _ [] rfl hP1 (some ⟨g, 0, none⟩) k k (hs.take k) rfl hF1 hT1 (by simp; omega) hb11 ?_; intro v5 w5 hO5 hg5; have hB5 : Below wq.heap.size wq w5 := Below.grown hw11 hg5 hb11 (fun g e => by cases e; exact Nat.le_refl _); have hC5 := hn1 w5; have hs5 := hB5.size)
                    | (refine step_append_val rfl (.tmp 62) (.tmp 64) rfl wq.heap.size v5 _ rfl (hO5.keep (ba (Below.refl _ _) _)) (some ⟨w5.heap.size, 0, none⟩) 1 1 [.slice sb D cb] rfl hC5 hT2 (by simp; omega) (by simp; omega) ?_; intro v7 w7 hO7 hg7; have hB7 : Below wq.heap.size wq w7 := Below.grown (by repeat (first | exact Below.refl _ _ | assumption | refine Below.drew ?_ | refine bel_drewN ?_ _ | refine ba ?_ _ | refine bt2 ?_ (by assumption) | refine Below.setCell ?_ (by simp <;> omega) _)) hg7 (by simp; omega) (fun g e => (World.ownsRow.lt hO5 g e).1); have hs7 := hB7.size)
                    | (refine step_append_val rfl (.tmp 65) (.tmp 68) rfl wq.heap.size v7 _ rfl hO7 (some ⟨g, 0, none⟩) 0 0 [] rfl ⟨rfl, .inl rfl⟩ (fun u hu => by simp at hu) (by simp; omega) hs7 ?_; intro v9 w9 hO9 hg9; have hB9 : Below wq.heap.size wq w9 := Below.grown hB7 hg9 hs7 (fun g e => (World.ownsRow.lt hO7 g e).1))
                    | (refine step_append_val rfl (.tmp 58) (.tmp 61) rfl wq.heap.size _ [] rfl hP2 (some ⟨g, 0, none⟩) k k (hs.take k) rfl hF2 hT1 (by simp; omega) hb22 ?_; intro v5 w5 hO5 hg5; have hB5 : Below wq.heap.size wq w5 := Below.grown hw22 hg5 hb22 (fun g e => by cases e; exact Nat.le_refl _); have hC5 := Vals.other (g := wq.heap.size) hM2 hg5 (by omega); have hs5 := hB5.size)
                    | (refine step_append_val rfl (.tmp 62) (.tmp 64) rfl wq.heap.size v5 _ rfl hO5 (some ⟨wq.heap.size + 1, 0, none⟩) 1 1 [.slice sb D cb] rfl hC5 hT2 (by simp; omega) hs5 ?_; intro v7 w7 hO7 hg7; have hB7 : Below wq.heap.size wq w7 := Below.grown hB5 hg7 hs5 (fun g e => (World.ownsRow.lt hO5 g e).1); have hs7 := hB7.size)
                    | (refine step_append_val rfl (.tmp 58) (.tmp 61) rfl wq.heap.size _ [] rfl hP3 (some ⟨g, 0, none⟩) k k (hs.take k) rfl hF3 hT1 (by simp; omega) hb33 ?_; intro v5 w5 hO5 hg5; have hB5 : Below wq.heap.size wq w5 := Below.grown hw33 hg5 hb33 (fun g e => by cases e; simp); have hC5 := Vals.other (g := wq.heap.size + 1) hM3 hg5 (by omega); have hs5 := hB5.size)
                    | (refine step_append_val rfl (.tmp 62) (.tmp 64) rfl wq.heap.size v5 _ rfl hO5 (some ⟨wq.heap.size, 0, none⟩) 1 1 [.slice sb D cb] rfl hC5 hT2 (by simp; omega) hs5 ?_; intro v7 w7 hO7 hg7; have hB7 : Below wq.heap.size wq w7 := Below.grown hB5 hg7 hs5 (fun g e => (World.ownsRow.lt hO5 g e).1); have hs7 := hB7.size)
                    | fail)
                  all_goals
                    rw [show ([] ++ hs.take k ++ [.slice sb D cb] ++ [] : List Value) = [] ++ hs.take k ++ [.slice sb D cb] ++ hs.drop k by rw [HDr.out]] at hO9
                    have hHn := (HHn.out).keep hB9
                    rw [← HI.out, ← HS.out] at hHn
                    have hln : (([] ++ hs.take k ++ [.slice sb D cb]) ++ hs.drop k : List Value).length = k + 1 := HHl.out
                    obtain ⟨g9, c9, hv9⟩ : ∃ g9 c9, v9 = .slice (some ⟨g9, 0, none⟩) (k + 1) c9 := by
                      rcases hO9.cases with ⟨_, hz⟩ | ⟨g9, c9, hv, _⟩
                      · rw [hz] at hln; simp at hln
                      · exact ⟨g9, c9, by rw [hv, hln]⟩
                    subst hv9
                    have hle9 := ownV_le hO9
                    have hOw := hO9.low hbase
                    have hB9w := hBw.out.trans (hB9.mono hbase)
                    have hL9 := HLk.out.below hB9
                    clear hO9 hO7 hO5 hg9 hg7 hg5 hB9 hB7 hB5 hln
                    go_wp2_with fail
                    go_roundw
                    case rel => exact ⟨k + 1, g9, c9, _, by omega, by go_num, rfl, hle9, hOw, hHn, hL9, hB9w⟩
                    case measure => simp [intOf]; omega
              · rw [hlt3] at hcb
                have HP2 := Lib.hid (show posL bz lz i = posL bz lz j by rw [hP.out]; exact hst hlt3)
                clear hst hsp hlt3
                go_wp2_with (first | (go_at_call 41; refine hcb.mono ?_; rintro e wq ⟨rfl, hBq⟩) | fail)
                go_roundw
                case rel => exact ⟨j, by omega, rfl, HP2, bt2 hBz hBq⟩
                case measure => simp [intOf]
        · have hk' : i = Z.length := by omega
          subst hk'
          go_wp2_with fail
          go_ret
          exact ⟨_, hs, rfl, hO, hH, hB⟩
theorem c_l7AllT (N : Nat) (s : Option Addr) (l cap : Nat) (a : List Int) (hT : Til (N : Int) a) (w : World) (ha : Ints w s l a) : Calls Try.prog 23 #[.int .i64 (N : Int), .slice s l cap] w (AllPost w (allT N a)) :=
  c_l7All N s l cap a hT (N / a.length) (allT_cnt hT) (fun j hj => by
    rw [List.getElem?_eq_getElem hj]
    exact allT_len hT _ (List.getElem_mem hj)) (by have := Nat.div_le_self N a.length; have := hT.2.1; omega) w ha
end Go.Proofs.Ytiplnfggiffngaa
