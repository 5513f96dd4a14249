/- Chapter 7: the program's search, walked: an iterator that gives out the tilings one by one. -/
import Derived.Test.YtiplnfggiffngaaToa
import Derived.Test.YtiplnfggiffngaaStepA
import Derived.Test.YtiplnfggiffngaaMathS
import Derived.RangeFuncBox
import Derived.RegionTactic
import Derived.BigRegion
import Derived.Deep.Cut
import Derived.WalkMore
import Derived.Deep.LoopGhost
import Derived.Deep.CutBlock
import Derived.Deep.CutRange
namespace Go.Proofs.Ytiplnfggiffngaa
open Go.RowKit Go.Shelf
attribute [local go_sem] Oper.semAt_some
/-- where the search stands; c is to come -/
structure Srch (N : Nat) (a : List Int) (base gb gf g cap : Nat) (b : List Int) (pre : List Itm) (c : List (List Int)) (wr : World) : Prop where
  st : Bst N a b
  come : pre.map Itm.b ++ c = allS N a
  ob : OwnI wr base 3 (.slice (some ⟨g, 0, none⟩) b.length cap) b
  obits : OwnV wr base 62 (.slice (some ⟨gb, 0, none⟩) N N) (rowU N a N 0)
  ofrom : OwnV wr base 62 (.slice (some ⟨gf, 0, none⟩) (N + 1) (N + 1)) (rowF N a N)
  nb : g ≠ gb
  nf : g ≠ gf
  size : base ≤ wr.heap.size
theorem own_ne {w : World} {base base2 g gb n m cap cap2 : Nat} {zs : List Int} {xs : List Value} (h : OwnI w base 3 (.slice (some ⟨g, 0, none⟩) n cap) zs) (k : OwnV w base2 62 (.slice (some ⟨gb, 0, none⟩) m cap2) xs) : g ≠ gb := by
  rcases h.2 with ⟨h1, _⟩ | ⟨g', cap', cur, h1, _, hh, _⟩
  · cases h1
  · rcases k.2 with ⟨k1, _⟩ | ⟨g2, cap3, cur2, k1, _, kk, _⟩
    · cases k1
    · simp only [Value.slice.injEq, Option.some.injEq, Addr.mk.injEq, and_true] at h1 k1
      obtain ⟨rfl, _, _⟩ := h1
      obtain ⟨rfl, _, _⟩ := k1
      rintro rfl
      rw [hh] at kk
      cases kk
def msrW (N : Nat) (v : Value) (x : Value) (w : World) : Nat := msr N (rdI w v) (intOf x).toNat
theorem msrW_own {N : Nat} {w : World} {base g n cap x : Nat} {e : TypeId} {zs : List Int} (h : OwnI w base e (.slice (some ⟨g, 0, none⟩) n cap) zs) (hn : zs.length = n) : msrW N (.slice (some ⟨g, 0, none⟩) n cap) (.int .i64 (x : Int)) w = msr N zs x := by
  unfold msrW
  rw [rdI_own h hn]
  rfl
theorem Srch.kp {N : Nat} {a : List Int} {base gb gf g cap U l : Nat} {b : List Int} {pre pre' : List Itm} {c c' : List (List Int)} {X Y : World} (h : Srch N a base gb gf g cap b pre c X) (k : KpU U l X Y) (hU : U < base) (hl : l < base) (hc : pre'.map Itm.b ++ c' = allS N a) : Srch N a base gb gf g cap b pre' c' Y :=
  ⟨h.st, hc, kpU_row h.ob k hU hl, kpU_row h.obits k hU hl, kpU_row h.ofrom k hU hl, h.nb, h.nf, Nat.le_trans h.size k.size⟩
set_option maxRecDepth 20000 in
set_option maxHeartbeats 4000000 in
theorem sec_in (n : Nat) (hn : 1 ≤ n) (N : Nat) (a : List Int) (hT : Til (N : Int) a) (l C A U M : Nat) (s : Option Addr) (ln cap0 : Nat) (J Jx : List Itm → World → Prop) (w : World) (hU : U < w.heap.size) (hl : l < w.heap.size)
    (hJ : ∀ s X Y, J s X → Below w.heap.size X Y → J s Y) (hM : (allS N a).length ≤ M)
    (hY : ∀ pre x W1, J pre W1 → w.heap.size ≤ W1.heap.size → RwT x W1 → pre.length < M → YieldAt Fence.wide (n - 1) Try.prog l (encT x) W1 fun e W' => (e = .returned (.bool true) ∧ J (pre ++ [x]) W' ∧ KpU U l W1 W') ∨ (e = .returned (.bool false) ∧ Jx (pre ++ [x]) W'))
    (hc : w.cell? ⟨C, 0, none⟩ = some (.int .i64 (N : Int))) (ha : w.cell? ⟨A, 0, none⟩ = some (.slice s ln cap0)) (hz : Ints w s ln a) (h0 : J [] w) :
    Calls Try.prog 36 #[.func (.yield l) #[] #[], .pointer (some ⟨C, 0, none⟩), .pointer (some ⟨A, 0, none⟩)] w fun e W' => (∃ v, e = .returned v) ∧ ((∃ xs, SAll N a xs ∧ J xs W') ∨ (∃ pre, SPart N a pre ∧ Jx pre W')) := by
  have hN := hT.1
  have hN24 := hT.2.1
  have hr0 := rowF_get N a N 0 (by omega)
  rw [if_pos (by omega), Nat.sub_zero, frm_full hT] at hr0
  have hu0 := rowU_get N a N 0 0 (by omega)
  rw [show rowM N a N 0 0 = setM N a (0 : Nat) by simp [rowM]; omega] at hu0
  have ht0 : tkn N a [0] = setM N a ((0 : Nat) : Int) := by simp [tkn, sms, setM]
  go_enter Try.func36, Try.ntmps36
  go_step3
  go_wp2_with (first
    | (go_at_call 37; refine (c_reached N s ln cap0 a hT w hz).mono ?_; rintro e w1 ⟨gb, hgb, rfl, hOb, hB1⟩)
    | (go_at_call 38; refine (c_reachedFrom N a hT gb w.heap.size w1 hOb).mono ?_; rintro e w2 ⟨gf, hgf, rfl, hOf, hB2⟩; have x0 := hOf.cell (rowF_length N a N) 0 (by omega); rw [hr0] at x0))
  have hOb2 := OwnV.keep hOb hB2
  have y0 := hOb2.cell (rowU_length N a N 0) 0 (by omega)
  rw [hu0, ← ht0] at y0
  have hBw := hB1.trans (hB2.mono hB1.size)
  have hSt : Hid (Srch N a w.heap.size gb gf w2.heap.size 1 [0] [] (comE N a [0] 1) (w2.alloc (.cells #[.int .i64 0] 3)).drew ∧ J [] (w2.alloc (.cells #[.int .i64 0] 3)).drew) := Lib.hid (by
    have hB3 : Below w2.heap.size w2 (w2.alloc (.cells #[.int .i64 0] 3)).drew := ((Below.refl _ _).alloc (Nat.le_refl _) _).drew
    have hlit : OwnI (w2.alloc (.cells #[.int .i64 0] 3)).drew w2.heap.size 3 (.slice (some ⟨w2.heap.size, 0, none⟩) 1 1) [0] := World.ownsRow_lit w2 #[.int .i64 0] 1 (Nat.le_refl _) (by unfold maxLen; omega) rfl
    have l1 := hOb2.lt.2
    have l2 := hOf.lt.2
    refine ⟨⟨Bst.first hT, by rw [comE_first hT]; rfl, hlit.low hBw.size, hOb2.keep hB3, (OwnV.low hOf hB1.size).keep hB3, by omega, by omega, Nat.le_trans hBw.size hB3.size⟩, hJ _ _ _ h0 (hBw.trans (hB3.mono hBw.size))⟩)
  clear hr0 hu0 ht0
  have y1 : (w2.alloc (.cells #[.int .i64 0] 3)).cell? ⟨gb, 0, none⟩ = some (.int .u32 ((tkn N a [0] : Nat) : Int)) := keepc (ba (Below.refl _ _) _) y0
  have hN0 : 0 < N := by omega
  go_cut [0, 7, 8] from 19 to 22 (fun ff bb tt wx => ff = .func (.yield l) #[] #[] ∧ bb = .slice (some ⟨w2.heap.size, 0, none⟩) 1 1 ∧ tt = .int .u32 ((tkn N a [0] : Nat) : Int) ∧ wx = (w2.alloc (.cells #[.int .i64 0] 3)).drew)
  case first =>
    go_region
    all_goals
      go_wp2_with fail
      go_meet
      case rel => exact ⟨rfl, rfl, rfl, rfl⟩
  case rest =>
    obtain ⟨rfl, rfl, rfl, rfl⟩ := hcut
    obtain ⟨hS0, hJ0⟩ := hSt.out
    clear hSt y0 y1 x0 hOb2 hOb hOf
    go_wp2_with fail
    go_step3
    go_wp2_with fail
    go_loopw [7, 8, 9] (fun bb tt xx wr => ∃ g cap x b pre, bb = .slice (some ⟨g, 0, none⟩) b.length cap ∧ tt = .int .u32 ((tkn N a b : Nat) : Int) ∧ xx = .int .i64 ((x : Nat) : Int) ∧ 1 ≤ x ∧ x ≤ N ∧ Srch N a w.heap.size gb gf g cap b pre (comE N a b x) wr ∧ J pre wr) (fun bb _ xx wr => msrW N bb xx wr)
    case atStart => exact ⟨_, _, 1, [0], [], rfl, rfl, rfl, by omega, by omega, hS0, hJ0⟩
    case round =>
      obtain ⟨g, cap, x, b, pre, rfl, rfl, rfl, hx1, hx2, hS, hJp⟩ := hrel
      clear hS0 hJ0 hN0
      obtain ⟨T, hTe⟩ : ∃ T, tkn N a b = T := ⟨_, rfl⟩
      have hTl := tkn_lt (b := b) hT
      rw [hTe] at hTl ⊢
      have HTE := Lib.hid hTe
      clear hTe
      obtain ⟨P, hP⟩ : ∃ P, 2 ^ N - 1 = P := ⟨_, rfl⟩
      rw [hP]
      have HP := Lib.hid hP
      clear hP
      have hbl := hS.st.len hT
      have HT := Lib.hid hT
      have HHY := Lib.hid hY
      have HHJ := Lib.hid hJ
      clear hT hY hJ
      go_upto_block 2 with fail
      go_cut [7, 8] from 23 to 76 (fun bb tt wx => bb = .slice (some ⟨g, 0, none⟩) b.length cap ∧ tt = .int .u32 (T : Int) ∧ ∃ pre', Srch N a w.heap.size gb gf g cap b pre' (bckE N a b.reverse) wx ∧ J pre' wx)
      case first =>
        by_cases hTP : T = P
        · subst hTP
          have HC := comE_full (x := x) (show tkn N a b = 2 ^ N - 1 by rw [HTE.out, HP.out])
          have HS2 := hS.come
          rw [HC] at HS2
          have hlt : pre.length < M := by
            have := congrArg List.length HS2
            rw [List.length_append, List.length_map, List.length_cons] at this
            omega
          obtain ⟨fn, tm, asg, body, hy, hR⟩ := HHY.out pre ⟨g, cap, b⟩ wr hJp hS.size ⟨hS.ob.low (Nat.zero_le _), hbl⟩ hlt
          have HS3 := Lib.hid (show (pre ++ [(⟨g, cap, b⟩ : Itm)]).map Itm.b ++ bckE N a b.reverse = allS N a by rw [List.map_append, List.append_assoc]; exact HS2)
          clear HC HS2 hlt
          simp only [encT] at hy
          go_upto_region 7 with fail
          refine (wpIn_wide (n := n)).1 ?_
          gi_wp2
          refine hR.mono ?_
          rintro e W3 (⟨rfl, hJ3, hK3⟩ | ⟨rfl, hJx3⟩)
          · gi_wp2
            go_wp2_with fail
            go_meet
            case rel => exact ⟨rfl, rfl, _, hS.kp hK3 hU hl HS3.out, hJ3⟩
          · gi_wp2
            go_wp2_with fail
            rw [Exit.noGoto_normal]
            go_end0
            exact ⟨⟨_, rfl⟩, .inr ⟨_, ⟨_, HS3.out⟩, hJx3⟩⟩
        · have hTne : tkn N a b ≠ 2 ^ N - 1 := by rw [HTE.out, HP.out]; exact hTP
          have hFl := frm_lt HT.out (by omega) (N - x)
          have z0 := hS.ofrom.cell (rowF_length N a N) x (by omega)
          rw [rowF_get N a N x hx2, if_pos (by omega)] at z0
          have hor := or_u32 T (frmM N a (N - x)) (by omega) (by omega)
          have hPT : ((T : Int) == (P : Int)) = false := by rw [beq_eq_false_iff_ne]; omega
          have hPT2 : ¬ (T : Int) = (P : Int) := by omega
          have hxz : (x : Int) < ((N + 1 : Nat) : Int) := by omega
          have hxz1 : (x : Int) < (N : Int) + 1 := by omega
          have hxn1 : x < N + 1 := by omega
          by_cases hR : (T ||| frmM N a (N - x)) = P
          · have hReq : (tkn N a b ||| frmM N a (N - x)) = 2 ^ N - 1 := by rw [HTE.out, HP.out]; exact hR
            have hxN : x < N := by
              rcases Nat.lt_or_ge x N with h | h
              · exact h
              · have e : N - x = 0 := by omega
                rw [e, frm_zero, Nat.or_zero] at hReq
                exact absurd hReq hTne
            rw [hR] at hor
            have q0 := hS.obits.cell (rowU_length N a N 0) x hxN
            rw [rowU_get N a N 0 x hxN, show rowM N a N 0 x = setM N a (x : Int) by simp [rowM, hxN]] at q0
            have hMl : setM N a (x : Int) < 16777216 := mskL_lt24 _ (by omega) (tmvL_bd a x HT.out.1)
            have hand := and_u32 T (setM N a (x : Int)) (by omega) (by omega)
            have hor2 := or_u32 T (setM N a (x : Int)) (by omega) (by omega)
            have hxNz : (x : Int) < (N : Int) := by omega
            have HTs := Lib.hid (show tkn N a (b ++ [(x : Int)]) = T ||| setM N a (x : Int) by rw [tkn_snoc, HTE.out])
            by_cases hD : T &&& setM N a (x : Int) = 0
            · have hDe : tkn N a b &&& setM N a (x : Int) = 0 := by rw [HTE.out]; exact hD
              have HC := Lib.hid (comE_take hxN hTne hReq hDe hS.st.ne)
              have HSt := Lib.hid (hS.st.take HT.out hxN hDe)
              have HMs := Lib.hid (msr_take (N := N) (x := x) hS.st.ne hx2)
              rw [hD] at hand
              clear hReq hTne hR hMl hFl hDe hD
              generalize frmM N a (N - x) = F at *
              generalize setM N a (x : Int) = M2 at *
              have hO1 : OwnI (wr.alloc (.cells #[.int .i64 (x : Int)] 3)).drew w.heap.size 3 (.slice (some ⟨g, 0, none⟩) b.length cap) b := OwnI.keep hS.ob ((Below.refl _ _).alloc (Nat.le_refl _) _).drew
              have hn1 : ∀ j u, [Value.int .i64 (x : Int)][j]? = some u → (wr.alloc (.cells #[.int .i64 (x : Int)] 3)).drew.cell? ((⟨wr.heap.size, 0, none⟩ : Addr).add j) = some u := one_newR wr _ _
              have hsz1 : w.heap.size ≤ (wr.alloc (.cells #[.int .i64 (x : Int)] 3)).drew.heap.size := by have := hS.size; show _ ≤ (wr.alloc _).heap.size; simp; omega
              obtain ⟨j0, hj, hj0, hj1, hj2⟩ := info_parts infoSo
              have q1 : (wr.alloc (.cells #[.int .i64 (x : Int)] 3)).drew.cell? ⟨gb, x, none⟩ = some (.int .u32 (M2 : Int)) := keepc ((Below.refl _ _).alloc (Nat.le_refl _) _).drew q0
              have hgb : gb < wr.heap.size := hS.obits.lt.2
              have hgg : some gb ≠ (Value.slice (some ⟨g, 0, none⟩) b.length cap).ownBlock := fun e => hS.nb (by cases e; rfl)
              go_wp2_with fail
              go_cut [7, 8] from 49 to 58 (fun bb tt wx => ∃ g7 c7, bb = .slice (some ⟨g7, 0, none⟩) (b.length + 1) c7 ∧ tt = .int .u32 ((T ||| M2 : Nat) : Int) ∧ OwnI wx w.heap.size 3 (.slice (some ⟨g7, 0, none⟩) (b.length + 1) c7) (b ++ [(x : Int)]) ∧ (wr.alloc (.cells #[.int .i64 (x : Int)] 3)).drew.grownBy wx (some g))
              case first =>
                go_region_held3 (fun w' => w'.cell? ⟨gb, x, none⟩ = some (.int .u32 (M2 : Int))) (first | go_keep | exact q1 | exact q7) (first
                  | (refine step_append_own rfl (.tmp 49) (.tmp 51) 40 rfl w.heap.size 3 j0 (.int .i64 0) 1 8 Try.underlying40 hj hj0 hj1 hj2 rfl (by decide) _ b.length _ rfl hO1 ⟨wr.heap.size, 0, none⟩ 1 1 [.int .i64 (x : Int)] rfl rfl hn1 (by simp [Value.oneCell']) (by unfold maxLen; omega) (by omega) hsz1 ?_; intro v7 w7 hown7 hgrow7 _; have q7 : w7.cell? ⟨gb, x, none⟩ = some (.int .u32 (M2 : Int)) := (World.cell?_of_block (hgrow7.block gb (Nat.lt_of_lt_of_le hgb ((Below.refl _ _).alloc (Nat.le_refl _) _).drew.size) hgg)).trans q1)
                  | fail)
                all_goals
                  obtain ⟨g7, c7, rfl⟩ := ownsRow_succ hown7
                  have hO7 : OwnI w7 w.heap.size 3 (.slice (some ⟨g7, 0, none⟩) (b.length + 1) c7) (b ++ [(x : Int)]) := by
                    show w7.ownsRow _ _ _ _ (b ++ [(x : Int)]).length _
                    rw [List.length_append, List.map_append]
                    exact hown7
                  clear hown7
                  go_wp2_with fail
                  go_meet
                  case rel => exact ⟨g7, c7, rfl, rfl, hO7, hgrow7⟩
              case rest =>
                obtain ⟨g7, c7, rfl, rfl, hO7, hgr⟩ := hcut
                have hB1 : Below wr.heap.size wr (wr.alloc (.cells #[.int .i64 (x : Int)] 3)).drew := ((Below.refl _ _).alloc (Nat.le_refl _) _).drew
                have hb7 := OwnV.other (hS.obits.keep hB1) hgr (.inr fun e => hS.nb (by cases e; rfl))
                have hf7 := OwnV.other (hS.ofrom.keep hB1) hgr (.inr fun e => hS.nf (by cases e; rfl))
                have hB7 : Below w.heap.size wr wc := Below.grown (hB1.mono hS.size) hgr hsz1 (fun k e => by cases e; exact hS.ob.lt.1)
                have hS7 : Srch N a w.heap.size gb gf g7 c7 (b ++ [(x : Int)]) pre (comE N a (b ++ [(x : Int)]) (x + 1)) wc := ⟨HSt.out, by rw [← HC.out]; exact hS.come, by rw [List.length_append]; exact hO7, hb7, hf7, own_ne hO7 hb7, own_ne hO7 hf7, Nat.le_trans hS.size hB7.size⟩
                have hJ7 := HHJ.out _ _ _ hJp hB7
                have hO7' := Lib.hid hO7
                clear hO7 hgr hB7 hb7 hf7 hB1 q0 q1 z0 hO1 hn1 hsz1
                go_wp2_with fail
                refine ⟨⟨g7, c7, x + 1, b ++ [(x : Int)], pre, by rw [List.length_append]; rfl, by rw [HTs.out], rfl, by omega, by omega, hS7, hJ7⟩, ?_⟩
                rw [msrW_own hS.ob rfl, show (x : Int) + 1 = ((x + 1 : Nat) : Int) from rfl, msrW_own hO7'.out (by simp)]
                exact HMs.out
            · have hDe : tkn N a b &&& setM N a (x : Int) ≠ 0 := by rw [HTE.out]; exact hD
              have HC := Lib.hid (comE_skip hxN hTne hReq hDe)
              have HMs := Lib.hid (msr_skip b hx2)
              have hDz : ¬ ((T &&& setM N a (x : Int) : Nat) : Int) = 0 := by omega
              have hDz2 : (((T &&& setM N a (x : Int) : Nat) : Int) == 0) = false := by rw [beq_eq_false_iff_ne]; omega
              clear hReq hTne hR hMl hFl hDe hD
              generalize frmM N a (N - x) = F at *
              generalize (T &&& setM N a (x : Int)) = TM at *
              generalize setM N a (x : Int) = M2 at *
              go_wp2_with fail
              refine ⟨⟨g, cap, x + 1, b, pre, rfl, by rw [HTE.out], rfl, by omega, by omega, ⟨hS.st, by rw [← HC.out]; exact hS.come, hS.ob, hS.obits, hS.ofrom, hS.nb, hS.nf, hS.size⟩, hJp⟩, ?_⟩
              rw [msrW_own hS.ob rfl, show (x : Int) + 1 = ((x + 1 : Nat) : Int) from rfl, msrW_own hS.ob rfl]
              exact HMs.out
          · have hRne : (tkn N a b ||| frmM N a (N - x)) ≠ 2 ^ N - 1 := by rw [HTE.out, HP.out]; exact hR
            have HC := comE_none hTne hRne
            have HS2 := hS.come
            rw [HC] at HS2
            have HS3 := Lib.hid HS2
            have hPR : (((T ||| frmM N a (N - x) : Nat) : Int) == (P : Int)) = false := by rw [beq_eq_false_iff_ne]; omega
            have hPR2 : ¬ ((T ||| frmM N a (N - x) : Nat) : Int) = (P : Int) := by omega
            clear HC HS2 hTne hRne hR hFl
            generalize frmM N a (N - x) = F at *
            generalize (T ||| F) = TF at *
            go_wp2_with fail
            go_meet
            case rel => exact ⟨rfl, rfl, _, ⟨hS.st, HS3.out, hS.ob, hS.obits, hS.ofrom, hS.nb, hS.nf, hS.size⟩, hJp⟩
      case rest =>
        obtain ⟨rfl, rfl, pre', hSb, hJb⟩ := hcut
        have hOb := Lib.hid hS.ob
        clear hS hJp
        obtain ⟨b', y, hby⟩ : ∃ b' y, b = b' ++ [y] := ⟨b.dropLast, b.getLast hSb.st.ne, (List.dropLast_concat_getLast hSb.st.ne).symm⟩
        subst hby
        by_cases hb1 : b' = []
        · subst hb1
          have hfin := hSb.come
          rw [List.nil_append, bckE_end, List.append_nil] at hfin
          have HF := Lib.hid hfin
          clear hfin
          go_wp2_with fail
          rw [Exit.noGoto_normal]
          go_end0
          exact ⟨⟨_, rfl⟩, .inl ⟨_, HF.out, hJb⟩⟩
        · obtain ⟨hst', hdis, hy0, hy1⟩ := hSb.st.back HT.out hb1
          obtain ⟨Y, rfl⟩ : ∃ Y : Nat, y = (Y : Int) := ⟨y.toNat, by omega⟩
          have hYN : Y < N := by omega
          have c0 := hSb.ob.cell rfl b'.length (by simp)
          rw [show ((b' ++ [(Y : Int)])[b'.length]?.getD 0) = (Y : Int) by simp] at c0
          have q0 := hSb.obits.cell (rowU_length N a N 0) Y hYN
          rw [rowU_get N a N 0 Y hYN, show rowM N a N 0 Y = setM N a (Y : Int) by simp [rowM, hYN]] at q0
          have hout := out_u32 (tkn N a b') (setM N a (Y : Int)) T hdis (by rw [← HTE.out, tkn_snoc]) (by have := tkn_lt (b := b') HT.out; omega)
          have HMs := Lib.hid (show msr N b' (Y + 1) < msr N (b' ++ [(Y : Int)]) x from msr_back hb1 (Y : Int) hx2)
          have HC := Lib.hid (bckE_back N a b' (Y : Int) hb1)
          have HS' := Lib.hid (show Srch N a w.heap.size gb gf g cap b' pre' (comE N a b' (Y + 1)) wc.drew from ⟨hst', by have h := hSb.come; rw [HC.out] at h; exact h, hSb.ob.cut, hSb.obits, hSb.ofrom, hSb.nb, hSb.nf, hSb.size⟩)
          have hcap : b'.length + 1 ≤ cap := by have := ownI_le hSb.ob; simpa using this
          have hl0 : 0 < b'.length := List.length_pos_iff.2 hb1
          have hl1 : ¬ (b'.length : Int) = 0 := by omega
          have hl2 : ((b'.length : Int) == 0) = false := by rw [beq_eq_false_iff_ne]; omega
          have hll : (b' ++ [(Y : Int)]).length = b'.length + 1 := by simp
          rw [hll] at hbl hOb ⊢
          have hYz : (Y : Int) < (N : Int) := by omega
          clear hll hst' hdis hb1 hSb
          generalize setM N a (Y : Int) = M2 at *
          go_wp2_with fail
          go_region
          all_goals
            go_wp2_with fail
            refine ⟨⟨g, cap, Y + 1, b', pre', rfl, rfl, rfl, by omega, by omega, ?_, ?_⟩, ?_⟩
            · exact HS'.out
            · exact HHJ.out _ _ _ hJb (Below.refl _ _).drew
            · rw [show (b' ++ [(Y : Int)]).length = b'.length + 1 by simp, msrW_own hOb.out (by simp), show (Y : Int) + 1 = ((Y + 1 : Nat) : Int) from rfl, msrW_own HS'.out.ob rfl]
              exact HMs.out
end Go.Proofs.Ytiplnfggiffngaa
