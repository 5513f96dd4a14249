/- The model's HoleMeet. -/
import Derived.Test.YtelgmmnjndinhaaS22
namespace Go.Proofs.Ytelgmmnjndinhaa
open Go.RowKit
theorem wpList_append_own_g {P : Program} {w : World} {ops : Array Oper} {rest : List Oper} {o : Oper} {a : Act} {Q : Exit → Act → World → Prop} (hgd : Region.wanted o (yielded ops a.tmps) = true) (s x : Operand) (t : TypeId)
    (ho : o.op = .call { callee := .builtin .append, args := #[s, x], argTypes := #[t, t] })
    (base : Nat) (e : TypeId) (i : TypeInfo) (z : Value) (size bytes : Nat) (ht : P.underlying t = some (.slice e)) (hi : P.info? e = some i) (hz : i.zero = some z)
    (hsize : i.size = size) (hby : i.bytes = bytes) (hzs : z.cells.size = size) (hsz : 0 < size)
    (v : Value) (n : Nat) (xs : List Value) (hs : a.eval s = v) (hown : w.ownsRow base e size v n xs)
    (ad : Addr) (m c : Nat) (news : List Value) (hx : a.eval x = .slice (some ad) m c) (hl : news.length = m * size) (hnews : ∀ j u, news[j]? = some u → w.cell? (ad.add j) = some u) (h1 : ∀ u ∈ news, u.oneCell' = true)
    (h63 : n + m ≤ maxLen) (hbytes : (n + m) * bytes ≤ 140737488355328) (hbase : base ≤ w.heap.size)
    (h : ∀ v' w', w'.ownsRow base e size v' (n + m) (xs ++ news) → w.grownBy w' v.ownBlock → (v' = .slice none 0 0 ↔ v = .slice none 0 0 ∧ m = 0) → wpList P ops Q rest (a.put o.dst v') w') : wpList P ops Q (o :: rest) a w :=
  wpList_step fun K hK => by
    rw [if_pos hgd]
    exact wp_append_own w s x t ho base e i z size bytes ht hi hz hsize hby hzs hsz v n xs hs hown ad m c news hx hl hnews h1 h63 hbytes hbase fun v' w' h2 h3 h4 => hK _ _ (h v' w' h2 h3 h4)
theorem row_set {w : World} {base g k n : Nat} {e : TypeId} {v : Value} {xs : List Value} (h : w.ownsRow base e k v n xs) (hne : v.ownBlock ≠ some g) (i j : Nat) (a b : Value) : ((w.setCell ⟨g, i, none⟩ a).setCell ⟨g, j, none⟩ b).ownsRow base e k v n xs :=
  h.kept (grown_set (grown_set (World.grownBy.refl _ _) _ _) _ _) (.inr hne)
theorem bel_set {w w5 : World} {g : Nat} (h : Below w.heap.size w w5) (hg : w.heap.size ≤ g) (i j : Nat) (a b : Value) : Below w.heap.size w ((w5.setCell ⟨g, i, none⟩ a).setCell ⟨g, j, none⟩ b) := (h.setCell hg _).setCell hg _
theorem set_two {w5 : World} {g : Nat} {a b a' b' : Value} (h0 : w5.cell? ⟨g, 0, none⟩ = some a) (h1 : w5.cell? ⟨g, 1, none⟩ = some b) : ((w5.setCell ⟨g, 0, none⟩ a').setCell ⟨g, 1, none⟩ b').cell? ⟨g, 0, none⟩ = some a' ∧ ((w5.setCell ⟨g, 0, none⟩ a').setCell ⟨g, 1, none⟩ b').cell? ⟨g, 1, none⟩ = some b' := by
  constructor
  · rw [cell_other (by simp)]
    rw [World.cell?_setCell_same' _ _ _ (by rw [h0]; rfl)]
  · rw [World.cell?_setCell_same' _ _ _ (by rw [cell_other (by simp), h1]; rfl)]
set_option maxRecDepth 20000 in
set_option maxHeartbeats 2000000 in
theorem c_specHoleMeet (s t : Option Addr) (n m c1 c2 : Nat) (zs ys : List Cl) (hn : n ≤ 1048576) (hm : m ≤ 1048576) (w : World) (hc : Cls w s n zs) (hd : Cls w t m ys) :
    Calls Try.prog 42 #[.slice s n c1, .slice t m c2] w (RetC w (hmeR zs ys) (hmeB zs ys)) := by
  have hb1 : Below w.heap.size w (w.alloc (.cells #[] 45)) := ba (Below.refl _ _) _
  have hO1 : OwnC (w.alloc (.cells #[] 45)) w.heap.size 45 (.slice (some ⟨w.heap.size, 0, none⟩) 0 0) [] := World.ownsRow_lit w #[] 0 (Nat.le_refl _) (by unfold maxLen; omega) rfl
  have hc1 := hc.keep hb1
  have hd1 := hd.keep hb1
  have hz1 : w.heap.size < (w.alloc (.cells #[] 45)).heap.size := by simp
  have hcon := c_specSystemIn s n c1 zs hn _ hc1
  cases hs : sysB zs
  · have H1 := Lib.hid (show hmeB zs ys = false by simp [hmeB, comB, hs])
    have H2 := Lib.hid (show hmeR zs ys = [] by simp [hmeR, hmeB, comB, hs])
    rw [hs] at hcon
    go_enter Try.func42, Try.ntmps42
    go_wp2_with fail
    generalize w.alloc (.cells #[] 45) = W1 at *
    go_wp2_with (go_at_call 44; refine hcon.mono ?_; rintro e w2 ⟨rfl, hb⟩; have hO2 := hO1.keep hb)
    go_ret2
    rw [H1.out, H2.out]
    exact ⟨_, rfl, hO2, bt2 hb1 hb⟩
  · rw [hs] at hcon
    cases ht : sysB ys
    · have H1 := Lib.hid (show hmeB zs ys = false by simp [hmeB, comB, ht])
      have H2 := Lib.hid (show hmeR zs ys = [] by simp [hmeR, hmeB, comB, ht])
      go_enter Try.func42, Try.ntmps42
      go_wp2_with fail
      generalize w.alloc (.cells #[] 45) = W1 at *
      go_wp2_with fail
      refine hcon.mono ?_
      rintro e w2 ⟨rfl, hb⟩
      have hO2 := hO1.keep hb
      have hd2 := hd1.keep hb
      have hcon2 := c_specSystemIn t m c2 ys hm _ hd2
      rw [ht] at hcon2
      go_wp2_with (go_at_call 44; refine hcon2.mono ?_; rintro e w3 ⟨rfl, hb3⟩; have hO3 := hO2.keep hb3)
      go_ret2
      rw [H1.out, H2.out]
      exact ⟨_, rfl, hO3, bt2 (bt2 hb1 hb) hb3⟩
    · obtain ⟨hl1, hl2, ha, _, _, _⟩ := sysB_facts hs
      obtain ⟨kl1, kl2, ka, _, _, _⟩ := sysB_facts ht
      have hlen := hc.len
      have klen := hd.len
      have hpb := per_both hs ht
      obtain ⟨i0, hi, hz0, hz1', hz2⟩ := info_parts infoC
      have HAA := Lib.hid (allB_app ha ka)
      have HA := Lib.hid (fun i (h : i < n) => allB_at ha i (by rw [hlen]; exact h))
      have KA := Lib.hid (fun j (h : j < m) => allB_at ka j (by rw [klen]; exact h))
      have hn8 : n ≤ 8 := by omega
      have hm8 : m ≤ 8 := by omega
      have hn1 : 1 ≤ n := by omega
      have hm1 : 1 ≤ m := by omega
      have HL := Lib.hid hlen
      have KL := Lib.hid klen
      have HO1 := Lib.hid (cells2_oc zs)
      have HO2 := Lib.hid (cells2_oc ys)
      have HN1 := Lib.hid (show (cells2 zs).length = n * 2 by rw [cells2_length, hlen])
      have HN2 := Lib.hid (show (cells2 ys).length = m * 2 by rw [cells2_length, klen])
      have HM := Lib.hid (fun i (h : i ≤ n) => show (mall zs ys i).length ≤ 64 by
        have h1 := mall_le zs ys i
        have h2 : i * ys.length ≤ 8 * 8 := Nat.mul_le_mul (by omega) (by omega)
        omega)
      have HR := Lib.hid (fun i j (h : j ≤ m) => show (mrow (rAt zs i, mAt zs i) ys j).length ≤ 8 by
        have h1 := mrow_le (rAt zs i, mAt zs i) ys j
        omega)
      rcases hc.lies with h0 | ⟨b1, o1, rfl, hb1', _⟩
      · omega
      rcases hd.lies with h0 | ⟨b2, o2, rfl, hb2', _⟩
      · omega
      clear ha ka hl1 hl2 kl1 kl2 hlen klen
      go_enter Try.func42, Try.ntmps42
      go_wp2_with fail
      generalize w.alloc (.cells #[] 45) = W1 at *
      go_wp2_with fail
      refine hcon.mono ?_
      rintro e w2 ⟨rfl, hb⟩
      have hO2 := hO1.keep hb
      have hd2 := hd1.keep hb
      have hc2 := hc1.keep hb
      have hcon2 := c_specSystemIn _ m c2 ys hm _ hd2
      rw [ht] at hcon2
      go_wp2_with fail
      refine hcon2.mono ?_
      rintro e w3 ⟨rfl, hb3⟩
      have hO3 := hO2.keep hb3
      have hB3 := bt2 (bt2 hb1 hb) hb3
      have hc3 := hc2.keep hb3
      have hd3 := hd2.keep hb3
      have hw3 : w.heap.size < w3.heap.size := by have := hb.size; have := hb3.size; omega
      have hO4 : (w3.alloc (.cells #[] 45)).ownsRow w3.heap.size 45 2 (.slice (some ⟨w3.heap.size, 0, none⟩) 0 0) 0 [] := World.ownsRow_lit w3 #[] 0 (Nat.le_refl _) (by unfold maxLen; omega) rfl
      have hB4 := ba hB3 (.cells #[] 45)
      have hc4 := hc3.keep (ba (Below.refl _ _) (.cells #[] 45))
      have hd4 := hd3.keep (ba (Below.refl _ _) (.cells #[] 45))
      have hOx4 : OwnC (w3.alloc (.cells #[] 45)) w.heap.size 45 (.slice (some ⟨w.heap.size, 0, none⟩) 0 0) [] := hO3.keep (ba (Below.refl _ _) (.cells #[] 45))
      have hs4 : w3.heap.size ≤ (w3.alloc (.cells #[] 45)).heap.size := by simp
      have HC1 := Lib.hid (cls_at hc4 (by omega))
      have hne2 : w3.heap.size ≠ b2 := by omega
      have hs3 := hB3.size
      have hz : ∀ j, some w3.heap.size = some j → w.heap.size ≤ j := fun j hj => by cases hj; exact hs3
      go_wp2_with (first
        | (at_builtin; refine wpList_append_own_g rfl _ _ 27 rfl w3.heap.size 45 i0 (.agg #[.int .i64 0, .int .i64 0]) 2 16 Try.underlying27 hi hz0 hz1' hz2 rfl (by decide) (.slice (some ⟨w3.heap.size, 0, none⟩) 0 0) 0 [] rfl hO4 ⟨b1, o1, none⟩ n c1 (cells2 zs) rfl HN1.out HC1.out HO1.out (by unfold maxLen; omega) (by omega) hs4 ?_; intro v5 w5 hown5 hgrow5 _; have hd5 : Cls w5 (some ⟨b2, o2, none⟩) m ys := hd4.other hgrow5 hne2; have HC2 := Lib.hid (cls_at hd5 (by omega)); have hB5 : Below w.heap.size w w5 := hB4.grown hgrow5 (Nat.le_trans hs3 hs4) hz; have hs5 : w3.heap.size ≤ w5.heap.size := Nat.le_trans hs4 hgrow5.size; have hl5 := fun g e => (hown5.lt g e).1; have hOx5 : OwnC w5 w.heap.size 45 (.slice (some ⟨w.heap.size, 0, none⟩) 0 0) [] := hOx4.other hgrow5 (.inr (by simp [Value.ownBlock]; omega)))
        | (at_builtin; refine wpList_append_own_g rfl _ _ 27 rfl w3.heap.size 45 i0 (.agg #[.int .i64 0, .int .i64 0]) 2 16 Try.underlying27 hi hz0 hz1' hz2 rfl (by decide) v5 (0 + n) ([] ++ cells2 zs) rfl hown5 ⟨b2, o2, none⟩ m c2 (cells2 ys) rfl HN2.out HC2.out HO2.out (by unfold maxLen; omega) (by omega) hs5 ?_; intro v7 w7 hown7 hgrow7 _; have hOx7 : OwnC w7 w.heap.size 45 (.slice (some ⟨w.heap.size, 0, none⟩) 0 0) [] := hOx5.other hgrow7 (.inr (fun e => by have := hl5 w.heap.size e.symm; omega)))
        | fail)
      have hB7 : Below w.heap.size w w7 := hB5.grown hgrow7 hB5.size (fun j e => Nat.le_trans hs3 (hl5 j e))
      have hO7 : OwnC w7 w3.heap.size 45 v7 (zs ++ ys) := by
        unfold OwnC
        rw [List.length_append, HL.out, KL.out, cells2_append]
        simpa using hown7
      obtain ⟨s7, cap7, rfl, hC7, _⟩ := hO7.spread
      have hlp := c_l2Period s7 (zs ++ ys).length cap7 (zs ++ ys) (by rw [List.length_append, HL.out, KL.out]; omega) HAA.out _ hC7
      rw [hpb] at hlp
      clear hown5 hown7 hgrow5 hgrow7 hO4 hO7 hC7 hOx4 hOx5 hO3 hO2 hO1 hcon hcon2 hB5 hB4 hpb
      cases hB : comB zs ys
      · have H1 := Lib.hid (show hmeB zs ys = false by simp [hmeB, hB])
        have H2 := Lib.hid (show hmeR zs ys = [] by simp [hmeR, hmeB, hB])
        rw [hB] at hlp
        simp only [selI, cond_false] at hlp
        refine hlp.mono ?_
        rintro e w8 ⟨nq, rfl, rfl⟩
        have hB8 := bel_drewN hB7 nq
        have hO8 : OwnC (w7.drewN nq) w.heap.size 45 (.slice (some ⟨w.heap.size, 0, none⟩) 0 0) [] := hOx7
        generalize w7.drewN nq = w8 at *
        clear hlp hB7 hOx7
        go_wp2_with fail
        go_ret2
        rw [H1.out, H2.out]
        exact ⟨_, rfl, hO8, hB8⟩
      · obtain ⟨_, _, M1, M2⟩ := com_bd hB
        rw [hB] at hlp
        simp only [selI, cond_true] at hlp
        refine hlp.mono ?_
        rintro e w8 ⟨nq, rfl, rfl⟩
        have hB8 := bel_drewN hB7 nq
        have hO8 : (w7.drewN nq).ownsRow w.heap.size 45 2 (.slice (some ⟨w.heap.size, 0, none⟩) 0 0) 0 [] := hOx7
        generalize w7.drewN nq = w8 at *
        clear hlp hB7 hOx7
        have hne0 : (comI zs ys == 0) = false := by simp; omega
        generalize comI zs ys = CI at *
        go_wp2_with fail
        go_loopw [6, 7] (fun v q wr => ∃ (i : Nat), i ≤ n ∧ q = .int .i64 i ∧ wr.ownsRow w.heap.size 45 2 v (mall zs ys i).length (cells2 (mall zs ys i)) ∧ Below w.heap.size w wr) (fun _ q _ => n - (intOf q).toNat)
        case atStart => exact ⟨0, Nat.zero_le _, rfl, hO8, hB8⟩
        case round =>
          clear hO8 hB8
          obtain ⟨i, hi', rfl, hO, hBr⟩ := hrel
          by_cases hlt : i < n
          · have HI := Lib.hid (HA.out i hlt)
            go_wp2_with fail
            go_loopw [6, 8] (fun v q wr => ∃ (j : Nat), j ≤ m ∧ q = .int .i64 j ∧ wr.ownsRow w.heap.size 45 2 v (mall zs ys i ++ mrow (rAt zs i, mAt zs i) ys j).length (cells2 (mall zs ys i ++ mrow (rAt zs i, mAt zs i) ys j)) ∧ Below w.heap.size w wr) (fun _ q _ => m - (intOf q).toNat)
            case atStart => exact ⟨0, Nat.zero_le _, rfl, by simpa [mrow] using hO, hBr⟩
            case round =>
              clear hO hBr
              obtain ⟨j, hj, rfl, hO2, hB2⟩ := hrel
              by_cases hlj : j < m
              · rcases (hc.keep hB2).lies with h0 | ⟨b1', o1', e1, hbw1, hcells⟩
                · omega
                simp only [Option.some.injEq, Addr.mk.injEq, and_true] at e1
                obtain ⟨rfl, rfl⟩ := e1
                rcases (hd.keep hB2).lies with h0 | ⟨b2', o2', e2, hbw2, dcells⟩
                · omega
                simp only [Option.some.injEq, Addr.mk.injEq, and_true] at e2
                obtain ⟨rfl, rfl⟩ := e2
                obtain ⟨x0, x1⟩ := hcells i hlt
                obtain ⟨y0, y1⟩ := dcells j hlj
                clear hcells dcells
                have HJ := Lib.hid (KA.out j hlj)
                have hne1 : wr.heap.size ≠ b1 := by omega
                have hne2' : wr.heap.size ≠ b2 := by omega
                have hl1 := HM.out i (by omega)
                have hl2 := HR.out i j (by omega)
                have hnw : u6.ownBlock ≠ some wr.heap.size := fun e => by have := (hO2.lt _ e).2; omega
                have hll : (mall zs ys i ++ mrow (rAt zs i, mAt zs i) ys j).length ≤ 72 := by rw [List.length_append]; omega
                cases hmt : metB (mAt zs i) (rAt ys j) (mAt ys j) (rAt zs i)
                · have HK := Lib.hid (show mrow (rAt zs i, mAt zs i) ys (j + 1) = mrow (rAt zs i, mAt zs i) ys j by simp only [mrow, hmt, cond_false])
                  go_wp2_with fail
                  go_region_held3 (fun w' => w'.cell? ⟨b1, o1 + i * 2, none⟩ = some (.int .i64 (rAt zs i)) ∧ w'.cell? ⟨b1, o1 + i * 2 + 1, none⟩ = some (.int .i64 (mAt zs i)) ∧ w'.cell? ⟨b2, o2 + j * 2, none⟩ = some (.int .i64 (rAt ys j)) ∧ w'.cell? ⟨b2, o2 + j * 2 + 1, none⟩ = some (.int .i64 (mAt ys j))) (go_keep) (first | (go_at_call 65; refine (c_l1Meet _ _ _ _ HI.out HJ.out _).mono ?_; rintro e w5 ⟨rfl, hb5⟩; have g0 := keepc hb5 (a := ⟨b1, o1 + i * 2, none⟩) (v := .int .i64 (rAt zs i)) (by go_keep); have g1 := keepc hb5 (a := ⟨b1, o1 + i * 2 + 1, none⟩) (v := .int .i64 (mAt zs i)) (by go_keep); have g2 := keepc hb5 (a := ⟨b2, o2 + j * 2, none⟩) (v := .int .i64 (rAt ys j)) (by go_keep); have g3 := keepc hb5 (a := ⟨b2, o2 + j * 2 + 1, none⟩) (v := .int .i64 (mAt ys j)) (by go_keep); have hne3 : w5.heap.size ≠ b1 := World.new_ne w5 ⟨b1, o1 + i * 2, none⟩ g0; have hne4 : w5.heap.size ≠ b2 := World.new_ne w5 ⟨b2, o2 + j * 2, none⟩ g2; (try (have nb := newbox2 hb5; obtain ⟨n0, n1, n2, n3, n4⟩ := nb))))
                  all_goals
                    go_wp2_with fail
                    go_roundw
                    case rel => exact ⟨j + 1, by omega, by go_num, by rw [HK.out]; first | exact (row_keep hO2.drew hb5).alloc _ | exact row_set (row_keep (hO2.alloc _).drew hb5) hnw _ _ _ _, by first | exact ba (bt2 hB2.drew hb5) _ | exact bel_set (bt2 (ba hB2 _).drew hb5) hB2.size _ _ _ _⟩
                    case measure => simp [intOf]; omega
                · have HK := Lib.hid (show mrow (rAt zs i, mAt zs i) ys (j + 1) = mrow (rAt zs i, mAt zs i) ys j ++ [(metX (mAt zs i) (rAt ys j) (mAt ys j) (rAt zs i), lcmI (mAt zs i) (mAt ys j))] by simp only [mrow, hmt, cond_true])
                  have hst : ∀ x : Int, selI true x = x := fun _ => rfl
                  go_wp2_with fail
                  go_region_held3 (fun w' => w'.cell? ⟨b1, o1 + i * 2, none⟩ = some (.int .i64 (rAt zs i)) ∧ w'.cell? ⟨b1, o1 + i * 2 + 1, none⟩ = some (.int .i64 (mAt zs i)) ∧ w'.cell? ⟨b2, o2 + j * 2, none⟩ = some (.int .i64 (rAt ys j)) ∧ w'.cell? ⟨b2, o2 + j * 2 + 1, none⟩ = some (.int .i64 (mAt ys j))) (go_keep) (first | (go_at_call 65; refine (c_l1Meet _ _ _ _ HI.out HJ.out _).mono ?_; rintro e w5 ⟨rfl, hb5⟩; have g0 := keepc hb5 (a := ⟨b1, o1 + i * 2, none⟩) (v := .int .i64 (rAt zs i)) (by go_keep); have g1 := keepc hb5 (a := ⟨b1, o1 + i * 2 + 1, none⟩) (v := .int .i64 (mAt zs i)) (by go_keep); have g2 := keepc hb5 (a := ⟨b2, o2 + j * 2, none⟩) (v := .int .i64 (rAt ys j)) (by go_keep); have g3 := keepc hb5 (a := ⟨b2, o2 + j * 2 + 1, none⟩) (v := .int .i64 (mAt ys j)) (by go_keep); have hne3 : w5.heap.size ≠ b1 := World.new_ne w5 ⟨b1, o1 + i * 2, none⟩ g0; have hne4 : w5.heap.size ≠ b2 := World.new_ne w5 ⟨b2, o2 + j * 2, none⟩ g2; (try (have nb := newbox2 hb5; obtain ⟨n0, n1, n2, n3, n4⟩ := nb))))
                  all_goals
                    generalize metX (mAt zs i) (rAt ys j) (mAt ys j) (rAt zs i) = X at *
                    generalize lcmI (mAt zs i) (mAt ys j) = Y at *
                    first
                      | (have hO6 : (w5.alloc (.cells #[.int .i64 X, .int .i64 Y] 45)).ownsRow w.heap.size 45 2 u6 _ _ := (row_keep hO2.drew hb5).alloc _
                         have hB6 := ba (bt2 hB2.drew hb5) (.cells #[.int .i64 X, .int .i64 Y] 45)
                         have c0 : (w5.alloc (.cells #[.int .i64 X, .int .i64 Y] 45)).cell? ⟨w5.heap.size, 0, none⟩ = some (.int .i64 X) := kc (Below.refl _ _) 0
                         have c1 : (w5.alloc (.cells #[.int .i64 X, .int .i64 Y] 45)).cell? ⟨w5.heap.size, 1, none⟩ = some (.int .i64 Y) := kc (Below.refl _ _) 1
                         generalize w5.alloc (.cells #[.int .i64 X, .int .i64 Y] 45) = W6 at *)
                      | (have hO6 : ((w5.setCell ⟨wr.heap.size, 0, none⟩ (.int .i64 X)).setCell ⟨wr.heap.size, 1, none⟩ (.int .i64 Y)).ownsRow w.heap.size 45 2 u6 _ _ := row_set (row_keep (hO2.alloc _).drew hb5) hnw _ _ _ _
                         have hB6 := bel_set (bt2 (ba hB2 _).drew hb5) hB2.size 0 1 (.int .i64 X) (.int .i64 Y)
                         have c0 := (set_two (a' := .int .i64 X) (b' := .int .i64 Y) n0 n1).1
                         have c1 := (set_two (a' := .int .i64 X) (b' := .int .i64 Y) n0 n1).2
                         generalize (w5.setCell ⟨wr.heap.size, 0, none⟩ (.int .i64 X)).setCell ⟨wr.heap.size, 1, none⟩ (.int .i64 Y) = W6 at *)
                    have hs6 := hB6.size
                    clear g0 g1 g2 g3 x0 x1 y0 y1
                    go_wp2_with (at_builtin; refine wpList_append_own _ rfl _ _ 27 rfl w.heap.size 45 i0 (.agg #[.int .i64 0, .int .i64 0]) 2 16 Try.underlying27 hi hz0 hz1' hz2 rfl (by decide) u6 _ _ rfl (hO6.alloc _) ⟨W6.heap.size, 0, none⟩ 1 1 [.int .i64 X, .int .i64 Y] rfl rfl (two_new W6 _ _ _) (by simp [Value.oneCell']) (by unfold maxLen; omega) (by omega) (by simp; omega) ?_; intro v7 w7 hown7 hgrow7 _)
                    have hB7 : Below w.heap.size w w7 := (ba hB6 _).grown hgrow7 (by simp; omega) (fun g e => (hO6.lt g e).1)
                    have HO7 := Lib.hid (show w7.ownsRow w.heap.size 45 2 v7 (mall zs ys i ++ mrow (rAt zs i, mAt zs i) ys (j + 1)).length (cells2 (mall zs ys i ++ mrow (rAt zs i, mAt zs i) ys (j + 1))) by
                      rw [HK.out, ← List.append_assoc, cells2_append, List.length_append (bs := [(X, Y)])]
                      exact hown7)
                    go_roundw
                    case rel => exact ⟨j + 1, by omega, by go_num, HO7.out, hB7⟩
                    case measure => simp [intOf]; omega
              · have hj' : j = m := by omega
                subst hj'
                have HO8 := Lib.hid (show wr.ownsRow w.heap.size 45 2 u6 (mall zs ys (i + 1)).length (cells2 (mall zs ys (i + 1))) by
                  rw [mall, KL.out]
                  exact hO2)
                go_wp2_with fail
                go_roundw
                case rel => exact ⟨i + 1, by omega, by go_num, HO8.out, hB2⟩
                case measure => simp [intOf]; omega
          · have hi'' : i = n := by omega
            subst hi''
            have HE := Lib.hid (show mall zs ys i = hmeL zs ys by unfold hmeL; rw [HL.out])
            have hOC : OwnC wr w.heap.size 45 u6 (hmeL zs ys) := by
              rw [HE.out] at hO
              exact hO
            have hl1 := HM.out i (Nat.le_refl _)
            rw [HE.out] at hl1
            obtain ⟨s8, k8, rfl, hC8, _⟩ := hOC.spread
            have hcon2 := c_specSystemIn s8 (hmeL zs ys).length k8 (hmeL zs ys) (by omega) wr hC8
            cases hS : sysB (hmeL zs ys)
            · have H1 := Lib.hid (show hmeB zs ys = false by simp [hmeB, hS])
              have H2 := Lib.hid (show hmeR zs ys = [] by simp [hmeR, hmeB, hS])
              rw [hS] at hcon2
              clear hO
              go_wp2_with (go_at_call 44; refine hcon2.mono ?_; rintro e w9 ⟨rfl, hb9⟩)
              have hB9 := bt2 hBr hb9
              have hO9 : OwnC (w9.alloc (.cells #[] 45)) w.heap.size 45 (.slice (some ⟨w9.heap.size, 0, none⟩) 0 0) [] := World.ownsRow_lit w9 #[] 0 hB9.size (by unfold maxLen; omega) rfl
              go_ret2
              rw [H1.out, H2.out]
              exact ⟨_, rfl, hO9, ba hB9 _⟩
            · have H1 := Lib.hid (show hmeB zs ys = true by simp [hmeB, hS, hB])
              have H2 := Lib.hid (show hmeR zs ys = hmeL zs ys by simp [hmeR, hmeB, hS, hB])
              rw [hS] at hcon2
              clear hO
              go_wp2_with (go_at_call 44; refine hcon2.mono ?_; rintro e w9 ⟨rfl, hb9⟩)
              go_ret2
              rw [H1.out, H2.out]
              exact ⟨_, rfl, hOC.keep hb9, bt2 hBr hb9⟩
end Go.Proofs.Ytelgmmnjndinhaa
