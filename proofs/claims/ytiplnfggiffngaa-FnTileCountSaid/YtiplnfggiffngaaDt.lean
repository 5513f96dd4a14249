/- Contracts of what the laws of chapter 7 draw: circles and tiles. -/
import Derived.Test.YtiplnfggiffngaaD5
import Derived.Test.YtiplnfggiffngaaTc
import Derived.Test.YtiplnfggiffngaaRow
namespace Go.Proofs.Ytiplnfggiffngaa
open Go.RowKit
theorem quo7 {x n : Int} (h0 : 0 ≤ x) (h1 : x < 2 * n) (hn : 1 ≤ n) : x.tdiv n = x / n ∧ 0 ≤ x / n ∧ x / n ≤ 1 := by
  refine ⟨Int.tdiv_eq_ediv_of_nonneg h0, Int.ediv_nonneg h0 (by omega), ?_⟩
  have := Int.ediv_lt_of_lt_mul (show 0 < n by omega) h1
  omega
theorem rowV_oth {w w' : World} {B base size n : Nat} {e : TypeId} {v : Value} {xs : List Value} (h : w.ownsRow base e size v n xs) (k : Oth B w w') (hb : B < base) : w'.ownsRow base e size v n xs := by
  refine ⟨h.1, ?_⟩
  rcases h.2 with h2 | ⟨g, cap, cur, hv, hg, hh, r⟩
  · exact .inl h2
  · exact .inr ⟨g, cap, cur, hv, hg, by rw [k.block g (block_lt hh) (by omega)]; exact hh, r⟩
/-- flags of a list of places -/
theorem flags_mks (bs : List Bool) : ∃ l : List Int, bs = mks bs.length l := by
  refine ⟨((List.range bs.length).filter fun j => bs[j]?.getD false).map fun j : Nat => (j : Int), ?_⟩
  apply List.ext_getElem?
  intro j
  by_cases hj : j < bs.length
  · unfold mks
    rw [List.getElem?_map, List.getElem?_range hj]
    have hm : (((j : Int) ∈ List.map (fun j : Nat => (j : Int)) (List.filter (fun j => bs[j]?.getD false) (List.range bs.length)))) ↔ bs[j] = true := by
      simp only [List.mem_map, List.mem_filter, List.mem_range]
      constructor
      · rintro ⟨k, ⟨hk, hb⟩, e⟩
        have : k = j := by omega
        subst this
        simpa [hj] using hb
      · intro hb
        exact ⟨j, ⟨hj, by simpa [hj] using hb⟩, rfl⟩
    rw [List.getElem?_eq_getElem hj]
    simp only [Option.map_some, Option.some.injEq]
    cases hb : bs[j] with
    | true => exact (decide_eq_true (hm.2 hb)).symm
    | false => exact (decide_eq_false fun e => by rw [hm.1 e] at hb; cases hb).symm
  · rw [List.getElem?_eq_none (by omega), List.getElem?_eq_none (by rw [mks_length]; omega)]
/-- in the middle of a draw: flags of the call's own, and the reader -/
def TJ (b0 B g N pm : Nat) (s : Option Addr) (len : Nat) (w wr : World) : Prop :=
  ∃ (bs : List Bool) (p : Nat), bs.length = N ∧ OwnV wr w.heap.size 4 (.slice (some ⟨g, 0, none⟩) N N) (flg bs) ∧ Rd b0 wr B s len p ∧ p ≤ pm ∧ Oth B w wr ∧ B < w.heap.size
theorem TJ.made {b0 B N p : Nat} {s : Option Addr} {len : Nat} {w w2 w3 : World} (hown : w3.ownsRow w.heap.size 4 1 (.slice (some ⟨w2.heap.size, 0, none⟩) N N) N (madeCells #[.bool false] (N * 1)).toList) (hgrow : w2.grownBy w3 none) (hR : Rd b0 w2 B s len (p + 1)) (hT : Oth B w w2) (hB : B < w.heap.size) : TJ b0 B w2.heap.size N (p + 1) s len w w3 := by
  refine ⟨List.replicate N false, p + 1, by simp, ?_, ?_, by omega, ?_, hB⟩
  · show w3.ownsRow _ _ _ _ _ _
    rw [flg, List.map_replicate, List.length_replicate, ← madeV]
    exact hown
  · exact hR.keep fun k hk => hgrow.block k (by have := hR.lt; omega) (by simp)
  · exact hT.trans ⟨hgrow.os, hgrow.tape, hgrow.output, hgrow.size, fun k hk _ => hgrow.block k hk (by simp)⟩
theorem TJ.flag {b0 B g N pm : Nat} {s : Option Addr} {len : Nat} {w wr : World} (h : TJ b0 B g N pm s len w wr) (i : Nat) (hi : i < N) :
    (∃ b, wr.cell? ⟨g, i, none⟩ = some (.bool b)) ∧ wr.frozen? ⟨g, i, none⟩ = false ∧ ∀ b, TJ b0 B g N pm s len w (wr.setCell ⟨g, i, none⟩ (.bool b)) := by
  obtain ⟨bs, p, hl, hO, hR, hp, hT, hB⟩ := h
  have hml : (flg bs).length = N := by simp [flg, hl]
  refine ⟨⟨bs[i]?.getD false, ?_⟩, hO.free hml i, fun b => ?_⟩
  · rw [hO.cell hml i hi]
    simp [flg, show i < bs.length by omega]
  · have hg : B < g := by have := hO.lt.1; omega
    refine ⟨bs.set i b, p, by simpa using hl, ?_, hR.setNew hg _, hp, hT.setNew (by have := hO.lt.1; exact this) _, hB⟩
    have := hO.store hml i (.bool b)
    rw [show (flg bs).set i (.bool b) = flg (bs.set i b) by simp [flg, List.map_set]] at this
    exact this
theorem TJ.picked {b0 B g N pm q : Nat} {s : Option Addr} {len : Nat} {w wr w' : World} (h : TJ b0 B g N pm s len w wr) (hO' : Oth B wr w') (hR' : Rd b0 w' B s len q) (hq : q ≤ pm + 1) : TJ b0 B g N (pm + 1) s len w w' := by
  obtain ⟨bs, p, hl, hO, hR, hp, hT, hB⟩ := h
  exact ⟨bs, q, hl, rowV_oth hO hO' hB, hR', hq, hT.trans hO', hB⟩
theorem TJ.fin {b0 B g N pm : Nat} {s : Option Addr} {len : Nat} {w wr : World} (h : TJ b0 B g N pm s len w wr) : ∃ (l : List Int) (p : Nat), OwnV wr w.heap.size 4 (.slice (some ⟨g, 0, none⟩) N N) (flg (mks N l)) ∧ Rd b0 wr B s len p ∧ p ≤ pm ∧ Oth B w wr := by
  obtain ⟨bs, p, hl, hO, hR, hp, hT, hB⟩ := h
  obtain ⟨l, hm⟩ := flags_mks bs
  rw [hl] at hm
  exact ⟨l, p, by rw [← hm]; exact hO, hR, hp, hT⟩
theorem lit_own7 {w w2 : World} {zs : List Int} {n : Nat} {cs : Array Value} (h : w.heap.size ≤ w2.heap.size) (hn : zs.length = n) (hm : n ≤ 100) (hc : cs.toList = zs.map (Value.int .i64)) : OwnI (w2.alloc (.cells cs 3)) w.heap.size 3 (.slice (some ⟨w2.heap.size, 0, none⟩) n n) zs := by
  subst hn
  have := World.ownsRow_lit (base := w.heap.size) (e := 3) (size := 1) w2 cs zs.length h (by unfold maxLen; omega) (by rw [← Array.length_toList, hc, List.length_map, Nat.mul_one])
  unfold OwnI
  rw [← hc]
  exact this
theorem TJ.rd {b0 B g N pm : Nat} {s : Option Addr} {len : Nat} {w wr : World} (h : TJ b0 B g N pm s len w wr) : ∃ p, Rd b0 wr B s len p ∧ p ≤ pm := by
  obtain ⟨bs, p, hl, hO, hR, hp, hT, hB⟩ := h
  exact ⟨p, hR, hp⟩
theorem TJ.more {b0 B g N pm pm' : Nat} {s : Option Addr} {len : Nat} {w wr : World} (h : TJ b0 B g N pm s len w wr) (hm : pm ≤ pm') : TJ b0 B g N pm' s len w wr := by
  obtain ⟨bs, p, hl, hO, hR, hp, hT, hB⟩ := h
  exact ⟨bs, p, hl, hO, hR, by omega, hT, hB⟩
theorem TJ.drew {b0 B g N pm : Nat} {s : Option Addr} {len : Nat} {w wr : World} (h : TJ b0 B g N pm s len w wr) : TJ b0 B g N pm s len w wr.drew := by
  obtain ⟨bs, p, hl, hO, hR, hp, hT, hB⟩ := h
  exact ⟨bs, p, hl, hO, hR.drew, hp, hT.drew, hB⟩
theorem TJ.drewN {b0 B g N pm : Nat} {s : Option Addr} {len : Nat} {w wr : World} (h : TJ b0 B g N pm s len w wr) (n : Nat) : TJ b0 B g N pm s len w (wr.drewN n) := by
  obtain ⟨bs, p, hl, hO, hR, hp, hT, hB⟩ := h
  exact ⟨bs, p, hl, hO, hR.drewN n, hp, hT.drewN n, hB⟩
/-- a circle and a list of places are drawn -/
def DrTile (b0 B : Nat) (s : Option Addr) (len p : Nat) (w : World) (e : Ending) (w' : World) : Prop :=
  ∃ (n : Int) (v : Value) (zs : List Int) (p' : Nat), 1 ≤ n ∧ n ≤ 24 ∧ zs.length ≤ 24 ∧ e = .returned (.tuple #[.int .i64 n, v]) ∧ OwnI w' w.heap.size 3 v zs ∧ Rd b0 w' B s len p' ∧ p' ≤ p + 40 ∧ Oth B w w'
theorem nat_of {M : Int} (h : 4 ≤ M) : ∃ N : Nat, M = (N : Int) ∧ 4 ≤ N := ⟨M.toNat, by omega, by omega⟩
theorem half_bd {N : Nat} (h1 : (4 : Int) ≤ N) (h2 : (N : Int) ≤ 24) : ∃ H : Nat, (N : Int).tdiv 2 = (H : Int) ∧ 2 ≤ H ∧ H + 1 < N := by
  rw [Int.tdiv_eq_ediv_of_nonneg (by omega)]
  exact ⟨((N : Int) / 2).toNat, by omega, by omega, by omega⟩
theorem half_mod {H N : Nat} (h : H + 1 < N) : ((H : Int) + 1).tmod (N : Int) = (H : Int) + 1 := by
  rw [Int.tmod_eq_emod_of_nonneg (by omega), Int.emod_eq_of_lt (by omega) (by omega)]
theorem div_bd {N d : Int} (h1 : 1 ≤ d) (h2 : d ≤ 4) (h3 : 4 ≤ N) (h4 : N ≤ 24) : ∃ Q : Nat, N.tdiv d = (Q : Int) ∧ 1 ≤ Q ∧ Q ≤ 24 := by
  rw [Int.tdiv_eq_ediv_of_nonneg (by omega)]
  have e1 : 1 ≤ N / d := by
    rcases (show d = 1 ∨ d = 2 ∨ d = 3 ∨ d = 4 by omega) with rfl | rfl | rfl | rfl <;> omega
  have e2 : N / d ≤ 24 := by
    rcases (show d = 1 ∨ d = 2 ∨ d = 3 ∨ d = 4 by omega) with rfl | rfl | rfl | rfl <;> omega
  exact ⟨(N / d).toNat, by omega, by omega, by omega⟩
set_option maxRecDepth 20000 in
set_option maxHeartbeats 4000000 in
theorem c_l92Tile {b0 : Nat} {w : World} {B : Nat} {s : Option Addr} {len p : Nat} (h : Rd b0 w B s len p) (hp : p + 40 < 1000000) :
    Calls Try.prog 28 #[.pointer (some ⟨B, 0, none⟩)] w (DrTile b0 B s len p w) := by
  obtain ⟨i0, hi, hz0, hz1, hz2⟩ := info_parts infoB
  have hBw := h.lt
  go_enter Try.func28, Try.ntmps28
  go_wp2_with fail
  have h1 := h.alloc (.cells #[.int .i64 4, .int .i64 6, .int .i64 8, .int .i64 12, .int .i64 9, .int .i64 5, .int .i64 16, .int .i64 24] 3)
  refine (c_pickR 8 (by omega) (by omega) h1 (by omega)).mono ?_
  rintro e w2 ⟨x, x1, x2, rfl, hR2, hO2⟩
  obtain ⟨M, M1, M2, hc⟩ : ∃ M : Int, 4 ≤ M ∧ M ≤ 24 ∧ w2.cell? ⟨w.heap.size, x.toNat, none⟩ = some (.int .i64 M) := by
    have hx : x = 0 ∨ x = 1 ∨ x = 2 ∨ x = 3 ∨ x = 4 ∨ x = 5 ∨ x = 6 ∨ x = 7 := by omega
    rcases hx with rfl | rfl | rfl | rfl | rfl | rfl | rfl | rfl
    · exact ⟨4, by omega, by omega, oc hO2 hBw 0⟩
    · exact ⟨6, by omega, by omega, oc hO2 hBw 1⟩
    · exact ⟨8, by omega, by omega, oc hO2 hBw 2⟩
    · exact ⟨12, by omega, by omega, oc hO2 hBw 3⟩
    · exact ⟨9, by omega, by omega, oc hO2 hBw 4⟩
    · exact ⟨5, by omega, by omega, oc hO2 hBw 5⟩
    · exact ⟨16, by omega, by omega, oc hO2 hBw 6⟩
    · exact ⟨24, by omega, by omega, oc hO2 hBw 7⟩
  obtain ⟨N, rfl, N1⟩ := nat_of M1
  have hT2 : Oth B w w2 := ((Oth.refl B w).alloc _).trans hO2
  have hg2 : w.heap.size ≤ w2.heap.size := hT2.size
  clear h h1 hO2
  have hN0 : 0 < N := by omega
  have hgB : B < w2.heap.size := by omega
  go_wp2_with (first | (at_make; refine wpList_make_full _ rfl _ _ 54 rfl w.heap.size 4 i0 (.bool false) 1 Try.underlying54 hi hz0 hz1 .i64 .i64 _ _ N rfl rfl rfl rfl (by rw [hz2]; omega) (by unfold maxLen; omega) hg2 ?_; intro w3 hown hgrow; obtain ⟨⟨b, hx0⟩, hf0, hs0⟩ := (TJ.made hown hgrow hR2 hT2 hBw).flag 0 hN0) | fail)
  have hJ4 := hs0 true
  clear hs0 hown hgrow hR2 hT2 hc
  generalize w2.heap.size = g at *
  generalize w3.setCell ⟨g, 0, none⟩ (.bool true) = w4 at *
  clear hx0 hf0
  obtain ⟨q4, hR4, hq4⟩ := hJ4.rd
  refine (c_pickR 4 (by omega) (by omega) hR4 (by omega)).mono ?_
  rintro e w5 ⟨y, y1, y2, rfl, hR5, hO5⟩
  have hJ5 := hJ4.picked hO5 hR5 (by omega)
  clear hJ4 hR4 hO5 hR5 hq4
  have hNz : ((N : Nat) : Int) ≠ 0 := by omega
  rcases (show y = 0 ∨ y = 1 ∨ y = 2 ∨ y = 3 by omega) with rfl | rfl | rfl | rfl
  case inl =>
    go_wp2_with fail
    obtain ⟨q5, hR5, hq5⟩ := hJ5.rd
    refine (c_pickR 4 (by omega) (by omega) hR5 (by omega)).mono ?_
    rintro e w6 ⟨d, d1, d2, rfl, hR6, hO6⟩
    have hJ6 := hJ5.picked hO6 hR6 (by omega)
    clear hJ5 hR5 hO6 hR6 hq5
    obtain ⟨Q, hQ, Q1, Q2⟩ := div_bd (N := N) (d := 1 + d) (by omega) (by omega) M1 M2
    have hQm : (if (1 : Int) < (Q : Int) then (Q : Int) else 1) = (Q : Int) := by split <;> omega
    rcases (show d = 0 ∨ d = 1 ∨ d = 2 ∨ d = 3 by omega) with rfl | rfl | rfl | rfl
    all_goals
      simp only [Int.add_zero, Int.reduceAdd] at hQ
      go_wp2_with fail
      go_loopw [7] (fun i wr => ∃ k : Nat, i = .int .i64 k ∧ k ≤ 48 ∧ TJ b0 B g N (p + 1 + 1 + 1) s len w wr) (fun i _ => N - (intOf i).toNat)
      case atStart => exact ⟨0, rfl, by omega, hJ6⟩
      case round =>
        clear hJ6
        obtain ⟨k, rfl, hk, hJ⟩ := hrel
        by_cases hlt : k < N
        · obtain ⟨⟨b', hx0⟩, hf0, hs0⟩ := hJ.flag k hlt
          have hJ' := hs0 true
          clear hs0 hJ
          go_wp2_with fail
          go_roundw
          case rel => exact ⟨k + Q, by go_num, by omega, hJ'⟩
          case measure => simp [intOf]; omega
        · go_wp2_with fail
          obtain ⟨qE, hRE, hqE⟩ := hJ.rd
          refine (c_pickR 30 (by omega) (by omega) hRE (by omega)).mono ?_
          rintro e wE ⟨z, z1, z2, rfl, hRF, hOF⟩
          have hJF := hJ.picked hOF hRF (by omega)
          obtain ⟨lE, qF, hVE, hRG, hqF, hTE⟩ := hJF.fin
          clear hJF hRE hOF hRF
          by_cases hz : z = 0
          · subst hz
            go_wp2_with fail
            go_ret2
            exact ⟨_, _, [(N : Int)], _, by omega, M2, by simp, rfl, lit_own7 hTE.size rfl (by omega) rfl, hRG.alloc _, by omega, hTE.alloc _⟩
          · have hz' : (z == 0) = false := by simpa using hz
            clear hz
            go_wp2_with fail
            refine (c_l7Set _ _ _ _ lE (by omega) _ hVE).mono ?_
            rintro e wG ⟨v, rfl, hOG, hBG⟩
            have hle := setL_le N fun y => decide (y ∈ lE)
            go_wp2_with fail
            go_ret2
            exact ⟨_, _, _, _, by omega, M2, by omega, rfl, hOG.low hTE.size, hRG.below hBG, by omega, hTE.trans (Oth.of_below hBG)⟩
  case inr.inl =>
    go_wp2_with fail
    obtain ⟨q5, hR5, hq5⟩ := hJ5.rd
    refine (c_pickR 3 (by omega) (by omega) hR5 (by omega)).mono ?_
    rintro e w6 ⟨d, d1, d2, rfl, hR6, hO6⟩
    have hJ6 := hJ5.picked hO6 hR6 (by omega)
    clear hJ5 hR5 hO6 hR6 hq5
    have hmn : (if (N : Int) < 1 + d then (N : Int) else 1 + d) = 1 + d := by split <;> omega
    have hmn' : ¬ (N : Int) < 1 + d := by omega
    go_wp2_with fail
    go_loopw [9] (fun i wr => ∃ k : Nat, i = .int .i64 k ∧ k ≤ 48 ∧ TJ b0 B g N (p + 1 + 1 + 1) s len w wr) (fun i _ => N - (intOf i).toNat)
    case atStart => exact ⟨0, rfl, by omega, hJ6⟩
    case round =>
      clear hJ6
      obtain ⟨k, rfl, hk, hJ⟩ := hrel
      by_cases hlt : (k : Int) < 1 + d
      · have hkN : k < N := by omega
        obtain ⟨⟨b', hx0⟩, hf0, hs0⟩ := hJ.flag k hkN
        have hJ' := hs0 true
        clear hs0 hJ
        go_wp2_with fail
        go_roundw
        case rel => exact ⟨k + 1, by go_num, by omega, hJ'⟩
        case measure => simp [intOf]; omega
      · go_wp2_with fail
        obtain ⟨qE, hRE, hqE⟩ := hJ.rd
        refine (c_pickR 30 (by omega) (by omega) hRE (by omega)).mono ?_
        rintro e wE ⟨z, z1, z2, rfl, hRF, hOF⟩
        have hJF := hJ.picked hOF hRF (by omega)
        obtain ⟨lE, qF, hVE, hRG, hqF, hTE⟩ := hJF.fin
        clear hJF hRE hOF hRF
        by_cases hz : z = 0
        · subst hz
          go_wp2_with fail
          go_ret2
          exact ⟨_, _, [(N : Int)], _, by omega, M2, by simp, rfl, lit_own7 hTE.size rfl (by omega) rfl, hRG.alloc _, by omega, hTE.alloc _⟩
        · have hz' : (z == 0) = false := by simpa using hz
          clear hz
          go_wp2_with fail
          refine (c_l7Set _ _ _ _ lE (by omega) _ hVE).mono ?_
          rintro e wG ⟨v, rfl, hOG, hBG⟩
          have hle := setL_le N fun y => decide (y ∈ lE)
          go_wp2_with fail
          go_ret2
          exact ⟨_, _, _, _, by omega, M2, by omega, rfl, hOG.low hTE.size, hRG.below hBG, by omega, hTE.trans (Oth.of_below hBG)⟩
  case inr.inr.inl =>
    obtain ⟨H, hH, hH1, hH2⟩ := half_bd M1 M2
    have hHm := half_mod (H := H) (N := N) (by omega)
    obtain ⟨⟨bh, hx0⟩, hf0, hs0⟩ := hJ5.flag H (by omega)
    have hJ6 := hs0 true
    have hHN : H < N := by omega
    clear hs0 hJ5
    go_wp2_with fail
    generalize w5.setCell ⟨g, H, none⟩ (.bool true) = w6 at *
    clear hx0 hf0
    obtain ⟨q5, hR5, hq5⟩ := hJ6.rd
    refine (c_pickR 2 (by omega) (by omega) hR5 (by omega)).mono ?_
    rintro e w7 ⟨d, d1, d2, rfl, hR6, hO6⟩
    have hJ7 := hJ6.picked hO6 hR6 (by omega)
    clear hJ6 hR5 hO6 hR6 hq5
    have hN1 : 1 < N := by omega
    obtain ⟨⟨b1, hx1⟩, hf1, hs1⟩ := hJ7.flag 1 hN1
    have hJ8 := hs1 (d == 0)
    clear hs1 hJ7
    go_wp2_with fail
    generalize w7.setCell ⟨g, 1, none⟩ (.bool (d == 0)) = w8 at *
    clear hx1 hf1
    obtain ⟨⟨b2, hx2⟩, hf2, hs2⟩ := hJ8.flag 1 hN1
    clear hs2 hf2
    have hH1N : H + 1 < N := by omega
    obtain ⟨⟨b3, hx3⟩, hf3, hs3⟩ := hJ8.flag (H + 1) hH1N
    have hJ9 := hs3 b2
    clear hs3 hJ8
    go_region
    have hJ := hJ9.drew
    clear hJ9 hx2 hx3 hf3
    go_wp2_with fail
    obtain ⟨qE, hRE, hqE⟩ := hJ.rd
    refine (c_pickR 30 (by omega) (by omega) hRE (by omega)).mono ?_
    rintro e wE ⟨z, z1, z2, rfl, hRF, hOF⟩
    have hJF := hJ.picked hOF hRF (by omega)
    obtain ⟨lE, qF, hVE, hRG, hqF, hTE⟩ := hJF.fin
    clear hJF hRE hOF hRF
    by_cases hz : z = 0
    · subst hz
      go_wp2_with fail
      go_ret2
      exact ⟨_, _, [(N : Int)], _, by omega, M2, by simp, rfl, lit_own7 hTE.size rfl (by omega) rfl, hRG.alloc _, by omega, hTE.alloc _⟩
    · have hz' : (z == 0) = false := by simpa using hz
      clear hz
      go_wp2_with fail
      refine (c_l7Set _ _ _ _ lE (by omega) _ hVE).mono ?_
      rintro e wG ⟨v, rfl, hOG, hBG⟩
      have hle := setL_le N fun y => decide (y ∈ lE)
      go_wp2_with fail
      go_ret2
      exact ⟨_, _, _, _, by omega, M2, by omega, rfl, hOG.low hTE.size, hRG.below hBG, by omega, hTE.trans (Oth.of_below hBG)⟩
  case inr.inr.inr =>
    go_wp2_with fail
    go_loopw [10] (fun i wr => ∃ k : Nat, i = .int .i64 k ∧ 1 ≤ k ∧ k ≤ N ∧ TJ b0 B g N (p + 1 + k) s len w wr) (fun i _ => N - (intOf i).toNat)
    case atStart => exact ⟨1, rfl, by omega, by omega, hJ5.more (by omega)⟩
    case round =>
      clear hJ5
      obtain ⟨k, rfl, hk1, hk, hJ⟩ := hrel
      by_cases hlt : k < N
      · obtain ⟨q5, hR5, hq5⟩ := hJ.rd
        go_wp2_with fail
        refine (c_pickR 5 (by omega) (by omega) hR5 (by omega)).mono ?_
        rintro e w6 ⟨d, d1, d2, rfl, hR6, hO6⟩
        have hJ6 := hJ.picked hO6 hR6 (by omega)
        obtain ⟨⟨b', hx0⟩, hf0, hs0⟩ := hJ6.flag k hlt
        have hJ' := hs0 (d == 0)
        clear hs0 hJ hJ6 hR5 hO6 hR6 hq5
        go_wp2_with fail
        go_roundw
        case rel => exact ⟨k + 1, by go_num, by omega, by omega, hJ'⟩
        case measure => simp [intOf]; omega
      · go_wp2_with fail
        obtain ⟨qE, hRE, hqE⟩ := hJ.rd
        refine (c_pickR 30 (by omega) (by omega) hRE (by omega)).mono ?_
        rintro e wE ⟨z, z1, z2, rfl, hRF, hOF⟩
        have hJF := hJ.picked hOF hRF (by omega)
        obtain ⟨lE, qF, hVE, hRG, hqF, hTE⟩ := hJF.fin
        clear hJF hRE hOF hRF
        by_cases hz : z = 0
        · subst hz
          go_wp2_with fail
          go_ret2
          exact ⟨_, _, [(N : Int)], _, by omega, M2, by simp, rfl, lit_own7 hTE.size rfl (by omega) rfl, hRG.alloc _, by omega, hTE.alloc _⟩
        · have hz' : (z == 0) = false := by simpa using hz
          clear hz
          go_wp2_with fail
          refine (c_l7Set _ _ _ _ lE (by omega) _ hVE).mono ?_
          rintro e wG ⟨v, rfl, hOG, hBG⟩
          have hle := setL_le N fun y => decide (y ∈ lE)
          go_wp2_with fail
          go_ret2
          exact ⟨_, _, _, _, by omega, M2, by omega, rfl, hOG.low hTE.size, hRG.below hBG, by omega, hTE.trans (Oth.of_below hBG)⟩
end Go.Proofs.Ytiplnfggiffngaa
