/- Chapter 7, the model: TileBoth, TileSystem. -/
import Derived.Test.YtlgekggbanjmaaaTe
import Derived.Test.YtlgekggbanjmaaaH1
namespace Go.Proofs.Ytlgekggbanjmaaa
open Go.RowKit
set_option maxRecDepth 20000 in
set_option maxHeartbeats 2000000 in
theorem c_l7Both (n : Int) (s u : Option Addr) (l c1 m c2 : Nat) (a b : List Int) (hTa : Til n a) (hTb : Til n b) (w : World) (ha : Ints w s l a) (hb : Ints w u m b) : Calls Try.prog 48 #[.int .i64 n, .slice s l c1, .slice u m c2] w fun e w' => e = .returned (.bool (decide (tsuL n a b).Nodup && decide ((a.length : Int) * b.length = n))) ∧ Below w.heap.size w w' := by
  obtain ⟨n1, n2, l1, l2⟩ := tsizes hTa ha.len
  obtain ⟨_, _, m1, m2⟩ := tsizes hTb hb.len
  obtain rfl := ha.len
  obtain rfl := hb.len
  have HXa := Lib.hid hTa.2.2.2.2
  have HXb := Lib.hid hTb.2.2.2.2
  have hmul := mul_le24 l2 m2
  clear hTa hTb
  obtain ⟨N, rfl⟩ : ∃ N : Nat, n = (N : Int) := ⟨n.toNat, by omega⟩
  have hK0 : Hid (sumK N a b 0 0 = []) := Lib.hid (sumK_zero N a b)
  have hKe : Hid (sumK N a b a.length 0 = tsuL N a b) := Lib.hid (sumK_end N a b)
  obtain ⟨i0, hi, hz0, hz1, hz2⟩ := info_parts infoB
  go_enter Try.func48, Try.ntmps48
  go_wp2_with (first | (at_make; refine wpList_make_full _ rfl _ _ 66 rfl w.heap.size 4 i0 (.bool false) 1 Try.underlying66 hi hz0 hz1 .i64 .i64 _ _ N rfl rfl rfl rfl (by rw [hz2]; omega) (by unfold maxLen; omega) (Nat.le_refl _) ?_; intro w1 hown hgrow) | fail)
  have h0 : OwnV w1 w.heap.size 4 (.slice (some ⟨w.heap.size, 0, none⟩) N N) (flg (mks N (sumK N a b 0 0))) := by
    show w1.ownsRow _ _ _ _ _ _
    rw [hK0.out, mks_nil, flg, List.map_replicate, List.length_replicate, ← madeV]
    exact hown
  have hb0 : Below w.heap.size w w1 := (Below.refl _ _).grown hgrow (Nat.le_refl _) (fun k h => by cases h)
  clear hown hgrow
  have hd0 : Hid (sumK N a b 0 0).Nodup := Lib.hid (by rw [hK0.out]; simp)
  go_loopw [8] (fun i wr => ∃ i' : Nat, i' ≤ a.length ∧ i = .int .i64 i' ∧ Hid (sumK N a b i' 0).Nodup ∧ OwnV wr w.heap.size 4 (.slice (some ⟨w.heap.size, 0, none⟩) N N) (flg (mks N (sumK N a b i' 0))) ∧ Below w.heap.size w wr) (fun i _ => a.length - (intOf i).toNat)
  case atStart => exact ⟨0, Nat.zero_le _, rfl, hd0, h0, hb0⟩
  case round =>
    clear h0 hb0 hd0
    obtain ⟨i, hi', rfl, hnd, hO, hB⟩ := hrel
    by_cases hlt : i < a.length
    · have hrow := Lib.hid (sumK_row N a b i hlt)
      have HN := Lib.hid (fun k (h : k < b.length) => sumK_next N a b i k h)
      have HBad := Lib.hid (fun k (h : k < b.length) hm => sumK_bad (n := N) (a := a) (b := b) hlt h hm)
      have HA := Lib.hid (fun (wr : World) (hB : Below w.heap.size w wr) => (ha.keep hB).lies)
      go_wp2_with fail
      go_loopw [9] (fun i2 wr => ∃ k : Nat, k ≤ b.length ∧ i2 = .int .i64 k ∧ Hid (sumK N a b i k).Nodup ∧ OwnV wr w.heap.size 4 (.slice (some ⟨w.heap.size, 0, none⟩) N N) (flg (mks N (sumK N a b i k))) ∧ Below w.heap.size w wr) (fun i2 _ => b.length - (intOf i2).toNat)
      case atStart => exact ⟨0, Nat.zero_le _, rfl, hnd, hO, hB⟩
      case round =>
        clear hO hB hnd
        obtain ⟨k, hk, rfl, hnd, hO, hB⟩ := hrel
        have hml : (flg (mks N (sumK N a b i k))).length = N := by simp [flg, mks_length]
        by_cases hlt2 : k < b.length
        · rcases HA.out wr hB with h0 | ⟨b1, o1, rfl, hbw, hcells⟩
          · omega
          rcases (hb.keep hB).lies with h0 | ⟨b2, o2, rfl, hbw2, hcells2⟩
          · omega
          have hx : wr.cell? ⟨b1, o1 + i, none⟩ = some (.int .i64 (gZ a i)) := hcells i hlt
          have hy : wr.cell? ⟨b2, o2 + k, none⟩ = some (.int .i64 (gZ b k)) := hcells2 k hlt2
          obtain ⟨p0, p1⟩ := HXa.out _ (gZ_mem a i hlt)
          obtain ⟨q0, q1⟩ := HXb.out _ (gZ_mem b k hlt2)
          have hNk := HN.out k hlt2
          have hBk := HBad.out k hlt2
          have r0 := Int.emod_nonneg (gZ a i + gZ b k) (show (N : Int) ≠ 0 by omega)
          have r1 := Int.emod_lt_of_pos (gZ a i + gZ b k) (show (0 : Int) < N by omega)
          obtain ⟨X, hX⟩ : ∃ X : Nat, (gZ a i + gZ b k) % (N : Int) = (X : Int) := ⟨((gZ a i + gZ b k) % (N : Int)).toNat, by omega⟩
          have hXt : (gZ a i + gZ b k).tmod (N : Int) = (X : Int) := by rw [tmod_pos _ _ (by omega), hX]
          rw [hX] at r0 r1 hNk hBk
          have hXn : X < N := by omega
          have x0 := hO.cell hml X hXn
          rw [mks_at N _ X hXn] at x0
          have f0 := hO.free hml X
          have hN0 : (N : Int) ≠ 0 := by omega
          have hiz0 : (0 : Int) ≤ (i : Int) := by omega
          have hiz1 : (i : Int) < (a.length : Int) := by omega
          have hkz0 : (0 : Int) ≤ (k : Int) := by omega
          have hkz1 : (k : Int) < (b.length : Int) := by omega
          cases hd : decide ((X : Int) ∈ sumK N a b i k)
          · have HP : Hid (OwnV (wr.setCell ⟨w.heap.size, X, none⟩ (.bool true)) w.heap.size 4 (.slice (some ⟨w.heap.size, 0, none⟩) N N) (flg (mks N (sumK N a b i (k + 1))))) := Lib.hid (by
              rw [hNk, ← mks_put N _ X hXn]
              exact hO.store hml X _)
            have HNd : Hid (sumK N a b i (k + 1)).Nodup := Lib.hid (by rw [hNk]; exact nodup_snoc hnd.out (by simpa using hd))
            rw [hd] at x0
            clear hNk hBk hX hml hd hcells hcells2 hO
            generalize gZ a i = x at *
            generalize gZ b k = y at *
            go_wp2_with fail
            go_quiet (fail)
            go_wp2_with fail
            go_roundw
            case rel => exact ⟨k + 1, by omega, by go_num, HNd, ownV_drew HP.out _, bel_drewN (hB.setCell (Nat.le_refl _) _) _⟩
            case measure => simp [intOf]; omega
          · have hbad := Lib.hid (hBk (by simpa using hd))
            rw [hd] at x0
            clear hNk hBk hX hml hd hcells hcells2 hO
            generalize gZ a i = x at *
            generalize gZ b k = y at *
            go_wp2_with fail
            go_quiet (fail)
            go_wp2_with fail
            go_ret
            exact ⟨by rw [hbad.out]; rfl, bel_drewN hB _⟩
        · have hk' : k = b.length := by omega
          subst hk'
          clear hml
          go_wp2_with fail
          go_roundw
          case rel => exact ⟨i + 1, by omega, by go_num, by rw [← hrow.out]; exact hnd, by rw [← hrow.out]; exact hO, hB⟩
          case measure => simp [intOf]; omega
    · have hk' : i = a.length := by omega
      subst hk'
      rw [hKe.out] at hnd
      have HD : Hid (decide (tsuL N a b).Nodup = true) := Lib.hid (decide_eq_true hnd.out)
      have hmz : (0 : Int) ≤ (a.length : Int) * (b.length : Int) ∧ (a.length : Int) * (b.length : Int) ≤ 576 := by
        have : (a.length : Int) * (b.length : Int) = ((a.length * b.length : Nat) : Int) := (Int.natCast_mul _ _).symm
        omega
      clear hO
      go_wp2_with fail
      go_ret
      exact ⟨by rw [HD.out]; rfl, hB⟩
set_option maxRecDepth 20000 in
set_option maxHeartbeats 2000000 in
theorem c_specTileBoth (n : Int) (s u : Option Addr) (l c1 m c2 : Nat) (a b : List Int) (hl : l ≤ 1048576) (hm : m ≤ 1048576) (w : World) (ha : Ints w s l a) (hb : Ints w u m b) : Calls Try.prog 19 #[.int .i64 n, .slice s l c1, .slice u m c2] w fun e w' => e = .returned (.bool (tboB n a b)) ∧ Below w.heap.size w w' := by
  have hca := c_specTileIn n s l c1 a hl w ha
  have hcb := fun (w2 : World) (hB : Below w.heap.size w w2) => c_specTileIn n u m c2 b hm w2 (hb.keep hB)
  rcases tbo_cases n a b with h | ⟨h, h1⟩ | ⟨h, h1⟩
  · rw [tbo_f1 h]
    rw [h] at hca
    clear h hcb
    go_enter Try.func19, Try.ntmps19
    go_wp2_with (first | (go_at_call 13; refine hca.mono ?_; rintro e w2 ⟨rfl, hB⟩) | fail)
    go_ret
    exact ⟨rfl, hB⟩
  · rw [tbo_f2 h1]
    rw [h] at hca
    rw [h1] at hcb
    clear h h1
    go_enter Try.func19, Try.ntmps19
    go_wp2_with fail
    refine hca.mono ?_
    rintro e w2 ⟨rfl, hB⟩
    go_wp2_with fail
    refine (hcb w2 hB).mono ?_
    rintro e w3 ⟨rfl, hB3⟩
    go_wp2_with fail
    go_ret
    exact ⟨rfl, bt2 hB hB3⟩
  · have HR := Lib.hid (tbo_t h h1)
    rw [h] at hca
    rw [h1] at hcb
    have hcc := fun (w2 : World) (hB : Below w.heap.size w w2) => c_l7Both n s u l c1 m c2 a b (tilB_t.1 h) (tilB_t.1 h1) w2 (ha.keep hB) (hb.keep hB)
    generalize (decide (tsuL n a b).Nodup && decide ((a.length : Int) * b.length = n)) = r at *
    clear h h1
    go_enter Try.func19, Try.ntmps19
    go_wp2_with fail
    refine hca.mono ?_
    rintro e w2 ⟨rfl, hB⟩
    go_wp2_with fail
    refine (hcb w2 hB).mono ?_
    rintro e w3 ⟨rfl, hB3⟩
    go_wp2_with fail
    refine (hcc w3 (bt2 hB hB3)).mono ?_
    rintro e w4 ⟨rfl, hB4⟩
    go_wp2_with fail
    go_ret
    exact ⟨by rw [HR.out]; rfl, bt2 (bt2 hB hB3) hB4⟩
theorem infoCG : (Try.prog.info? 69).map (fun i => (i.zero, i.size, i.bytes)) = some (some (.agg #[.int .i64 0, .int .i64 0]), 2, 16) := by kernel_rfl
def RetCG (w : World) (zs : List Cl) (ok : Bool) (e : Ending) (w' : World) : Prop := ∃ v, e = .returned (.tuple #[v, .bool ok]) ∧ OwnC w' w.heap.size 69 v zs ∧ Below w.heap.size w w'
theorem two_newG (w : World) (x y : Value) (t : TypeId) : ∀ j u, [x, y][j]? = some u → (w.alloc (.cells #[x, y] t)).cell? ((⟨w.heap.size, 0, none⟩ : Addr).add j) = some u := by
  intro j u hj
  match j, hj with
  | 0, hj => simp at hj; subst hj; simp [Addr.add]
  | 1, hj => simp at hj; subst hj; simp [Addr.add]
theorem tsg_cases (n : Int) (a b : List Int) : tboB n a b = false ∨ (tboB n a b = true ∧ ¬ a.length + b.length ≤ 16) ∨ (tboB n a b = true ∧ a.length + b.length ≤ 16) := by
  by_cases h : a.length + b.length ≤ 16 <;> cases tboB n a b <;> simp [h]
set_option maxRecDepth 20000 in
set_option maxHeartbeats 2000000 in
theorem c_specTileSystem (n : Int) (s u : Option Addr) (l c1 m c2 : Nat) (a b : List Int) (hl : l ≤ 1048576) (hm : m ≤ 1048576) (w : World) (ha : Ints w s l a) (hb : Ints w u m b) : Calls Try.prog 35 #[.int .i64 n, .slice s l c1, .slice u m c2] w (RetCG w (tsyR n a b) (tsyB n a b)) := by
  have hb1 : Below w.heap.size w (w.alloc (.cells #[] 69)) := ba (Below.refl _ _) _
  have hO1 : OwnC (w.alloc (.cells #[] 69)) w.heap.size 69 (.slice (some ⟨w.heap.size, 0, none⟩) 0 0) [] := World.ownsRow_lit w #[] 0 (Nat.le_refl _) (by unfold maxLen; omega) rfl
  have hcb := c_specTileBoth n s u l c1 m c2 a b hl hm _ (ha.keep hb1) (hb.keep hb1)
  obtain rfl := ha.len
  obtain rfl := hb.len
  rcases tsg_cases n a b with h | ⟨h, h1⟩ | ⟨h, h1⟩
  · have e2 : tsyB n a b = false := by simp [tsyB, h]
    have e1 : tsyR n a b = [] := by simp [tsyR, e2]
    rw [e1, e2]
    rw [h] at hcb
    clear h e1 e2
    go_enter Try.func35, Try.ntmps35
    go_wp2_with (first | (go_at_call 19; refine hcb.mono ?_; rintro e w2 ⟨rfl, hB⟩) | fail)
    go_ret2
    exact ⟨_, rfl, hO1.keep hB, bt2 hb1 hB⟩
  · have e2 : tsyB n a b = false := by simp [tsyB, h1]
    have e1 : tsyR n a b = [] := by simp [tsyR, e2]
    rw [e1, e2]
    rw [h] at hcb
    have h3 : (16 : Int) < (a.length : Int) + (b.length : Int) := by omega
    clear h e1 e2 h1
    go_enter Try.func35, Try.ntmps35
    go_wp2_with (first | (go_at_call 19; refine hcb.mono ?_; rintro e w2 ⟨rfl, hB⟩) | fail)
    go_ret2
    exact ⟨_, rfl, hO1.keep hB, bt2 hb1 hB⟩
  · have e2 : tsyB n a b = true := by simp [tsyB, h, h1]
    have e1 : tsyR n a b = tsyL n b := by simp [tsyR, e2]
    rw [e1, e2]
    rw [h] at hcb
    obtain ⟨hTa, hTb, _, _⟩ := tboB_til h
    obtain ⟨n1, n2, l1, l2⟩ := tsizes hTa rfl
    have HX := Lib.hid hTb.2.2.2.2
    have h3 : ¬ (16 : Int) < (a.length : Int) + (b.length : Int) := by omega
    have HT := fun k (h : k < b.length) => tsyL_take n b k h
    have HLn : Hid ((tsyL n b).length = b.length) := Lib.hid (by simp [tsyL])
    have HE : Hid ((tsyL n b).take b.length = tsyL n b) := Lib.hid (List.take_of_length_le (by simp [tsyL]))
    clear h e1 e2 hTa hTb
    generalize tsyL n b = cs at *
    obtain ⟨i0, hi, hz0, hz1, hz2⟩ := info_parts infoCG
    go_enter Try.func35, Try.ntmps35
    go_wp2_with (first | (go_at_call 19; refine hcb.mono ?_; rintro e w2 ⟨rfl, hB⟩) | fail)
    have hO3 : w2.ownsRow w.heap.size 69 2 (.slice (some ⟨w.heap.size, 0, none⟩) 0 0) 0 [] := hO1.keep hB
    have hb3 := bt2 hb1 hB
    clear hcb hB hb1 hO1
    go_loopw [8, 9] (fun v i wr => ∃ (k : Nat), k ≤ b.length ∧ i = .int .i64 k ∧ wr.ownsRow w.heap.size 69 2 v k (cells2 (cs.take k)) ∧ Below w.heap.size w wr) (fun _ i _ => b.length - (intOf i).toNat)
    case atStart => exact ⟨0, Nat.zero_le _, rfl, hO3, hb3⟩
    case round =>
      clear hO3 hb3
      obtain ⟨k, hk, rfl, hO, hB⟩ := hrel
      by_cases hlt : k < b.length
      · rcases (hb.keep hB).lies with h0 | ⟨b1, off, rfl, hb', hcells⟩
        · omega
        have hx : wr.cell? ⟨b1, off + k, none⟩ = some (.int .i64 (gZ b k)) := hcells k hlt
        have HTk := Lib.hid (HT k hlt)
        obtain ⟨q0, q1⟩ := HX.out _ (gZ_mem b k hlt)
        clear hcells HT
        generalize gZ b k = y at *
        have hbs : w.heap.size ≤ wr.heap.size := hB.size
        go_wp2_with (first | (at_builtin; refine wpList_append_own _ rfl _ _ 39 rfl w.heap.size 69 i0 (.agg #[.int .i64 0, .int .i64 0]) 2 16 Try.underlying39 hi hz0 hz1 hz2 rfl (by decide) _ k _ rfl (hO.alloc _) ⟨wr.heap.size, 0, none⟩ 1 1 [.int .i64 y, .int .i64 n] rfl rfl (two_newG wr _ _ _) (by simp [Value.oneCell']) (by unfold maxLen; omega) (by omega) (by simp; omega) ?_; intro v7 w7 hown7 hgrow7 _) | fail)
        have hb7 : Below w.heap.size w w7 := (hB.alloc hbs _).grown hgrow7 (by simp; omega) (fun g e => (hO.lt g e).1)
        go_roundw
        case rel => exact ⟨k + 1, by omega, by go_num, by rw [HTk.out, cells2_append]; exact hown7, hb7⟩
        case measure => simp [intOf]; omega
      · have hk' : k = b.length := by omega
        subst hk'
        rw [HE.out] at hO
        have hOC : OwnC wr w.heap.size 69 u8 cs := by
          unfold OwnC; rw [HLn.out]; exact hO
        clear hO HT
        go_wp2_with fail
        go_ret2
        exact ⟨_, rfl, hOC, hB⟩
end Go.Proofs.Ytlgekggbanjmaaa
