/- Chapter 7, the program: TileBoth, TileSystem. -/
import Derived.Test.YtlgekggbanjmaaaTd
import Derived.Test.YtlgekggbanjmaaaH1
namespace Go.Proofs.Ytlgekggbanjmaaa
open Go.RowKit
set_option maxRecDepth 20000 in
set_option maxHeartbeats 2000000 in
theorem c_implTileBoth (n : Int) (s u : Option Addr) (l c1 m c2 : Nat) (a b : List Int) (hl : l ≤ 1048576) (hm : m ≤ 1048576) (w : World) (ha : Ints w s l a) (hb : Ints w u m b) : Calls Try.prog 18 #[.int .i64 n, .slice s l c1, .slice u m c2] w fun e w' => e = .returned (.bool (tboB n a b)) ∧ Below w.heap.size w w' := by
  have hca := c_implTileIn n s l c1 a hl w ha
  have hcb := fun (w2 : World) (hB : Below w.heap.size w w2) => c_implTileIn n u m c2 b hm w2 (hb.keep hB)
  rcases tbo_cases n a b with h | ⟨h, h1⟩ | ⟨h, h1⟩
  · rw [tbo_f1 h]
    rw [h] at hca
    clear h hcb
    go_enter Try.func18, Try.ntmps18
    go_wp2_with (first | (go_at_call 12; refine hca.mono ?_; rintro e w2 ⟨rfl, hB⟩) | fail)
    go_ret
    exact ⟨rfl, hB⟩
  · rw [tbo_f2 h1]
    rw [h] at hca
    rw [h1] at hcb
    clear h h1
    go_enter Try.func18, Try.ntmps18
    go_wp2_with fail
    refine hca.mono ?_
    rintro e w2 ⟨rfl, hB⟩
    go_wp2_with fail
    refine (hcb w2 hB).mono ?_
    rintro e w3 ⟨rfl, hB3⟩
    go_wp2_with fail
    go_ret
    exact ⟨rfl, bt2 hB hB3⟩
  · have HR := Lib.hid (tbo_t h h1)
    rw [h] at hca
    rw [h1] at hcb
    have hTa := tilB_t.1 h
    have hTb := tilB_t.1 h1
    obtain ⟨n1, n2, l1, l2⟩ := til_sizes hTa ha.len
    obtain ⟨_, _, m1, m2⟩ := til_sizes hTb hb.len
    obtain rfl := ha.len
    obtain rfl := hb.len
    have HXa := Lib.hid hTa.2.2.2.2
    have HXb := Lib.hid hTb.2.2.2.2
    have hmul := mul_le24 l2 m2
    have HLe := Lib.hid (fun i k => sumK_le n a b i k)
    have hK0 : Hid (sumK n a b 0 0 = []) := Lib.hid (sumK_zero n a b)
    have HL := Lib.hid (tsuL_length n a b)
    clear h h1 hTa hTb
    obtain ⟨i0, hi, hz0, hz1, hz2⟩ := info_parts infoQ
    go_enter Try.func18, Try.ntmps18
    go_wp2_with fail
    refine hca.mono ?_
    rintro e w2 ⟨rfl, hB2⟩
    go_wp2_with fail
    refine (hcb w2 hB2).mono ?_
    rintro e w3 ⟨rfl, hB3⟩
    go_wp2_with fail
    have hB0 := bt2 hB2 hB3
    clear hca hcb hB2 hB3
    have hO0 : w3.ownsRow w.heap.size 3 1 (.slice none 0 0) (sumK n a b 0 0).length ((sumK n a b 0 0).map (Value.int .i64)) := by rw [hK0.out]; exact World.ownsRow_nil _ _ _ _
    go_loopw [7, 26] (fun v i wr => ∃ (i' : Nat), i' ≤ a.length ∧ i = .int .i64 i' ∧ wr.ownsRow w.heap.size 3 1 v (sumK n a b i' 0).length ((sumK n a b i' 0).map (Value.int .i64)) ∧ Below w.heap.size w wr) (fun _ i _ => a.length - (intOf i).toNat)
    case atStart => exact ⟨0, Nat.zero_le _, rfl, hO0, hB0⟩
    case round =>
      clear hO0 hB0
      obtain ⟨i, hi', rfl, hO, hB⟩ := hrel
      by_cases hlt : i < a.length
      · rcases (ha.keep hB).lies with h0 | ⟨b1, o1, rfl, hbw, hcells⟩
        · omega
        have hx : wr.cell? ⟨b1, o1 + i, none⟩ = some (.int .i64 (gZ a i)) := hcells i hlt
        obtain ⟨p0, p1⟩ := HXa.out _ (gZ_mem a i hlt)
        have hrow := Lib.hid (sumK_row n a b i hlt)
        clear hcells
        have HN := fun k (h : k < b.length) => sumK_next n a b i k h
        generalize gZ a i = x at *
        go_wp2_with fail
        go_loopw [7, 32] (fun v i2 wr => ∃ (k : Nat), k ≤ b.length ∧ i2 = .int .i64 k ∧ wr.ownsRow w.heap.size 3 1 v (sumK n a b i k).length ((sumK n a b i k).map (Value.int .i64)) ∧ Below w.heap.size w wr) (fun _ i2 _ => b.length - (intOf i2).toNat)
        case atStart => exact ⟨0, Nat.zero_le _, rfl, hO, hB⟩
        case round =>
          clear hO hB hx hbw
          obtain ⟨k, hk, rfl, hO, hB⟩ := hrel
          by_cases hlt2 : k < b.length
          · rcases (hb.keep hB).lies with h0 | ⟨b2, o2, rfl, hbw2, hcells2⟩
            · omega
            have hy : wr.cell? ⟨b2, o2 + k, none⟩ = some (.int .i64 (gZ b k)) := hcells2 k hlt2
            obtain ⟨q0, q1⟩ := HXb.out _ (gZ_mem b k hlt2)
            have HNk := Lib.hid (HN k hlt2)
            have hLK := HLe.out i k
            clear hcells2 HN
            generalize gZ b k = y at *
            have hcr := fun w => c_restOf (x + y) n n1 (by omega) w
            have hbs : w.heap.size ≤ wr.heap.size := hB.size
            generalize hLe : (sumK n a b i k).length = L at *
            go_wp2_with (first | (go_at_call 46; refine (hcr _).mono ?_; rintro e w5 ⟨rfl, rfl⟩) | (at_builtin; refine wpList_append_own _ rfl _ _ 23 rfl w.heap.size 3 i0 (.int .i64 0) 1 8 Try.underlying23 hi hz0 hz1 hz2 rfl (by decide) _ L _ rfl (hO.alloc _) ⟨wr.heap.size, 0, none⟩ 1 1 [.int .i64 ((x + y) % n)] rfl rfl (one_newQ wr _ _) (by simp [Value.oneCell']) (by unfold maxLen; omega) (by omega) (by simp; omega) ?_; intro v7 w7 hown7 hgrow7 _) | fail)
            have hb7 : Below w.heap.size w w7 := (hB.alloc hbs _).grown hgrow7 (by simp; omega) (fun g e => (hO.lt g e).1)
            go_roundw
            case rel => exact ⟨k + 1, by omega, by go_num, by rw [HNk.out, List.map_append, List.length_append, hLe]; exact hown7, hb7⟩
            case measure => simp [intOf]; omega
          · have hk' : k = b.length := by omega
            subst hk'
            clear HN
            go_wp2_with fail
            go_roundw
            case rel => exact ⟨i + 1, by omega, by go_num, by rw [← hrow.out]; exact hO, hB⟩
            case measure => simp [intOf]; omega
      · have hk' : i = a.length := by omega
        subst hk'
        rw [sumK_end] at hO
        have hOI : OwnI wr w.heap.size 3 u7 (tsuL n a b) := hO
        have hne : tsuL n a b ≠ [] := by
          intro e
          have := HL.out
          rw [e] at this
          have := Nat.mul_pos (show 0 < a.length by omega) (show 0 < b.length by omega)
          simp at *
          omega
        rcases hOI.cases with ⟨_, h0⟩ | ⟨g, cap, rfl, hg⟩
        · exact absurd h0 hne
        have hLx := HL.out
        have hcs := fun w3 hO3 => c_inOrderOnce g (tsuL n a b).length cap w.heap.size (tsuL n a b) rfl (by omega) w3 hO3
        unfold InOrd at hcs
        rw [tasB_srtI] at hcs
        have hLz : (((tsuL n a b).length : Nat) : Int) = (a.length : Int) * (b.length : Int) := by rw [hLx]; exact Int.natCast_mul _ _
        generalize hD : decide (tsuL n a b).Nodup = D at *
        generalize tsuL n a b = ms at *
        clear hO HLe hK0 HL hne hD hLx
        cases D
        · clear hLz
          go_wp2_with (first | (go_at_call 47; refine (hcs _ hOI).mono ?_; rintro e w4 ⟨rfl, hO4, hg4⟩) | fail)
          have hB4 : Below w.heap.size w w4 := hB.grown hg4 hB.size (fun k e => by cases e; exact hg)
          go_ret
          exact ⟨by rw [HR.out]; rfl, hB4⟩
        · have HE : Hid (tboB n a b = decide ((ms.length : Int) = n)) := Lib.hid (by rw [HR.out, hLz]; rfl)
          by_cases hq : (ms.length : Int) = n
          · have HF : Hid (tboB n a b = true) := Lib.hid (by rw [HE.out]; exact decide_eq_true hq)
            have hq' : ((ms.length : Int) == n) = true := by simpa using hq
            clear hq hLz
            go_wp2_with (first | (go_at_call 47; refine (hcs _ hOI).mono ?_; rintro e w4 ⟨rfl, hO4, hg4⟩) | fail)
            have hB4 : Below w.heap.size w w4 := hB.grown hg4 hB.size (fun k e => by cases e; exact hg)
            go_ret
            exact ⟨by rw [HF.out]; simp, hB4⟩
          · have HF : Hid (tboB n a b = false) := Lib.hid (by rw [HE.out]; exact decide_eq_false hq)
            have hq' : ((ms.length : Int) == n) = false := by simpa using hq
            clear hq hLz
            go_wp2_with (first | (go_at_call 47; refine (hcs _ hOI).mono ?_; rintro e w4 ⟨rfl, hO4, hg4⟩) | fail)
            have hB4 : Below w.heap.size w w4 := hB.grown hg4 hB.size (fun k e => by cases e; exact hg)
            go_ret
            exact ⟨by rw [HF.out]; simp, hB4⟩
theorem infoCT : (Try.prog.info? 69).map (fun i => (i.zero, i.size, i.bytes)) = some (some (.agg #[.int .i64 0, .int .i64 0]), 2, 16) := by kernel_rfl
def RetCT (w : World) (zs : List Cl) (ok : Bool) (e : Ending) (w' : World) : Prop := ∃ v, e = .returned (.tuple #[v, .bool ok]) ∧ OwnC w' w.heap.size 69 v zs ∧ Below w.heap.size w w'
theorem two_newT (w : World) (x y : Value) (t : TypeId) : ∀ j u, [x, y][j]? = some u → (w.alloc (.cells #[x, y] t)).cell? ((⟨w.heap.size, 0, none⟩ : Addr).add j) = some u := by
  intro j u hj
  match j, hj with
  | 0, hj => simp at hj; subst hj; simp [Addr.add]
  | 1, hj => simp at hj; subst hj; simp [Addr.add]
theorem tsy_cases (n : Int) (a b : List Int) : tboB n a b = false ∨ (tboB n a b = true ∧ ¬ a.length + b.length ≤ 16) ∨ (tboB n a b = true ∧ a.length + b.length ≤ 16) := by
  by_cases h : a.length + b.length ≤ 16 <;> cases tboB n a b <;> simp [h]
set_option maxRecDepth 20000 in
set_option maxHeartbeats 2000000 in
theorem c_implTileSystem (n : Int) (s u : Option Addr) (l c1 m c2 : Nat) (a b : List Int) (hl : l ≤ 1048576) (hm : m ≤ 1048576) (w : World) (ha : Ints w s l a) (hb : Ints w u m b) : Calls Try.prog 34 #[.int .i64 n, .slice s l c1, .slice u m c2] w (RetCT w (tsyR n a b) (tsyB n a b)) := by
  have hcb := c_implTileBoth n s u l c1 m c2 a b hl hm w ha hb
  obtain rfl := ha.len
  obtain rfl := hb.len
  have hO0 : ∀ w2 : World, OwnC w2 w.heap.size 69 (.slice none 0 0) [] := fun w2 => World.ownsRow_nil _ _ _ _
  rcases tsy_cases n a b with h | ⟨h, h1⟩ | ⟨h, h1⟩
  · have e2 : tsyB n a b = false := by simp [tsyB, h]
    have e1 : tsyR n a b = [] := by simp [tsyR, e2]
    rw [e1, e2]
    rw [h] at hcb
    clear h e1 e2
    go_enter Try.func34, Try.ntmps34
    go_wp2_with (first | (go_at_call 18; refine hcb.mono ?_; rintro e w2 ⟨rfl, hB⟩) | fail)
    go_ret2
    exact ⟨_, rfl, hO0 _, hB⟩
  · have e2 : tsyB n a b = false := by simp [tsyB, h1]
    have e1 : tsyR n a b = [] := by simp [tsyR, e2]
    rw [e1, e2]
    rw [h] at hcb
    have h3 : (16 : Int) < (a.length : Int) + (b.length : Int) := by omega
    clear h e1 e2 h1
    go_enter Try.func34, Try.ntmps34
    go_wp2_with (first | (go_at_call 18; refine hcb.mono ?_; rintro e w2 ⟨rfl, hB⟩) | fail)
    go_ret2
    exact ⟨_, rfl, hO0 _, hB⟩
  · have e2 : tsyB n a b = true := by simp [tsyB, h, h1]
    have e1 : tsyR n a b = tsyL n b := by simp [tsyR, e2]
    rw [e1, e2]
    rw [h] at hcb
    obtain ⟨hTa, hTb, _, _⟩ := tboB_til h
    obtain ⟨n1, n2, l1, l2⟩ := til_sizes hTa rfl
    have HX := Lib.hid hTb.2.2.2.2
    have h3 : ¬ (16 : Int) < (a.length : Int) + (b.length : Int) := by omega
    have HT := fun k (h : k < b.length) => tsyL_take n b k h
    have HLn : Hid ((tsyL n b).length = b.length) := Lib.hid (by simp [tsyL])
    have HE : Hid ((tsyL n b).take b.length = tsyL n b) := Lib.hid (List.take_of_length_le (by simp [tsyL]))
    clear h e1 e2 hTa hTb
    generalize tsyL n b = cs at *
    obtain ⟨i0, hi, hz0, hz1, hz2⟩ := info_parts infoCT
    go_enter Try.func34, Try.ntmps34
    go_wp2_with (first | (go_at_call 18; refine hcb.mono ?_; rintro e w2 ⟨rfl, hB⟩) | (at_make; refine wpList_make_own _ rfl _ _ 39 rfl w.heap.size 69 i0 (.agg #[.int .i64 0, .int .i64 0]) 2 Try.underlying39 hi hz0 hz1 .i64 .i64 _ b.length rfl rfl rfl (by rw [hz2]; omega) (by unfold maxLen; omega) hB.size ?_; intro w3 hown hgrow) | fail)
    have hb3 : Below w.heap.size w w3 := hB.grown hgrow hB.size (fun k h => by cases h)
    have hg2 : w.heap.size ≤ w2.heap.size := hB.size
    clear hgrow hB hcb
    generalize w2.heap.size = G at *
    go_loopw [8, 29] (fun v i wr => ∃ (k : Nat), k ≤ b.length ∧ i = .int .i64 k ∧ v = .slice (some ⟨G, 0, none⟩) k b.length ∧ wr.ownsRow w.heap.size 69 2 (.slice (some ⟨G, 0, none⟩) k b.length) k (cells2 (cs.take k)) ∧ Below w.heap.size w wr) (fun _ i _ => b.length - (intOf i).toNat)
    case atStart => exact ⟨0, Nat.zero_le _, rfl, rfl, hown, hb3⟩
    case round =>
      clear hown hb3
      obtain ⟨k, hk, rfl, rfl, hO, hB⟩ := hrel
      by_cases hlt : k < b.length
      · rcases (hb.keep hB).lies with h0 | ⟨b1, off, rfl, hb', hcells⟩
        · omega
        have hx : wr.cell? ⟨b1, off + k, none⟩ = some (.int .i64 (gZ b k)) := hcells k hlt
        have HTk := Lib.hid (HT k hlt)
        obtain ⟨q0, q1⟩ := HX.out _ (gZ_mem b k hlt)
        have hmod : gZ b k % n = gZ b k := Int.emod_eq_of_lt q0 (by omega)
        clear hcells HT
        have hcc := fun w => c_classAt (gZ b k) n n1 (by omega) w
        rw [hmod] at hcc
        clear hmod
        generalize gZ b k = y at *
        go_wp2_with (first | (go_at_call 60; refine (hcc _).mono ?_; rintro e w5 ⟨rfl, rfl⟩) | (at_builtin; refine wpList_append_fits _ rfl _ _ 39 rfl w.heap.size 69 i0 2 Try.underlying39 hi hz1 G k b.length _ rfl ((hO.alloc _).alloc _) ⟨wr.heap.size + 1, 0, none⟩ 1 1 [.int .i64 y, .int .i64 n] rfl rfl (by simpa using two_newT (wr.alloc _) _ _ _) (by simp [Value.oneCell']) (by omega) ?_; intro w7 hown7 hgrow7) | fail)
        have hb7 : Below w.heap.size w w7 := (ba (ba hB _) _).grown hgrow7 (ba (ba hB _) _).size (fun k e => by cases e; exact hg2)
        go_roundw
        case rel => exact ⟨k + 1, by omega, by go_num, rfl, by rw [HTk.out, cells2_append]; exact hown7, hb7⟩
        case measure => simp [intOf]; omega
      · have hk' : k = b.length := by omega
        subst hk'
        rw [HE.out] at hO
        have hOC : OwnC wr w.heap.size 69 (.slice (some ⟨G, 0, none⟩) b.length b.length) cs := by
          unfold OwnC; rw [HLn.out]; exact hO
        clear hO HT
        go_wp2_with fail
        go_ret2
        exact ⟨_, rfl, hOC, hB⟩
end Go.Proofs.Ytlgekggbanjmaaa
