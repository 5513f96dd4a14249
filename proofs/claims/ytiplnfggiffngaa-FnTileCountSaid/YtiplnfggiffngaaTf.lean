/- Chapter 7, the program: TileBoth, TileSystem. -/
import Derived.Test.YtiplnfggiffngaaTd
import Derived.Test.YtiplnfggiffngaaMz0
namespace Go.Proofs.Ytiplnfggiffngaa
open Go.RowKit
set_option maxRecDepth 20000 in
set_option maxHeartbeats 2000000 in
theorem c_implTileBoth (n : Int) (s u : Option Addr) (l c1 m c2 : Nat) (a b : List Int) (hl : l ≤ 1048576) (hm : m ≤ 1048576) (w : World) (ha : Ints w s l a) (hb : Ints w u m b) : Calls Try.prog 11 #[.int .i64 n, .slice s l c1, .slice u m c2] w fun e w' => e = .returned (.bool (tboB n a b)) ∧ Below w.heap.size w w' := by
  have hca := c_implTileIn n s l c1 a hl w ha
  have hcb := fun (w2 : World) (hB : Below w.heap.size w w2) => c_implTileIn n u m c2 b hm w2 (hb.keep hB)
  rcases tbo_cases n a b with h | ⟨h, h1⟩ | ⟨h, h1⟩
  · rw [tbo_f1 h]
    rw [h] at hca
    clear h hcb
    go_enter Try.func11, Try.ntmps11
    go_wp2_with (first | (go_at_call 19; refine hca.mono ?_; rintro e w2 ⟨rfl, hB⟩) | fail)
    go_ret
    exact ⟨rfl, hB⟩
  · rw [tbo_f2 h1]
    rw [h] at hca
    rw [h1] at hcb
    clear h h1
    go_enter Try.func11, Try.ntmps11
    go_wp2_with fail
    refine hca.mono ?_
    rintro e w2 ⟨rfl, hB⟩
    go_wp2_with fail
    refine (hcb w2 hB).mono ?_
    rintro e w3 ⟨rfl, hB3⟩
    go_wp2_with fail
    go_ret
    exact ⟨rfl, bt2 hB hB3⟩
  · have HR := Lib.hid (tbo_t h h1)
    rw [h] at hca
    rw [h1] at hcb
    have hTa := tilB_t.1 h
    have hTb := tilB_t.1 h1
    obtain ⟨n1, n2, l1, l2⟩ := til_sizes hTa ha.len
    obtain ⟨_, _, m1, m2⟩ := til_sizes hTb hb.len
    obtain rfl := ha.len
    obtain rfl := hb.len
    have HXa := Lib.hid hTa.2.2.2.2
    have HXb := Lib.hid hTb.2.2.2.2
    have hmul := mul_le24 l2 m2
    have HLe := Lib.hid (fun i k => sumK_le n a b i k)
    have hK0 : Hid (sumK n a b 0 0 = []) := Lib.hid (sumK_zero n a b)
    have HL := Lib.hid (tsuL_length n a b)
    clear h h1 hTa hTb
    obtain ⟨i0, hi, hz0, hz1, hz2⟩ := info_parts infoQ
    go_enter Try.func11, Try.ntmps11
    go_wp2_with fail
    refine hca.mono ?_
    rintro e w2 ⟨rfl, hB2⟩
    go_wp2_with fail
    refine (hcb w2 hB2).mono ?_
    rintro e w3 ⟨rfl, hB3⟩
    go_wp2_with fail
    have hB0 := bt2 hB2 hB3
    clear hca hcb hB2 hB3
    have hO0 : w3.ownsRow w.heap.size 3 1 (.slice none 0 0) (sumK n a b 0 0).length ((sumK n a b 0 0).map (Value.int .i64)) := by rw [hK0.out]; exact World.ownsRow_nil _ _ _ _
    go_loopw [7, 26] (fun v i wr => ∃ (i' : Nat), i' ≤ a.length ∧ i = .int .i64 i' ∧ wr.ownsRow w.heap.size 3 1 v (sumK n a b i' 0).length ((sumK n a b i' 0).map (Value.int .i64)) ∧ Below w.heap.size w wr) (fun _ i _ => a.length - (intOf i).toNat)
    case atStart => exact ⟨0, Nat.zero_le _, rfl, hO0, hB0⟩
    case round =>
      clear hO0 hB0
      obtain ⟨i, hi', rfl, hO, hB⟩ := hrel
      by_cases hlt : i < a.length
      · rcases (ha.keep hB).lies with h0 | ⟨b1, o1, rfl, hbw, hcells⟩
        · omega
        have hx : wr.cell? ⟨b1, o1 + i, none⟩ = some (.int .i64 (gZ a i)) := hcells i hlt
        obtain ⟨p0, p1⟩ := HXa.out _ (gZ_mem a i hlt)
        have hrow := Lib.hid (sumK_row n a b i hlt)
        clear hcells
        have HN := fun k (h : k < b.length) => sumK_next n a b i k h
        generalize gZ a i = x at *
        go_wp2_with fail
        go_loopw [7, 32] (fun v i2 wr => ∃ (k : Nat), k ≤ b.length ∧ i2 = .int .i64 k ∧ wr.ownsRow w.heap.size 3 1 v (sumK n a b i k).length ((sumK n a b i k).map (Value.int .i64)) ∧ Below w.heap.size w wr) (fun _ i2 _ => b.length - (intOf i2).toNat)
        case atStart => exact ⟨0, Nat.zero_le _, rfl, hO, hB⟩
        case round =>
          clear hO hB hx hbw
          obtain ⟨k, hk, rfl, hO, hB⟩ := hrel
          by_cases hlt2 : k < b.length
          · rcases (hb.keep hB).lies with h0 | ⟨b2, o2, rfl, hbw2, hcells2⟩
            · omega
            have hy : wr.cell? ⟨b2, o2 + k, none⟩ = some (.int .i64 (gZ b k)) := hcells2 k hlt2
            obtain ⟨q0, q1⟩ := HXb.out _ (gZ_mem b k hlt2)
            have HNk := Lib.hid (HN k hlt2)
            have hLK := HLe.out i k
            clear hcells2 HN
            generalize gZ b k = y at *
            have hcr := fun w => c_restOf (x + y) n n1 (by omega) w
            have hbs : w.heap.size ≤ wr.heap.size := hB.size
            generalize hLe : (sumK n a b i k).length = L at *
            go_wp2_with (first | (go_at_call 24; refine (hcr _).mono ?_; rintro e w5 ⟨rfl, rfl⟩) | (at_builtin; refine wpList_append_own _ rfl _ _ 23 rfl w.heap.size 3 i0 (.int .i64 0) 1 8 Try.underlying23 hi hz0 hz1 hz2 rfl (by decide) _ L _ rfl (hO.alloc _) ⟨wr.heap.size, 0, none⟩ 1 1 [.int .i64 ((x + y) % n)] rfl rfl (one_newQ wr _ _) (by simp [Value.oneCell']) (by unfold maxLen; omega) (by omega) (by simp; omega) ?_; intro v7 w7 hown7 hgrow7 _) | fail)
            have hb7 : Below w.heap.size w w7 := (hB.alloc hbs _).grown hgrow7 (by simp; omega) (fun g e => (hO.lt g e).1)
            go_roundw
            case rel => exact ⟨k + 1, by omega, by go_num, by rw [HNk.out, List.map_append, List.length_append, hLe]; exact hown7, hb7⟩
            case measure => simp [intOf]; omega
          · have hk' : k = b.length := by omega
            subst hk'
            clear HN
            go_wp2_with fail
            go_roundw
            case rel => exact ⟨i + 1, by omega, by go_num, by rw [← hrow.out]; exact hO, hB⟩
            case measure => simp [intOf]; omega
      · have hk' : i = a.length := by omega
        subst hk'
        rw [sumK_end] at hO
        have hOI : OwnI wr w.heap.size 3 u7 (tsuL n a b) := hO
        have hne : tsuL n a b ≠ [] := by
          intro e
          have := HL.out
          rw [e] at this
          have := Nat.mul_pos (show 0 < a.length by omega) (show 0 < b.length by omega)
          simp at *
          omega
        rcases hOI.cases with ⟨_, h0⟩ | ⟨g, cap, rfl, hg⟩
        · exact absurd h0 hne
        have hLx := HL.out
        have hcs := fun w3 hO3 => c_inOrderOnce g (tsuL n a b).length cap w.heap.size (tsuL n a b) rfl (by omega) w3 hO3
        unfold InOrd at hcs
        rw [tasB_srtI] at hcs
        have hLz : (((tsuL n a b).length : Nat) : Int) = (a.length : Int) * (b.length : Int) := by rw [hLx]; exact Int.natCast_mul _ _
        generalize hD : decide (tsuL n a b).Nodup = D at *
        generalize tsuL n a b = ms at *
        clear hO HLe hK0 HL hne hD hLx
        cases D
        · clear hLz
          go_wp2_with (first | (go_at_call 25; refine (hcs _ hOI).mono ?_; rintro e w4 ⟨rfl, hO4, hg4⟩) | fail)
          have hB4 : Below w.heap.size w w4 := hB.grown hg4 hB.size (fun k e => by cases e; exact hg)
          go_ret
          exact ⟨by rw [HR.out]; rfl, hB4⟩
        · have HE : Hid (tboB n a b = decide ((ms.length : Int) = n)) := Lib.hid (by rw [HR.out, hLz]; rfl)
          by_cases hq : (ms.length : Int) = n
          · have HF : Hid (tboB n a b = true) := Lib.hid (by rw [HE.out]; exact decide_eq_true hq)
            have hq' : ((ms.length : Int) == n) = true := by simpa using hq
            clear hq hLz
            go_wp2_with (first | (go_at_call 25; refine (hcs _ hOI).mono ?_; rintro e w4 ⟨rfl, hO4, hg4⟩) | fail)
            have hB4 : Below w.heap.size w w4 := hB.grown hg4 hB.size (fun k e => by cases e; exact hg)
            go_ret
            exact ⟨by rw [HF.out]; simp, hB4⟩
          · have HF : Hid (tboB n a b = false) := Lib.hid (by rw [HE.out]; exact decide_eq_false hq)
            have hq' : ((ms.length : Int) == n) = false := by simpa using hq
            clear hq hLz
            go_wp2_with (first | (go_at_call 25; refine (hcs _ hOI).mono ?_; rintro e w4 ⟨rfl, hO4, hg4⟩) | fail)
            have hB4 : Below w.heap.size w w4 := hB.grown hg4 hB.size (fun k e => by cases e; exact hg)
            go_ret
            exact ⟨by rw [HF.out]; simp, hB4⟩
theorem two_newT (w : World) (x y : Value) (t : TypeId) : ∀ j u, [x, y][j]? = some u → (w.alloc (.cells #[x, y] t)).cell? ((⟨w.heap.size, 0, none⟩ : Addr).add j) = some u := by
  intro j u hj
  match j, hj with
  | 0, hj => simp at hj; subst hj; simp [Addr.add]
  | 1, hj => simp at hj; subst hj; simp [Addr.add]
theorem tsy_cases (n : Int) (a b : List Int) : tboB n a b = false ∨ (tboB n a b = true ∧ ¬ a.length + b.length ≤ 16) ∨ (tboB n a b = true ∧ a.length + b.length ≤ 16) := by
  by_cases h : a.length + b.length ≤ 16 <;> cases tboB n a b <;> simp [h]
end Go.Proofs.Ytiplnfggiffngaa
