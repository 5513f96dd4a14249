/- Chapter 7, the model: TileScaled, TileStep, TileBoth, TileSystem. -/
import Derived.Test.YtiplnfggiffngaaTc
import Derived.Test.YtiplnfggiffngaaMz0
namespace Go.Proofs.Ytiplnfggiffngaa
open Go.RowKit
theorem tsk_cases (n k : Int) (z : List Int) : (tilB n z = false) ∨ (tilB n z = true ∧ l6B k 1 1000 = false) ∨ (tilB n z = true ∧ l6B k 1 1000 = true) := by
  cases tilB n z <;> cases l6B k 1 1000 <;> simp
theorem tmod_pos (x n : Int) (h : 0 ≤ x) : x.tmod n = x % n := Int.tmod_eq_emod_of_nonneg h
set_option maxRecDepth 20000 in
set_option maxHeartbeats 2000000 in
theorem c_specTileScaled (n k : Int) (s : Option Addr) (l cap : Nat) (z : List Int) (hl : l ≤ 1048576) (w : World) (hz : Ints w s l z) : Calls Try.prog 17 #[.int .i64 n, .slice s l cap, .int .i64 k] w (RetLB w (tscR n z k) (tscB n z k)) := by
  have hca := c_specTileIn n s l cap z hl w hz
  have hc6 := fun w => c_l6In k 1 1000 w
  rcases tsk_cases n k z with h | ⟨h, h1⟩ | ⟨h, h1⟩
  · have e2 : tscB n z k = false := by simp [tscB, h]
    have e1 : tscR n z k = [] := by simp [tscR, e2]
    rw [e1, e2]
    rw [h] at hca
    clear h e1 e2
    go_enter Try.func17, Try.ntmps17
    go_wp2_with (first | (go_at_call 22; refine hca.mono ?_; rintro e w2 ⟨rfl, hB⟩) | fail)
    have hO1 : OwnI (w2.alloc (.cells #[] 3)) w2.heap.size 3 (.slice (some ⟨w2.heap.size, 0, none⟩) 0 0) [] := World.ownsRow_lit w2 #[] 0 (Nat.le_refl _) (by unfold maxLen; omega) rfl
    go_ret2
    exact ⟨_, rfl, hO1.low hB.size, ba hB _⟩
  · have e2 : tscB n z k = false := by simp [tscB, h1]
    have e1 : tscR n z k = [] := by simp [tscR, e2]
    rw [e1, e2]
    rw [h] at hca
    rw [h1] at hc6
    clear h h1 e1 e2
    go_enter Try.func17, Try.ntmps17
    go_wp2_with (first | (go_at_call 22; refine hca.mono ?_; rintro e w2 ⟨rfl, hB⟩) | (go_at_call 32; refine (hc6 _).mono ?_; rintro e w3 ⟨rfl, rfl⟩) | fail)
    have hO1 : OwnI (w2.alloc (.cells #[] 3)) w2.heap.size 3 (.slice (some ⟨w2.heap.size, 0, none⟩) 0 0) [] := World.ownsRow_lit w2 #[] 0 (Nat.le_refl _) (by unfold maxLen; omega) rfl
    go_ret2
    exact ⟨_, rfl, hO1.low hB.size, ba hB _⟩
  · rw [h] at hca
    rw [h1] at hc6
    have hT := tilB_t.1 h
    have hk : 1 ≤ k ∧ k ≤ 1000 := by simpa [l6B] using h1
    obtain ⟨k1, k2⟩ := hk
    obtain ⟨n1, n2, l1, l2⟩ := tsizes hT hz.len
    obtain rfl := hz.len
    obtain ⟨N, rfl⟩ : ∃ N : Nat, n = (N : Int) := ⟨n.toNat, by omega⟩
    have HB := Lib.hid (show tscB N z k = decide (tscL N z k).Nodup by simp [tscB, h, h1])
    have HRt : Hid (tscB N z k = true → tscR N z k = setL N fun y => decide (y ∈ tscL N z k)) := Lib.hid (fun e => by simp only [tscR, e, cond_true]; unfold plc; rw [Int.toNat_natCast])
    have HRf : Hid (tscB N z k = false → tscR N z k = []) := Lib.hid (fun e => by simp [tscR, e])
    have HX := Lib.hid hT.2.2.2.2
    have HT : ∀ j, j < z.length → (tscL N z k).take (j + 1) = (tscL N z k).take j ++ [gZ z j * k % (N : Int)] := fun j h => take_next (fun x => x * k % (N : Int)) z j h
    have HE : Hid ((tscL N z k).take z.length = tscL N z k) := Lib.hid (List.take_of_length_le (by simp [tscL]))
    clear h h1 hT
    generalize tscL N z k = ms at *
    generalize tscR N z k = R at *
    generalize tscB N z k = Bo at *
    obtain ⟨i0, hi, hz0, hz1, hz2⟩ := info_parts infoB
    go_enter Try.func17, Try.ntmps17
    go_wp2_with (first | (go_at_call 22; refine hca.mono ?_; rintro e w2 ⟨rfl, hB2⟩) | (go_at_call 32; refine (hc6 _).mono ?_; rintro e w3 ⟨rfl, rfl⟩) | (at_make; refine wpList_make_full _ rfl _ _ 54 rfl w.heap.size 4 i0 (.bool false) 1 Try.underlying54 hi hz0 hz1 .i64 .i64 _ _ N rfl rfl rfl rfl (by rw [hz2]; omega) (by unfold maxLen; omega) hB2.size ?_; intro w1 hown hgrow) | fail)
    clear hca hc6
    have h0 : OwnV w1 w.heap.size 4 (.slice (some ⟨w2.heap.size, 0, none⟩) N N) (flg (mks N (ms.take 0))) := by
      show w1.ownsRow _ _ _ _ _ _
      rw [show ms.take 0 = [] from rfl, mks_nil, flg, List.map_replicate, List.length_replicate, ← madeV]
      exact hown
    have hb0 : Below w.heap.size w w1 := hB2.grown hgrow hB2.size (fun k h => by cases h)
    have hg2 : w.heap.size ≤ w2.heap.size := hB2.size
    clear hown hgrow hB2
    generalize w2.heap.size = G at *
    go_loopw [9] (fun i wr => ∃ j : Nat, j ≤ z.length ∧ i = .int .i64 j ∧ Hid (ms.take j).Nodup ∧ OwnV wr w.heap.size 4 (.slice (some ⟨G, 0, none⟩) N N) (flg (mks N (ms.take j))) ∧ Below w.heap.size w wr) (fun i _ => z.length - (intOf i).toNat)
    case atStart => exact ⟨0, Nat.zero_le _, rfl, Lib.hid (by simp), h0, hb0⟩
    case round =>
      clear h0 hb0
      obtain ⟨j, hj, rfl, hnd, hO, hB⟩ := hrel
      have hml : (flg (mks N (ms.take j))).length = N := by simp [flg, mks_length]
      by_cases hlt : j < z.length
      · rcases (hz.keep hB).lies with h0 | ⟨b, off, rfl, hbw, hcells⟩
        · omega
        have hx : wr.cell? ⟨b, off + j, none⟩ = some (.int .i64 (gZ z j)) := hcells j hlt
        have HTk := HT j hlt
        obtain ⟨p0, p1⟩ := HX.out _ (gZ_mem z j hlt)
        clear hcells HT
        have q0 := Int.emod_nonneg (gZ z j * k) (show (N : Int) ≠ 0 by omega)
        have q1 := Int.emod_lt_of_pos (gZ z j * k) (show (0 : Int) < N by omega)
        have hm0 : 0 ≤ gZ z j * k := Int.mul_nonneg p0 (by omega)
        have hm1 : gZ z j * k ≤ 1000000 := by
          have := Int.mul_le_mul (show gZ z j ≤ 1000 by omega) k2 (by omega) (by omega); omega
        obtain ⟨X, hX⟩ : ∃ X : Nat, gZ z j * k % (N : Int) = (X : Int) := ⟨(gZ z j * k % (N : Int)).toNat, by omega⟩
        have hXt : (gZ z j * k).tmod (N : Int) = (X : Int) := by rw [tmod_pos _ _ hm0, hX]
        rw [hX] at q0 q1 HTk
        have hXn : X < N := by omega
        have x0 := hO.cell hml X hXn
        rw [mks_at N _ X hXn] at x0
        have f0 := hO.free hml X
        have hN0 : (N : Int) ≠ 0 := by omega
        cases hd : decide ((X : Int) ∈ ms.take j)
        · have HP : Hid (OwnV (wr.setCell ⟨G, X, none⟩ (.bool true)) w.heap.size 4 (.slice (some ⟨G, 0, none⟩) N N) (flg (mks N (ms.take (j + 1))))) := Lib.hid (by
            rw [HTk, ← mks_put N _ X hXn]
            exact hO.store hml X _)
          have HN : Hid (ms.take (j + 1)).Nodup := Lib.hid (by rw [HTk]; exact nodup_snoc hnd.out (by simpa using hd))
          rw [hd] at x0
          clear HTk hX hml hd
          generalize gZ z j = x at *
          go_wp2_with fail
          go_roundw
          case rel => exact ⟨j + 1, by omega, by go_num, HN, HP.out, hB.setCell hg2 _⟩
          case measure => simp [intOf]; omega
        · have hbad := take_bad HTk (by simpa using hd)
          have e2 : Bo = false := by rw [HB.out, hbad]
          have e1 := HRf.out e2
          rw [e1, e2]
          rw [hd] at x0
          clear HTk hX hml hd hbad e1 e2
          generalize gZ z j = x at *
          go_wp2_with fail
          have hO1 : OwnI (wr.alloc (.cells #[] 3)) wr.heap.size 3 (.slice (some ⟨wr.heap.size, 0, none⟩) 0 0) [] := World.ownsRow_lit wr #[] 0 (Nat.le_refl _) (by unfold maxLen; omega) rfl
          go_ret2
          exact ⟨_, rfl, hO1.low hB.size, ba hB _⟩
      · have hk' : j = z.length := by omega
        subst hk'
        rw [HE.out] at hO hnd
        have e2 : Bo = true := by rw [HB.out]; exact decide_eq_true hnd.out
        have e1 := HRt.out e2
        have E1 := Lib.hid e1
        have E2 := Lib.hid e2
        clear hml HT e1 e2
        go_wp2_with fail
        refine (c_l7Set _ _ _ _ ms (by omega) _ hO).mono ?_
        rintro e w4 ⟨v, rfl, hO4, hB4⟩
        go_wp2_with fail
        go_ret2
        exact ⟨_, by rw [E2.out]; rfl, by rw [E1.out]; exact hO4.low hB.size, bt2 hB hB4⟩
end Go.Proofs.Ytiplnfggiffngaa
