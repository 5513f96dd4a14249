/- Chapter 7, the program: TileMoved, TileStep, TileScaled. -/
import Derived.Test.YtiplnfggiffngaaTb
import Derived.Test.YtiplnfggiffngaaTc
namespace Go.Proofs.Ytiplnfggiffngaa
open Go.RowKit
set_option maxRecDepth 20000 in
set_option maxHeartbeats 2000000 in
theorem c_implTileMoved (n t : Int) (s : Option Addr) (l cap : Nat) (z : List Int) (hl : l ≤ 1048576) (w : World) (hz : Ints w s l z) : Calls Try.prog 14 #[.int .i64 n, .slice s l cap, .int .i64 t] w (RetLB w (tmdR n z t) (tmdB n z t)) := by
  have hca := c_implTileIn n s l cap z hl w hz
  have hO0 : ∀ w2 : World, OwnI w2 w.heap.size 3 (.slice none 0 0) [] := fun w2 => World.ownsRow_nil _ _ _ _
  rcases tmd_cases n t z with h | ⟨h, h1⟩ | ⟨h, h1⟩
  · have e2 : tmdB n z t = false := by simp [tmdB, h]
    have e1 : tmdR n z t = [] := by simp [tmdR, e2]
    rw [e1, e2]
    rw [h] at hca
    clear h e1 e2
    go_enter Try.func14, Try.ntmps14
    go_wp2_with (first | (go_at_call 19; refine hca.mono ?_; rintro e w2 ⟨rfl, hB⟩) | fail)
    go_ret2
    exact ⟨_, rfl, hO0 _, hB⟩
  · have e2 : tmdB n z t = false := by simp [tmdB, h1]
    have e1 : tmdR n z t = [] := by simp [tmdR, e2]
    rw [e1, e2]
    rw [h] at hca
    have h1' : ¬ (-1000 ≤ t ∧ t ≤ 1000) := by simpa [l6B] using h1
    clear h h1 e1 e2
    by_cases h2 : t < -1000
    · have h2' : decide (t < -1000) = true := decide_eq_true h2
      clear h1' h2
      go_enter Try.func14, Try.ntmps14
      go_wp2_with (first | (go_at_call 19; refine hca.mono ?_; rintro e w2 ⟨rfl, hB⟩) | fail)
      go_ret2
      exact ⟨_, rfl, hO0 _, hB⟩
    · have h2' : decide (t < -1000) = false := decide_eq_false h2
      have h3' : decide (1000 < t) = true := decide_eq_true (by omega)
      clear h1' h2
      go_enter Try.func14, Try.ntmps14
      go_wp2_with (first | (go_at_call 19; refine hca.mono ?_; rintro e w2 ⟨rfl, hB⟩) | fail)
      go_ret2
      exact ⟨_, rfl, hO0 _, hB⟩
  · have e2 : tmdB n z t = true := by simp [tmdB, h, h1]
    have e1 : tmdR n z t = tmvR n z t := by simp [tmdR, e2]
    rw [e1, e2]
    rw [h] at hca
    have hT := tilB_t.1 h
    have ht : -1000 ≤ t ∧ t ≤ 1000 := by simpa [l6B] using h1
    have hcm := fun (w2 : World) (hB : Below w.heap.size w w2) => c_moved n t s l cap z hT ht.1 ht.2 w2 (hz.keep hB)
    have h2' : decide (t < -1000) = false := decide_eq_false (by omega)
    have h3' : decide (1000 < t) = false := decide_eq_false (by omega)
    clear h h1 e1 e2 hT ht
    go_enter Try.func14, Try.ntmps14
    go_wp2_with (first | (go_at_call 19; refine hca.mono ?_; rintro e w2 ⟨rfl, hB⟩) | (go_at_call 26; refine (hcm _ hB).mono ?_; rintro e w4 ⟨v, rfl, hO, hB4⟩) | fail)
    go_ret2
    exact ⟨_, rfl, hO.low hB.size, bt2 hB hB4⟩
theorem tsc_cases (n k : Int) (z : List Int) : (tilB n z = false) ∨ (tilB n z = true ∧ l6B k 1 1000 = false) ∨ (tilB n z = true ∧ l6B k 1 1000 = true) := by
  cases tilB n z <;> cases l6B k 1 1000 <;> simp
set_option maxRecDepth 20000 in
set_option maxHeartbeats 2000000 in
theorem c_implTileScaled (n k : Int) (s : Option Addr) (l cap : Nat) (z : List Int) (hl : l ≤ 1048576) (w : World) (hz : Ints w s l z) : Calls Try.prog 16 #[.int .i64 n, .slice s l cap, .int .i64 k] w (RetLB w (tscR n z k) (tscB n z k)) := by
  have hb : Below w.heap.size w ((w.alloc (.cells #[.int .i64 n] 3)).alloc (.cells #[.int .i64 k] 3)) := ba (ba (Below.refl _ _) _) _
  have c1 : ((w.alloc (.cells #[.int .i64 n] 3)).alloc (.cells #[.int .i64 k] 3)).cell? ⟨w.heap.size + 1, 0, none⟩ = some (.int .i64 k) := by simp
  have c2 : ((w.alloc (.cells #[.int .i64 n] 3)).alloc (.cells #[.int .i64 k] 3)).cell? ⟨w.heap.size, 0, none⟩ = some (.int .i64 n) := kc (w := w) (ba (Below.refl _ _) _) 0
  have hca := c_implTileIn n s l cap z hl _ (hz.keep hb)
  have hO0 : ∀ w2 : World, OwnI w2 w.heap.size 3 (.slice none 0 0) [] := fun w2 => World.ownsRow_nil _ _ _ _
  rcases tsc_cases n k z with h | ⟨h, h1⟩ | ⟨h, h1⟩
  · have e2 : tscB n z k = false := by simp [tscB, h]
    have e1 : tscR n z k = [] := by simp [tscR, e2]
    rw [e1, e2]
    rw [h] at hca
    clear h e1 e2
    go_enter Try.func16, Try.ntmps16
    go_wp2_with (first | (go_at_call 19; refine hca.mono ?_; rintro e w2 ⟨rfl, hB⟩) | fail)
    go_ret2
    exact ⟨_, rfl, hO0 _, bt2 hb hB⟩
  · have e2 : tscB n z k = false := by simp [tscB, h1]
    have e1 : tscR n z k = [] := by simp [tscR, e2]
    rw [e1, e2]
    rw [h] at hca
    have h1' : ¬ (1 ≤ k ∧ k ≤ 1000) := by simpa [l6B] using h1
    clear h h1 e1 e2
    by_cases h2 : k < 1
    · have h2' : decide (k < 1) = true := decide_eq_true h2
      clear h1' h2
      go_enter Try.func16, Try.ntmps16
      go_wp2_with (first | (go_at_call 19; refine hca.mono ?_; rintro e w2 ⟨rfl, hB⟩; have k1 := keepc hB c1; have k2 := keepc hB c2) | fail)
      go_ret2
      exact ⟨_, rfl, hO0 _, bt2 hb hB⟩
    · have h2' : decide (k < 1) = false := decide_eq_false h2
      have h3' : decide (1000 < k) = true := decide_eq_true (by omega)
      clear h1' h2
      go_enter Try.func16, Try.ntmps16
      go_wp2_with (first | (go_at_call 19; refine hca.mono ?_; rintro e w2 ⟨rfl, hB⟩; have k1 := keepc hB c1; have k2 := keepc hB c2) | fail)
      go_ret2
      exact ⟨_, rfl, hO0 _, bt2 hb hB⟩
  · rw [h] at hca
    have hT := tilB_t.1 h
    have hk : 1 ≤ k ∧ k ≤ 1000 := by simpa [l6B] using h1
    obtain ⟨n1, n2, l1, l2⟩ := til_sizes hT hz.len
    have hcm := fun (w2 : World) (hB : Below w.heap.size w w2) (k1 : w2.cell? ⟨w.heap.size + 1, 0, none⟩ = some (.int .i64 k)) (k2 : w2.cell? ⟨w.heap.size, 0, none⟩ = some (.int .i64 n)) => c_mappedS s l cap z k n (w.heap.size + 1) w.heap.size l2 n1 n2 (by omega) hk.2 hT.2.2.2.2 w2 (hz.keep hB) k1 k2
    have h2' : decide (k < 1) = false := decide_eq_false (by omega)
    have h3' : decide (1000 < k) = false := decide_eq_false (by omega)
    have HB := Lib.hid (show tscB n z k = decide (tscL n z k).Nodup by simp [tscB, h, h1])
    have HS : Hid ((tscL n z k).Nodup → srtI (tscL n z k) = plc n (tscL n z k)) := Lib.hid (fun hd => plc_srt n1 (tscL_bd z k n1) hd)
    clear h h1 hT hk
    cases hd : decide (tscL n z k).Nodup
    · have e2 : tscB n z k = false := by rw [HB.out, hd]
      have e1 : tscR n z k = [] := by simp [tscR, e2]
      rw [e1, e2]
      unfold MapS at hcm
      rw [hd] at hcm
      clear e1 e2 hd HS HB
      go_enter Try.func16, Try.ntmps16
      go_wp2_with (first | (go_at_call 19; refine hca.mono ?_; rintro e w2 ⟨rfl, hB⟩; have k1 := keepc hB c1; have k2 := keepc hB c2) | (go_at_call 30; refine (hcm _ (bt2 hb hB) k1 k2).mono ?_; rintro e w4 ⟨v, rfl, hO, hB4⟩) | fail)
      go_ret2
      exact ⟨_, rfl, hO0 _, bt2 (bt2 hb hB) hB4⟩
    · have e2 : tscB n z k = true := by rw [HB.out, hd]
      have e1 : tscR n z k = srtI (tscL n z k) := by simp only [tscR, e2, cond_true]; exact (HS.out (by simpa using hd)).symm
      rw [e1, e2]
      unfold MapS at hcm
      rw [hd] at hcm
      clear e1 e2 hd HS HB
      go_enter Try.func16, Try.ntmps16
      go_wp2_with (first | (go_at_call 19; refine hca.mono ?_; rintro e w2 ⟨rfl, hB⟩; have k1 := keepc hB c1; have k2 := keepc hB c2) | (go_at_call 30; refine (hcm _ (bt2 hb hB) k1 k2).mono ?_; rintro e w4 ⟨v, rfl, hO, hB4⟩) | fail)
      go_ret2
      exact ⟨_, rfl, hO.low (bt2 hb hB).size, bt2 (bt2 hb hB) hB4⟩
end Go.Proofs.Ytiplnfggiffngaa
