/- Chapter 7, the program: TileMoved, TileStep, TileScaled. -/
import Derived.Test.YtlgekggbanjmaaaTb
import Derived.Test.YtlgekggbanjmaaaTc
namespace Go.Proofs.Ytlgekggbanjmaaa
open Go.RowKit
set_option maxRecDepth 20000 in
set_option maxHeartbeats 1000000 in
theorem c_equalS (s u : Option Addr) (l c1 m c2 : Nat) (z y : List Int) (hl : l ≤ 1048576) (hm : m ≤ 1048576) (w : World) (hz : Ints w s l z) (hy : Ints w u m y) : Calls Try.prog 44 #[.slice s l c1, .slice u m c2] w fun e w' => e = .returned (.bool (z == y)) ∧ Below w.heap.size w w' := by
  obtain rfl := hz.len
  obtain rfl := hy.len
  by_cases hlm : z.length = y.length
  · have HQ := Lib.hid (fun h => eq_gZ (z := z) (y := y) hlm h)
    have hne : ((z.length : Int) != (y.length : Int)) = false := by simp; omega
    go_enter Try.func44, Try.ntmps44
    go_wp2_with fail
    go_loopw [13] (fun i wr => ∃ (k : Nat), k ≤ z.length ∧ i = .int .i64 k ∧ Hid (∀ i, i < k → gZ z i = gZ y i) ∧ Below w.heap.size w wr) (fun i _ => z.length - (intOf i).toNat)
    case atStart => exact ⟨0, by omega, rfl, Lib.hid (fun i h => by omega), Below.refl _ _⟩
    case round =>
      obtain ⟨k, hk, rfl, hok, hB⟩ := hrel
      by_cases hlt : k < z.length
      · rcases (hz.keep hB).lies with h0 | ⟨b, off, rfl, hbw, hcells⟩
        · omega
        rcases (hy.keep hB).lies with h0 | ⟨b', off', rfl, hbw', hcells'⟩
        · omega
        have hx : wr.cell? ⟨b, off + k, none⟩ = some (.int .i64 (gZ z k)) := hcells k hlt
        have hx' : wr.cell? ⟨b', off' + k, none⟩ = some (.int .i64 (gZ y k)) := hcells' k (by omega)
        have hk0 : (0 : Int) ≤ (k : Int) := by omega
        have hk1 : (k : Int) < (z.length : Int) := by omega
        have hk2 : (k : Int) < (y.length : Int) := by omega
        clear hcells hcells' hne
        by_cases ha : gZ z k = gZ y k
        · have HN : Hid (∀ i, i < k + 1 → gZ z i = gZ y i) := Lib.hid (fun i hi => by
            by_cases e : i = k
            · subst e; exact ha
            · exact hok.out i (by omega))
          have ha' : (gZ z k != gZ y k) = false := by simp [ha]
          clear ha
          go_wp2_with fail
          go_quiet (fail)
          go_wp2_with fail
          go_roundw
          case rel => exact ⟨k + 1, by omega, by go_num, HN, bel_drewN hB _⟩
          case measure => simp [intOf]; omega
        · have HN := Lib.hid (show (z == y) = false by
            simp only [beq_eq_false_iff_ne]
            intro e; exact ha (by rw [e]))
          have ha' : (gZ z k != gZ y k) = true := by simpa using ha
          clear ha
          go_wp2_with fail
          go_quiet (fail)
          go_wp2_with fail
          go_ret
          exact ⟨by rw [HN.out]; rfl, bel_drewN hB _⟩
      · have hk' : k = z.length := by omega
        subst hk'
        have HN := Lib.hid (show (z == y) = true by rw [HQ.out hok.out]; simp)
        clear hne
        go_wp2_with fail
        go_ret
        exact ⟨by rw [HN.out]; rfl, hB⟩
  · have HN := Lib.hid (show (z == y) = false by
      simp only [beq_eq_false_iff_ne]
      intro e; exact hlm (by rw [e]))
    have hne : ((z.length : Int) != (y.length : Int)) = true := by simp; omega
    clear hlm
    go_enter Try.func44, Try.ntmps44
    go_wp2_with fail
    go_ret
    exact ⟨by rw [HN.out]; rfl, Below.refl _ _⟩
set_option maxRecDepth 20000 in
set_option maxHeartbeats 2000000 in
theorem c_implTileMoved (n t : Int) (s : Option Addr) (l cap : Nat) (z : List Int) (hl : l ≤ 1048576) (w : World) (hz : Ints w s l z) : Calls Try.prog 14 #[.int .i64 n, .slice s l cap, .int .i64 t] w (RetLB w (tmdR n z t) (tmdB n z t)) := by
  have hca := c_implTileIn n s l cap z hl w hz
  have hO0 : ∀ w2 : World, OwnI w2 w.heap.size 3 (.slice none 0 0) [] := fun w2 => World.ownsRow_nil _ _ _ _
  rcases tmd_cases n t z with h | ⟨h, h1⟩ | ⟨h, h1⟩
  · have e2 : tmdB n z t = false := by simp [tmdB, h]
    have e1 : tmdR n z t = [] := by simp [tmdR, e2]
    rw [e1, e2]
    rw [h] at hca
    clear h e1 e2
    go_enter Try.func14, Try.ntmps14
    go_wp2_with (first | (go_at_call 12; refine hca.mono ?_; rintro e w2 ⟨rfl, hB⟩) | fail)
    go_ret2
    exact ⟨_, rfl, hO0 _, hB⟩
  · have e2 : tmdB n z t = false := by simp [tmdB, h1]
    have e1 : tmdR n z t = [] := by simp [tmdR, e2]
    rw [e1, e2]
    rw [h] at hca
    have h1' : ¬ (-1000 ≤ t ∧ t ≤ 1000) := by simpa [l6B] using h1
    clear h h1 e1 e2
    by_cases h2 : t < -1000
    · have h2' : decide (t < -1000) = true := decide_eq_true h2
      clear h1' h2
      go_enter Try.func14, Try.ntmps14
      go_wp2_with (first | (go_at_call 12; refine hca.mono ?_; rintro e w2 ⟨rfl, hB⟩) | fail)
      go_ret2
      exact ⟨_, rfl, hO0 _, hB⟩
    · have h2' : decide (t < -1000) = false := decide_eq_false h2
      have h3' : decide (1000 < t) = true := decide_eq_true (by omega)
      clear h1' h2
      go_enter Try.func14, Try.ntmps14
      go_wp2_with (first | (go_at_call 12; refine hca.mono ?_; rintro e w2 ⟨rfl, hB⟩) | fail)
      go_ret2
      exact ⟨_, rfl, hO0 _, hB⟩
  · have e2 : tmdB n z t = true := by simp [tmdB, h, h1]
    have e1 : tmdR n z t = tmvR n z t := by simp [tmdR, e2]
    rw [e1, e2]
    rw [h] at hca
    have hT := tilB_t.1 h
    have ht : -1000 ≤ t ∧ t ≤ 1000 := by simpa [l6B] using h1
    have hcm := fun (w2 : World) (hB : Below w.heap.size w w2) => c_moved n t s l cap z hT ht.1 ht.2 w2 (hz.keep hB)
    have h2' : decide (t < -1000) = false := decide_eq_false (by omega)
    have h3' : decide (1000 < t) = false := decide_eq_false (by omega)
    clear h h1 e1 e2 hT ht
    go_enter Try.func14, Try.ntmps14
    go_wp2_with (first | (go_at_call 12; refine hca.mono ?_; rintro e w2 ⟨rfl, hB⟩) | (go_at_call 43; refine (hcm _ hB).mono ?_; rintro e w4 ⟨v, rfl, hO, hB4⟩) | fail)
    go_ret2
    exact ⟨_, rfl, hO.low hB.size, bt2 hB hB4⟩
theorem tsc_cases (n k : Int) (z : List Int) : (tilB n z = false) ∨ (tilB n z = true ∧ l6B k 1 1000 = false) ∨ (tilB n z = true ∧ l6B k 1 1000 = true) := by
  cases tilB n z <;> cases l6B k 1 1000 <;> simp
set_option maxRecDepth 20000 in
set_option maxHeartbeats 2000000 in
theorem c_implTileScaled (n k : Int) (s : Option Addr) (l cap : Nat) (z : List Int) (hl : l ≤ 1048576) (w : World) (hz : Ints w s l z) : Calls Try.prog 31 #[.int .i64 n, .slice s l cap, .int .i64 k] w (RetLB w (tscR n z k) (tscB n z k)) := by
  have hb : Below w.heap.size w ((w.alloc (.cells #[.int .i64 n] 3)).alloc (.cells #[.int .i64 k] 3)) := ba (ba (Below.refl _ _) _) _
  have c1 : ((w.alloc (.cells #[.int .i64 n] 3)).alloc (.cells #[.int .i64 k] 3)).cell? ⟨w.heap.size + 1, 0, none⟩ = some (.int .i64 k) := by simp
  have c2 : ((w.alloc (.cells #[.int .i64 n] 3)).alloc (.cells #[.int .i64 k] 3)).cell? ⟨w.heap.size, 0, none⟩ = some (.int .i64 n) := kc (w := w) (ba (Below.refl _ _) _) 0
  have hca := c_implTileIn n s l cap z hl _ (hz.keep hb)
  have hO0 : ∀ w2 : World, OwnI w2 w.heap.size 3 (.slice none 0 0) [] := fun w2 => World.ownsRow_nil _ _ _ _
  rcases tsc_cases n k z with h | ⟨h, h1⟩ | ⟨h, h1⟩
  · have e2 : tscB n z k = false := by simp [tscB, h]
    have e1 : tscR n z k = [] := by simp [tscR, e2]
    rw [e1, e2]
    rw [h] at hca
    clear h e1 e2
    go_enter Try.func31, Try.ntmps31
    go_wp2_with (first | (go_at_call 12; refine hca.mono ?_; rintro e w2 ⟨rfl, hB⟩) | fail)
    go_ret2
    exact ⟨_, rfl, hO0 _, bt2 hb hB⟩
  · have e2 : tscB n z k = false := by simp [tscB, h1]
    have e1 : tscR n z k = [] := by simp [tscR, e2]
    rw [e1, e2]
    rw [h] at hca
    have h1' : ¬ (1 ≤ k ∧ k ≤ 1000) := by simpa [l6B] using h1
    clear h h1 e1 e2
    by_cases h2 : k < 1
    · have h2' : decide (k < 1) = true := decide_eq_true h2
      clear h1' h2
      go_enter Try.func31, Try.ntmps31
      go_wp2_with (first | (go_at_call 12; refine hca.mono ?_; rintro e w2 ⟨rfl, hB⟩; have k1 := keepc hB c1; have k2 := keepc hB c2) | fail)
      go_ret2
      exact ⟨_, rfl, hO0 _, bt2 hb hB⟩
    · have h2' : decide (k < 1) = false := decide_eq_false h2
      have h3' : decide (1000 < k) = true := decide_eq_true (by omega)
      clear h1' h2
      go_enter Try.func31, Try.ntmps31
      go_wp2_with (first | (go_at_call 12; refine hca.mono ?_; rintro e w2 ⟨rfl, hB⟩; have k1 := keepc hB c1; have k2 := keepc hB c2) | fail)
      go_ret2
      exact ⟨_, rfl, hO0 _, bt2 hb hB⟩
  · rw [h] at hca
    have hT := tilB_t.1 h
    have hk : 1 ≤ k ∧ k ≤ 1000 := by simpa [l6B] using h1
    obtain ⟨n1, n2, l1, l2⟩ := til_sizes hT hz.len
    have hcm := fun (w2 : World) (hB : Below w.heap.size w w2) (k1 : w2.cell? ⟨w.heap.size + 1, 0, none⟩ = some (.int .i64 k)) (k2 : w2.cell? ⟨w.heap.size, 0, none⟩ = some (.int .i64 n)) => c_mappedS s l cap z k n (w.heap.size + 1) w.heap.size l2 n1 n2 (by omega) hk.2 hT.2.2.2.2 w2 (hz.keep hB) k1 k2
    have h2' : decide (k < 1) = false := decide_eq_false (by omega)
    have h3' : decide (1000 < k) = false := decide_eq_false (by omega)
    have HB := Lib.hid (show tscB n z k = decide (tscL n z k).Nodup by simp [tscB, h, h1])
    have HS : Hid ((tscL n z k).Nodup → srtI (tscL n z k) = plc n (tscL n z k)) := Lib.hid (fun hd => plc_srt n1 (tscL_bd z k n1) hd)
    clear h h1 hT hk
    cases hd : decide (tscL n z k).Nodup
    · have e2 : tscB n z k = false := by rw [HB.out, hd]
      have e1 : tscR n z k = [] := by simp [tscR, e2]
      rw [e1, e2]
      unfold MapS at hcm
      rw [hd] at hcm
      clear e1 e2 hd HS HB
      go_enter Try.func31, Try.ntmps31
      go_wp2_with (first | (go_at_call 12; refine hca.mono ?_; rintro e w2 ⟨rfl, hB⟩; have k1 := keepc hB c1; have k2 := keepc hB c2) | (go_at_call 57; refine (hcm _ (bt2 hb hB) k1 k2).mono ?_; rintro e w4 ⟨v, rfl, hO, hB4⟩) | fail)
      go_ret2
      exact ⟨_, rfl, hO0 _, bt2 (bt2 hb hB) hB4⟩
    · have e2 : tscB n z k = true := by rw [HB.out, hd]
      have e1 : tscR n z k = srtI (tscL n z k) := by simp only [tscR, e2, cond_true]; exact (HS.out (by simpa using hd)).symm
      rw [e1, e2]
      unfold MapS at hcm
      rw [hd] at hcm
      clear e1 e2 hd HS HB
      go_enter Try.func31, Try.ntmps31
      go_wp2_with (first | (go_at_call 12; refine hca.mono ?_; rintro e w2 ⟨rfl, hB⟩; have k1 := keepc hB c1; have k2 := keepc hB c2) | (go_at_call 57; refine (hcm _ (bt2 hb hB) k1 k2).mono ?_; rintro e w4 ⟨v, rfl, hO, hB4⟩) | fail)
      go_ret2
      exact ⟨_, rfl, hO.low (bt2 hb hB).size, bt2 (bt2 hb hB) hB4⟩
set_option maxRecDepth 20000 in
set_option maxHeartbeats 2000000 in
theorem c_implTileStep (n : Int) (s : Option Addr) (l cap : Nat) (z : List Int) (hl : l ≤ 1048576) (w : World) (hz : Ints w s l z) : Calls Try.prog 15 #[.int .i64 n, .slice s l cap] w fun e w' => e = .returned (.tuple #[.int .i64 (stpR n z), .bool (tilB n z)]) ∧ Below w.heap.size w w' := by
  have hca := c_implTileIn n s l cap z hl w hz
  cases h : tilB n z
  · have e1 : stpR n z = 0 := by simp [stpR, h, selI]
    rw [e1]
    rw [h] at hca
    clear h e1
    go_enter Try.func15, Try.ntmps15
    go_wp2_with (first | (go_at_call 12; refine hca.mono ?_; rintro e w2 ⟨rfl, hB⟩) | fail)
    go_ret2
    exact ⟨rfl, hB⟩
  · have e1 : stpR n z = stpX n z := by simp [stpR, h, selI]
    rw [e1]
    rw [h] at hca
    have hT := tilB_t.1 h
    obtain ⟨n1, n2, l1, l2⟩ := til_sizes hT hz.len
    obtain ⟨g1, g2, g3, g4⟩ := stp_facts hT
    have HG1 := Lib.hid g1
    have HG4 := Lib.hid g4
    have HLm := Lib.hid (fun t => (tmvR_len hT t).trans hz.len)
    clear h e1 g1 g4
    have hcm := fun (t : Int) (t0 : -1000 ≤ t) (t1 : t ≤ 1000) (w2 : World) (hB : Below w.heap.size w w2) => c_moved n t s l cap z hT t0 t1 w2 (hz.keep hB)
    go_enter Try.func15, Try.ntmps15
    go_wp2_with (first | (go_at_call 12; refine hca.mono ?_; rintro e w2 ⟨rfl, hB⟩) | fail)
    clear hca
    go_loopw [6] (fun i wr => ∃ (d : Int), i = .int .i64 d ∧ 1 ≤ d ∧ d ≤ stpX n z ∧ Below w.heap.size w wr) (fun i _ => (stpX n z + 1 - intOf i).toNat)
    case atStart => exact ⟨1, rfl, by omega, g2, hB⟩
    case round =>
      clear hB
      obtain ⟨d, rfl, d1, d2, hB⟩ := hrel
      have hce := fun (w3 : World) (v : Value) (hB3 : Below w.heap.size w w3) (hO : OwnI w3 wr.heap.size 3 v (tmvR n z d)) => (show ∃ s' c', v = .slice s' l c' ∧ Calls Try.prog 44 #[v, .slice s l cap] w3 (fun e w' => e = .returned (.bool (tmvR n z d == z)) ∧ Below w3.heap.size w3 w') from by
        obtain ⟨s', c', rfl, hI, _⟩ := hO.spread
        rw [HLm.out d] at hI ⊢
        exact ⟨s', c', rfl, c_equalS s' s l c' l cap _ z (by omega) hl w3 hI (hz.keep hB3)⟩)
      by_cases hd : d = stpX n z
      · have he : (tmvR n z d == z) = true := by rw [hd, HG1.out]; simp
        rw [he] at hce
        have HD := Lib.hid hd
        clear he hd
        go_wp2_with (first | (go_at_call 43; refine (hcm d (by omega) (by omega) _ hB).mono ?_; rintro e w4 ⟨v, rfl, hO, hB4⟩; obtain ⟨s', c', rfl, hcq⟩ := hce w4 v (bt2 hB hB4) hO) | (go_at_call 44; refine hcq.mono ?_; rintro e w5 ⟨rfl, hB5⟩) | fail)
        go_ret2
        exact ⟨by rw [← HD.out]; rfl, bt2 (bt2 hB hB4) hB5⟩
      · have he : (tmvR n z d == z) = false := by
          have := HG4.out d d1 (by omega)
          simpa using this
        rw [he] at hce
        have hd' : d + 1 ≤ stpX n z := by omega
        clear he hd
        go_wp2_with (first | (go_at_call 43; refine (hcm d (by omega) (by omega) _ hB).mono ?_; rintro e w4 ⟨v, rfl, hO, hB4⟩; obtain ⟨s', c', rfl, hcq⟩ := hce w4 v (bt2 hB hB4) hO) | (go_at_call 44; refine hcq.mono ?_; rintro e w5 ⟨rfl, hB5⟩) | fail)
        go_roundw
        case rel => exact ⟨d + 1, by go_num, by omega, hd', bt2 (bt2 hB hB4) hB5⟩
        case measure => simp [intOf]; omega
end Go.Proofs.Ytlgekggbanjmaaa
