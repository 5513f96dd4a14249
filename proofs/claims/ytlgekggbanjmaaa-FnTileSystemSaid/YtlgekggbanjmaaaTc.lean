/- Chapter 7, the model: flags, moved, scaled, compared. -/
import Derived.Test.YtlgekggbanjmaaaTa
import Derived.Test.YtlgekggbanjmaaaRow
import Derived.OwnWalk
import Derived.Laws.OwnMore
namespace Go.Proofs.Ytlgekggbanjmaaa
open Go.RowKit
theorem infoR : (Try.prog.info? 3).map (fun i => (i.zero, i.size, i.bytes)) = some (some (.int .i64 0), 1, 8) := by kernel_rfl
theorem infoB : (Try.prog.info? 4).map (fun i => (i.zero, i.size, i.bytes)) = some (some (.bool false), 1, 1) := by kernel_rfl
theorem one_newR (w : World) (x : Value) (t : TypeId) : ∀ j u, [x][j]? = some u → (w.alloc (.cells #[x] t)).cell? ((⟨w.heap.size, 0, none⟩ : Addr).add j) = some u := by
  intro j u hj
  match j, hj with
  | 0, hj => simp at hj; subst hj; simp [Addr.add]
def RetL (w : World) (zs : List Int) (e : Ending) (w' : World) : Prop := ∃ v, e = .returned v ∧ OwnI w' w.heap.size 3 v zs ∧ Below w.heap.size w w'
def RetLB (w : World) (zs : List Int) (ok : Bool) (e : Ending) (w' : World) : Prop := ∃ v, e = .returned (.tuple #[v, .bool ok]) ∧ OwnI w' w.heap.size 3 v zs ∧ Below w.heap.size w w'
theorem mks_at (n : Nat) (l : List Int) (k : Nat) (h : k < n) : (flg (mks n l))[k]?.getD (.bool false) = .bool (decide ((k : Int) ∈ l)) := by
  have := mks_get n l (k : Int) (by omega) (by omega)
  simpa using this
theorem mks_put (n : Nat) (l : List Int) (k : Nat) (h : k < n) : (flg (mks n l)).set k (.bool true) = flg (mks n (l ++ [(k : Int)])) := by
  have := mks_set n l (k : Int) (by omega) (by omega)
  simpa using this
set_option maxRecDepth 20000 in
set_option maxHeartbeats 2000000 in
theorem c_l7Set (g n cap base : Nat) (l : List Int) (hn : n ≤ 1000) (w : World) (hI : OwnV w base 4 (.slice (some ⟨g, 0, none⟩) n cap) (flg (mks n l))) : Calls Try.prog 59 #[.slice (some ⟨g, 0, none⟩) n cap] w (RetL w (setL n fun y => decide (y ∈ l))) := by
  have hb1 : Below w.heap.size w (w.alloc (.cells #[] 3)) := ba (Below.refl _ _) _
  have hO1 : OwnI (w.alloc (.cells #[] 3)) w.heap.size 3 (.slice (some ⟨w.heap.size, 0, none⟩) 0 0) [] := World.ownsRow_lit w #[] 0 (Nat.le_refl _) (by unfold maxLen; omega) rfl
  have hml : (flg (mks n l)).length = n := by simp [flg, mks_length]
  have HC := Lib.hid (fun (k : Nat) (h : k < n) => mks_at n l k h)
  obtain ⟨i0, hi, hz0, hz1, hz2⟩ := info_parts infoR
  go_enter Try.func59, Try.ntmps59
  go_wp2_with fail
  generalize w.alloc (.cells #[] 3) = W1 at *
  have hO3 : W1.ownsRow w.heap.size 3 1 (.slice (some ⟨w.heap.size, 0, none⟩) 0 0) 0 [] := hO1
  clear hO1
  go_loopw [3, 4] (fun v i wr => ∃ (k : Nat), k ≤ n ∧ i = .int .i64 k ∧ wr.ownsRow w.heap.size 3 1 v (setL k fun y => decide (y ∈ l)).length ((setL k fun y => decide (y ∈ l)).map (Value.int .i64)) ∧ Below w.heap.size w wr) (fun _ i _ => n - (intOf i).toNat)
  case atStart => exact ⟨0, Nat.zero_le _, rfl, hO3, hb1⟩
  case round =>
    clear hO3 hb1
    obtain ⟨k, hk, rfl, hO, hB⟩ := hrel
    by_cases hlt : k < n
    · have hx := (hI.keep hB).cell hml k hlt
      rw [HC.out k hlt] at hx
      have hKl := setL_le k fun y => decide (y ∈ l)
      have hS := setL_succ k fun y => decide (y ∈ l)
      have hkz0 : (0 : Int) ≤ (k : Int) := by omega
      have hkz1 : (k : Int) < (n : Int) := by omega
      cases he : decide ((k : Int) ∈ l)
      · rw [he] at hx
        have HK : Hid ((setL (k + 1) fun y => decide (y ∈ l)) = setL k fun y => decide (y ∈ l)) := Lib.hid (by rw [hS]; simp only [he]; simp)
        clear hS he
        go_wp2_with fail
        go_roundw
        case rel => exact ⟨k + 1, by omega, by go_num, by rw [HK.out]; exact hO, hB⟩
        case measure => simp [intOf]; omega
      · rw [he] at hx
        have HK : Hid ((setL (k + 1) fun y => decide (y ∈ l)) = (setL k fun y => decide (y ∈ l)) ++ [(k : Int)]) := Lib.hid (by rw [hS]; simp only [he]; rfl)
        clear hS he
        generalize hLe : (setL k fun y => decide (y ∈ l)).length = L at *
        have hbs : w.heap.size ≤ wr.heap.size := hB.size
        go_wp2_with (first | (at_builtin; refine wpList_append_own _ rfl _ _ 23 rfl w.heap.size 3 i0 (.int .i64 0) 1 8 Try.underlying23 hi hz0 hz1 hz2 rfl (by decide) _ L _ rfl (hO.alloc _) ⟨wr.heap.size, 0, none⟩ 1 1 [.int .i64 k] rfl rfl (one_newR wr _ _) (by simp [Value.oneCell']) (by unfold maxLen; omega) (by omega) (by simp; omega) ?_; intro v7 w7 hown7 hgrow7 _) | fail)
        have hb7 : Below w.heap.size w w7 := (hB.alloc hbs _).grown hgrow7 (by simp; omega) (fun g e => (hO.lt g e).1)
        go_roundw
        case rel => exact ⟨k + 1, by omega, by go_num, by rw [HK.out, List.map_append, List.length_append, hLe]; exact hown7, hb7⟩
        case measure => simp [intOf]; omega
    · have hk' : k = n := by omega
      subst hk'
      go_wp2_with fail
      go_ret
      exact ⟨_, rfl, hO, hB⟩
theorem take_next (f : Int → Int) (z : List Int) (k : Nat) (h : k < z.length) : (z.map f).take (k + 1) = (z.map f).take k ++ [f (gZ z k)] := by
  rw [List.take_succ_eq_append_getElem (by simpa using h)]
  congr 2
  simp [gZ_get z k h]
theorem tsizes {n : Int} {z : List Int} {l : Nat} (h : Til n z) (hl : z.length = l) : 1 ≤ n ∧ n ≤ 24 ∧ 1 ≤ l ∧ l ≤ 24 := by
  have h1 := h.1
  have h2 := h.2.1
  have h3 := h.len
  exact ⟨h1, h2, by omega, by omega⟩
set_option maxRecDepth 20000 in
set_option maxHeartbeats 2000000 in
theorem c_l7Moved (n t : Int) (s : Option Addr) (l cap : Nat) (z : List Int) (hT : Til n z) (t0 : -1000 ≤ t) (t1 : t ≤ 1000) (w : World) (hz : Ints w s l z) : Calls Try.prog 52 #[.int .i64 n, .slice s l cap, .int .i64 t] w (RetL w (tmvR n z t)) := by
  obtain ⟨n1, n2, l1, l2⟩ := tsizes hT hz.len
  obtain rfl := hz.len
  obtain ⟨N, rfl⟩ : ∃ N : Nat, n = (N : Int) := ⟨n.toNat, by omega⟩
  have HX := Lib.hid hT.2.2.2.2
  have HT := fun k (h : k < z.length) => take_next (fun x => (x + t) % (N : Int)) z k h
  have HE : Hid ((tmvL N z t).take z.length = tmvL N z t) := Lib.hid (List.take_of_length_le (by simp [tmvL]))
  have HR : Hid (tmvR N z t = setL N fun y => decide (y ∈ tmvL N z t)) := Lib.hid (by unfold tmvR plc; rw [Int.toNat_natCast])
  have HT' : ∀ k, k < z.length → (tmvL N z t).take (k + 1) = (tmvL N z t).take k ++ [(gZ z k + t) % (N : Int)] := HT
  clear HT hT
  generalize tmvL N z t = ms at *
  obtain ⟨i0, hi, hz0, hz1, hz2⟩ := info_parts infoB
  go_enter Try.func52, Try.ntmps52
  go_wp2_with (first | (at_make; refine wpList_make_full _ rfl _ _ 66 rfl w.heap.size 4 i0 (.bool false) 1 Try.underlying66 hi hz0 hz1 .i64 .i64 _ _ N rfl rfl rfl rfl (by rw [hz2]; omega) (by unfold maxLen; omega) (Nat.le_refl _) ?_; intro w1 hown hgrow) | fail)
  have h0 : OwnV w1 w.heap.size 4 (.slice (some ⟨w.heap.size, 0, none⟩) N N) (flg (mks N (ms.take 0))) := by
    show w1.ownsRow _ _ _ _ _ _
    rw [show ms.take 0 = [] from rfl, mks_nil, flg, List.map_replicate, List.length_replicate, ← madeV]
    exact hown
  have hb0 : Below w.heap.size w w1 := (Below.refl _ _).grown hgrow (Nat.le_refl _) (fun k h => by cases h)
  clear hown hgrow
  go_loopw [8] (fun i wr => ∃ k : Nat, k ≤ z.length ∧ i = .int .i64 k ∧ OwnV wr w.heap.size 4 (.slice (some ⟨w.heap.size, 0, none⟩) N N) (flg (mks N (ms.take k))) ∧ Below w.heap.size w wr) (fun i _ => z.length - (intOf i).toNat)
  case atStart => exact ⟨0, Nat.zero_le _, rfl, h0, hb0⟩
  case round =>
    clear h0 hb0
    obtain ⟨k, hk, rfl, hO, hB⟩ := hrel
    have hml : (flg (mks N (ms.take k))).length = N := by simp [flg, mks_length]
    by_cases hlt : k < z.length
    · rcases (hz.keep hB).lies with h0 | ⟨b, off, rfl, hbw, hcells⟩
      · omega
      have hx : wr.cell? ⟨b, off + k, none⟩ = some (.int .i64 (gZ z k)) := hcells k hlt
      have HTk := HT' k hlt
      obtain ⟨p0, p1⟩ := HX.out _ (gZ_mem z k hlt)
      clear hcells HT'
      have q0 := Int.emod_nonneg (gZ z k + t) (show (N : Int) ≠ 0 by omega)
      have q1 := Int.emod_lt_of_pos (gZ z k + t) (show (0 : Int) < N by omega)
      have hcr := fun w => c_l1Rest (gZ z k + t) N n1 (by omega) w
      obtain ⟨X, hX⟩ : ∃ X : Nat, (gZ z k + t) % (N : Int) = (X : Int) := ⟨((gZ z k + t) % (N : Int)).toNat, by omega⟩
      rw [hX] at q0 q1 hcr HTk
      have hXn : X < N := by omega
      have x0 := hO.cell hml X hXn
      have f0 := hO.free hml X
      have HP : Hid (OwnV (wr.setCell ⟨w.heap.size, X, none⟩ (.bool true)) w.heap.size 4 (.slice (some ⟨w.heap.size, 0, none⟩) N N) (flg (mks N (ms.take (k + 1))))) := Lib.hid (by
        rw [HTk, ← mks_put N _ X hXn]
        exact hO.store hml X _)
      clear HTk hX hml
      generalize gZ z k = x at *
      go_wp2_with (first | (go_at_call 66; refine (hcr _).mono ?_; rintro e w5 ⟨rfl, rfl⟩) | fail)
      go_roundw
      case rel => exact ⟨k + 1, by omega, by go_num, HP.out, hB.setCell (Nat.le_refl _) _⟩
      case measure => simp [intOf]; omega
    · have hk' : k = z.length := by omega
      subst hk'
      rw [HE.out] at hO
      clear hml HT'
      go_wp2_with fail
      refine (c_l7Set _ _ _ _ ms (by omega) _ hO).mono ?_
      rintro e w4 ⟨v, rfl, hO4, hB4⟩
      go_wp2_with fail
      go_ret
      exact ⟨_, rfl, by rw [HR.out]; exact hO4.low hB.size, bt2 hB hB4⟩
theorem tmd_cases (n t : Int) (z : List Int) : (tilB n z = false) ∨ (tilB n z = true ∧ l6B t (-1000) 1000 = false) ∨ (tilB n z = true ∧ l6B t (-1000) 1000 = true) := by
  cases tilB n z <;> cases l6B t (-1000) 1000 <;> simp
set_option maxRecDepth 20000 in
set_option maxHeartbeats 2000000 in
theorem c_specTileMoved (n t : Int) (s : Option Addr) (l cap : Nat) (z : List Int) (hl : l ≤ 1048576) (w : World) (hz : Ints w s l z) : Calls Try.prog 21 #[.int .i64 n, .slice s l cap, .int .i64 t] w (RetLB w (tmdR n z t) (tmdB n z t)) := by
  have hca := c_specTileIn n s l cap z hl w hz
  have hc6 := fun w => c_l6In t (-1000) 1000 w
  rcases tmd_cases n t z with h | ⟨h, h1⟩ | ⟨h, h1⟩
  · have e2 : tmdB n z t = false := by simp [tmdB, h]
    have e1 : tmdR n z t = [] := by simp [tmdR, e2]
    rw [e1, e2]
    rw [h] at hca
    clear h e1 e2
    go_enter Try.func21, Try.ntmps21
    go_wp2_with (first | (go_at_call 13; refine hca.mono ?_; rintro e w2 ⟨rfl, hB⟩) | fail)
    have hO1 : OwnI (w2.alloc (.cells #[] 3)) w2.heap.size 3 (.slice (some ⟨w2.heap.size, 0, none⟩) 0 0) [] := World.ownsRow_lit w2 #[] 0 (Nat.le_refl _) (by unfold maxLen; omega) rfl
    go_ret2
    exact ⟨_, rfl, hO1.low hB.size, ba hB _⟩
  · have e2 : tmdB n z t = false := by simp [tmdB, h1]
    have e1 : tmdR n z t = [] := by simp [tmdR, e2]
    rw [e1, e2]
    rw [h] at hca
    rw [h1] at hc6
    clear h h1 e1 e2
    go_enter Try.func21, Try.ntmps21
    go_wp2_with (first | (go_at_call 13; refine hca.mono ?_; rintro e w2 ⟨rfl, hB⟩) | (go_at_call 42; refine (hc6 _).mono ?_; rintro e w3 ⟨rfl, rfl⟩) | fail)
    have hO1 : OwnI (w2.alloc (.cells #[] 3)) w2.heap.size 3 (.slice (some ⟨w2.heap.size, 0, none⟩) 0 0) [] := World.ownsRow_lit w2 #[] 0 (Nat.le_refl _) (by unfold maxLen; omega) rfl
    go_ret2
    exact ⟨_, rfl, hO1.low hB.size, ba hB _⟩
  · have e2 : tmdB n z t = true := by simp [tmdB, h, h1]
    have e1 : tmdR n z t = tmvR n z t := by simp [tmdR, e2]
    rw [e1, e2]
    rw [h] at hca
    rw [h1] at hc6
    have hT := tilB_t.1 h
    have ht : -1000 ≤ t ∧ t ≤ 1000 := by simpa [l6B] using h1
    have hcm := fun (w2 : World) (hB : Below w.heap.size w w2) => c_l7Moved n t s l cap z hT ht.1 ht.2 w2 (hz.keep hB)
    clear h h1 e1 e2 hT ht
    go_enter Try.func21, Try.ntmps21
    go_wp2_with (first | (go_at_call 13; refine hca.mono ?_; rintro e w2 ⟨rfl, hB⟩) | (go_at_call 42; refine (hc6 _).mono ?_; rintro e w3 ⟨rfl, rfl⟩) | (go_at_call 52; refine (hcm _ hB).mono ?_; rintro e w4 ⟨v, rfl, hO, hB4⟩) | fail)
    go_ret2
    exact ⟨_, rfl, hO.low hB.size, bt2 hB hB4⟩
theorem eq_gZ {z y : List Int} (hl : z.length = y.length) (h : ∀ i, i < z.length → gZ z i = gZ y i) : z = y := by
  apply List.ext_getElem hl
  intro i h1 h2
  rw [← gZ_get z i h1, ← gZ_get y i h2]
  exact h i h1
set_option maxRecDepth 20000 in
set_option maxHeartbeats 1000000 in
theorem c_l7Equal (s u : Option Addr) (l c1 m c2 : Nat) (z y : List Int) (hl : l ≤ 1048576) (hm : m ≤ 1048576) (w : World) (hz : Ints w s l z) (hy : Ints w u m y) : Calls Try.prog 53 #[.slice s l c1, .slice u m c2] w fun e w' => e = .returned (.bool (z == y)) ∧ Below w.heap.size w w' := by
  obtain rfl := hz.len
  obtain rfl := hy.len
  by_cases hlm : z.length = y.length
  · have HQ := Lib.hid (fun h => eq_gZ (z := z) (y := y) hlm h)
    have hne : ((z.length : Int) != (y.length : Int)) = false := by simp; omega
    go_enter Try.func53, Try.ntmps53
    go_wp2_with fail
    go_loopw [5] (fun i wr => ∃ (k : Nat), k ≤ z.length ∧ i = .int .i64 k ∧ Hid (∀ i, i < k → gZ z i = gZ y i) ∧ Below w.heap.size w wr) (fun i _ => z.length - (intOf i).toNat)
    case atStart => exact ⟨0, by omega, rfl, Lib.hid (fun i h => by omega), Below.refl _ _⟩
    case round =>
      obtain ⟨k, hk, rfl, hok, hB⟩ := hrel
      by_cases hlt : k < z.length
      · rcases (hz.keep hB).lies with h0 | ⟨b, off, rfl, hbw, hcells⟩
        · omega
        rcases (hy.keep hB).lies with h0 | ⟨b', off', rfl, hbw', hcells'⟩
        · omega
        have hx : wr.cell? ⟨b, off + k, none⟩ = some (.int .i64 (gZ z k)) := hcells k hlt
        have hx' : wr.cell? ⟨b', off' + k, none⟩ = some (.int .i64 (gZ y k)) := hcells' k (by omega)
        have hk0 : (0 : Int) ≤ (k : Int) := by omega
        have hk1 : (k : Int) < (z.length : Int) := by omega
        have hk2 : (k : Int) < (y.length : Int) := by omega
        clear hcells hcells' hne
        by_cases ha : gZ z k = gZ y k
        · have HN : Hid (∀ i, i < k + 1 → gZ z i = gZ y i) := Lib.hid (fun i hi => by
            by_cases e : i = k
            · subst e; exact ha
            · exact hok.out i (by omega))
          have ha' : (gZ z k != gZ y k) = false := by simp [ha]
          clear ha
          go_wp2_with fail
          go_quiet (fail)
          go_wp2_with fail
          go_roundw
          case rel => exact ⟨k + 1, by omega, by go_num, HN, bel_drewN hB _⟩
          case measure => simp [intOf]; omega
        · have HN := Lib.hid (show (z == y) = false by
            simp only [beq_eq_false_iff_ne]
            intro e; exact ha (by rw [e]))
          have ha' : (gZ z k != gZ y k) = true := by simpa using ha
          clear ha
          go_wp2_with fail
          go_quiet (fail)
          go_wp2_with fail
          go_ret
          exact ⟨by rw [HN.out]; rfl, bel_drewN hB _⟩
      · have hk' : k = z.length := by omega
        subst hk'
        have HN := Lib.hid (show (z == y) = true by rw [HQ.out hok.out]; simp)
        clear hne
        go_wp2_with fail
        go_ret
        exact ⟨by rw [HN.out]; rfl, hB⟩
  · have HN := Lib.hid (show (z == y) = false by
      simp only [beq_eq_false_iff_ne]
      intro e; exact hlm (by rw [e]))
    have hne : ((z.length : Int) != (y.length : Int)) = true := by simp; omega
    clear hlm
    go_enter Try.func53, Try.ntmps53
    go_wp2_with fail
    go_ret
    exact ⟨by rw [HN.out]; rfl, Below.refl _ _⟩
end Go.Proofs.Ytlgekggbanjmaaa
