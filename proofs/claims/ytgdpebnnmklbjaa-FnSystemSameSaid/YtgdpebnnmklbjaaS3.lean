/- Contracts of SystemMoved, in the program and in the model: the list is new memory. -/
import Derived.Test.YtgdpebnnmklbjaaH1
import Derived.Test.YtgdpebnnmklbjaaS1
import Derived.Test.YtgdpebnnmklbjaaStepA
namespace Go.Proofs.Ytgdpebnnmklbjaa
open Go.RowKit
/-- it returns a list of its own, and whether it succeeded -/
def RetC (w : World) (zs : List Cl) (ok : Bool) (e : Ending) (w' : World) : Prop := ∃ v, e = .returned (.tuple #[v, .bool ok]) ∧ OwnC w' w.heap.size 34 v zs ∧ Below w.heap.size w w'
theorem OwnC.nil (w : World) (base : Nat) (e : TypeId) : OwnC w base e (.slice none 0 0) [] := World.ownsRow_nil w base e 2
/-- what SystemMoved comes to -/
def movL (x : Int) (zs : List Cl) : List Cl := zs.map fun c => ((c.1 + x) % c.2, c.2)
theorem movL_length (x : Int) (zs : List Cl) : (movL x zs).length = zs.length := by simp [movL]
theorem movL_take (x : Int) (zs : List Cl) (k : Nat) (h : k < zs.length) : (movL x zs).take (k + 1) = (movL x zs).take k ++ [((rAt zs k + x) % mAt zs k, mAt zs k)] := by
  rw [List.take_succ_eq_append_getElem (by simp [movL, h])]
  simp [movL, rAt, mAt, h]
theorem cells2_one (r m : Int) : cells2 [(r, m)] = [.int .i64 r, .int .i64 m] := rfl
theorem two_new (w : World) (a b : Value) (t : TypeId) : ∀ j u, [a, b][j]? = some u → (w.alloc (.cells #[a, b] t)).cell? ((⟨w.heap.size, 0, none⟩ : Addr).add j) = some u := by
  intro j u h
  match j, h with
  | 0, h => simpa [Addr.add] using h
  | 1, h => simpa [Addr.add] using h
def movsB (x : Int) (zs : List Cl) : Bool := sysB zs && numB x
def movR (x : Int) (zs : List Cl) : List Cl := bif movsB x zs then movL x zs else []
theorem movR_le (x : Int) (zs : List Cl) : (movR x zs).length ≤ zs.length := by
  unfold movR; cases movsB x zs <;> simp [movL]
set_option maxRecDepth 20000 in
set_option maxHeartbeats 1000000 in
theorem c_implSystemMoved0 (s : Option Addr) (n cap : Nat) (zs : List Cl) (x : Int) (hn : n ≤ 1048576) (w : World) (hc : Cls w s n zs) : Calls Try.prog 33 #[.slice s n cap, .int .i64 x] w (RetC w (bif sysB zs && numB x then movL x zs else []) (sysB zs && numB x)) := by
  have hlen := hc.len
  have HL := Lib.hid hlen
  clear hlen
  obtain ⟨i0, hi, hz0, hz1, hz2⟩ := info_parts infoC
  cases hs : sysB zs
  · go_enter Try.func33, Try.ntmps33
    go_wp2_with (go_at_call 14; refine (c_implSystemIn _ _ _ zs hn _ hc).mono ?_; rintro e w' ⟨rfl, hb⟩)
    go_ret2
    exact ⟨_, rfl, OwnC.nil _ _ _, hb⟩
  · cases hx : numB x
    · go_enter Try.func33, Try.ntmps33
      go_wp2_with (first | (go_at_call 14; refine (c_implSystemIn _ _ _ zs hn _ hc).mono ?_; rintro e w' ⟨rfl, hb⟩) | (go_at_call 60; refine (c_inNumbers _ _).mono ?_; rintro e w1 ⟨rfl, rfl⟩))
      go_ret2
      exact ⟨_, rfl, OwnC.nil _ _ _, hb⟩
    · obtain ⟨hl1, hl2, ha, _, P1, P2⟩ := sysB_facts hs
      obtain ⟨x1, x2⟩ := numB_iff.1 hx
      have HA := Lib.hid ha
      have hl1' : 1 ≤ n := by rw [← HL.out]; exact hl1
      have hl2' : n ≤ 8 := by rw [← HL.out]; exact hl2
      clear ha hl1 hl2
      go_enter Try.func33, Try.ntmps33
      go_wp2_with (first | (go_at_call 14; refine (c_implSystemIn _ _ _ zs hn _ hc).mono ?_; rintro e w2 ⟨rfl, hb⟩) | (go_at_call 60; refine (c_inNumbers _ _).mono ?_; rintro e w1 ⟨rfl, rfl⟩) | (at_make; refine wpList_make_own _ rfl _ _ 23 rfl w.heap.size 34 i0 (.agg #[.int .i64 0, .int .i64 0]) 2 Try.underlying23 hi hz0 hz1 .i64 .i64 _ n rfl rfl rfl (by rw [hz2]; omega) (by unfold maxLen; omega) hb.size ?_; intro w3 hown hgrow))
      have hb3 : Below w.heap.size w w3 := hb.grown hgrow hb.size (fun k h => by cases h)
      clear hgrow
      go_loopw [6, 22] (fun v i wr => ∃ (k : Nat), k ≤ n ∧ i = .int .i64 k ∧ v = .slice (some ⟨w2.heap.size, 0, none⟩) k n ∧ wr.ownsRow w.heap.size 34 2 (.slice (some ⟨w2.heap.size, 0, none⟩) k n) k (cells2 ((movL x zs).take k)) ∧ Below w.heap.size w wr) (fun _ i _ => n - (intOf i).toNat)
      case atStart => exact ⟨0, Nat.zero_le _, rfl, rfl, hown, hb3⟩
      case round =>
        obtain ⟨k, hk, rfl, rfl, hO, hB⟩ := hrel
        by_cases hlt : k < n
        · have hlt' : k < zs.length := by rw [HL.out]; exact hlt
          obtain ⟨m1, m2, r1, r2⟩ := inB_iff.1 (allB_at HA.out k hlt')
          rcases (hc.keep hB).lies with h0 | ⟨b, off, rfl, hb', hcells⟩
          · omega
          obtain ⟨hx', hy⟩ := hcells k hlt
          have HT := Lib.hid (movL_take x zs k hlt')
          clear hcells
          go_wp2_with (first | (go_at_call 62; refine (c_classAt _ _ m1 m2 _).mono ?_; rintro e w1 ⟨rfl, rfl⟩) | (at_builtin; refine wpList_append_fits _ rfl _ _ 23 rfl w.heap.size 34 i0 2 Try.underlying23 hi hz1 w2.heap.size k n _ rfl (((hO.alloc _).alloc _).alloc _) ⟨wr.heap.size + 1 + 1, 0, none⟩ 1 1 [.int .i64 ((rAt zs k + x) % mAt zs k), .int .i64 (mAt zs k)] rfl rfl (by simpa using two_new ((wr.alloc _).alloc _) _ _ _) (by simp [Value.oneCell']) (by omega) ?_; intro w7 hown7 hgrow7))
          have hb7 : Below w.heap.size w w7 := (ba (ba (ba hB _) _) _).grown hgrow7 (ba (ba (ba hB _) _) _).size (fun k e => by cases e; exact hb.size)
          go_roundw
          case rel => exact ⟨k + 1, by omega, by go_num, rfl, by rw [HT.out, cells2_append]; exact hown7, hb7⟩
          case measure => simp [intOf]; omega
        · have hk' : k = n := by omega
          subst hk'
          have hT : (movL x zs).take k = movL x zs := List.take_of_length_le (by rw [movL_length, HL.out]; exact Nat.le_refl _)
          rw [hT] at hO
          have hOC : OwnC wr w.heap.size 34 (.slice (some ⟨w2.heap.size, 0, none⟩) k k) (movL x zs) := by
            unfold OwnC; rw [(movL_length x zs).trans HL.out]; exact hO
          clear hT hO
          go_wp2_with fail
          go_ret2
          exact ⟨_, rfl, hOC, hB⟩
set_option maxRecDepth 20000 in
set_option maxHeartbeats 1000000 in
theorem c_specSystemMoved0 (s : Option Addr) (n cap : Nat) (zs : List Cl) (x : Int) (hn : n ≤ 1048576) (w : World) (hc : Cls w s n zs) : Calls Try.prog 43 #[.slice s n cap, .int .i64 x] w (RetC w (bif sysB zs && numB x then movL x zs else []) (sysB zs && numB x)) := by
  have hlen := hc.len
  have HL := Lib.hid hlen
  clear hlen
  obtain ⟨i0, hi, hz0, hz1, hz2⟩ := info_parts infoC
  have hb1 : Below w.heap.size w (w.alloc (.cells #[] 34)) := ba (Below.refl _ _) _
  have hO1 : OwnC (w.alloc (.cells #[] 34)) w.heap.size 34 (.slice (some ⟨w.heap.size, 0, none⟩) 0 0) [] := World.ownsRow_lit w #[] 0 (Nat.le_refl _) (by unfold maxLen; omega) rfl
  have hc1 := hc.keep hb1
  cases hs : sysB zs
  · go_enter Try.func43, Try.ntmps43
    go_wp2_with fail
    generalize w.alloc (.cells #[] 34) = W1 at *
    go_wp2_with (go_at_call 15; refine (c_specSystemIn _ _ _ zs hn _ hc1).mono ?_; rintro e w2 ⟨rfl, hb⟩; have hO2 := hO1.keep hb)
    go_ret2
    exact ⟨_, rfl, hO2, bt2 hb1 hb⟩
  · cases hx : numB x
    · go_enter Try.func43, Try.ntmps43
      go_wp2_with fail
      generalize w.alloc (.cells #[] 34) = W1 at *
      go_wp2_with (first | (go_at_call 15; refine (c_specSystemIn _ _ _ zs hn _ hc1).mono ?_; rintro e w2 ⟨rfl, hb⟩; have hO2 := hO1.keep hb) | (go_at_call 68; refine (c_l1Number _ _).mono ?_; rintro e w1 ⟨rfl, rfl⟩))
      go_ret2
      exact ⟨_, rfl, hO2, bt2 hb1 hb⟩
    · obtain ⟨hl1, hl2, ha, _, P1, P2⟩ := sysB_facts hs
      obtain ⟨x1, x2⟩ := numB_iff.1 hx
      have HA := Lib.hid ha
      have hl1' : 1 ≤ n := by rw [← HL.out]; exact hl1
      have hl2' : n ≤ 8 := by rw [← HL.out]; exact hl2
      clear ha hl1 hl2
      go_enter Try.func43, Try.ntmps43
      go_wp2_with fail
      generalize w.alloc (.cells #[] 34) = W1 at *
      go_wp2_with (first | (go_at_call 15; refine (c_specSystemIn _ _ _ zs hn _ hc1).mono ?_; rintro e w2 ⟨rfl, hb⟩; have hO2 := hO1.keep hb; have hb2 := bt2 hb1 hb) | (go_at_call 68; refine (c_l1Number _ _).mono ?_; rintro e w1 ⟨rfl, rfl⟩))
      have hO3 : w2.ownsRow w.heap.size 34 2 (.slice (some ⟨w.heap.size, 0, none⟩) 0 0) 0 [] := hO2
      clear hO1 hO2 hb hb1
      go_loopw [6, 7] (fun v i wr => ∃ (k : Nat), k ≤ n ∧ i = .int .i64 k ∧ wr.ownsRow w.heap.size 34 2 v k (cells2 ((movL x zs).take k)) ∧ Below w.heap.size w wr) (fun _ i _ => n - (intOf i).toNat)
      case atStart => exact ⟨0, Nat.zero_le _, rfl, hO3, hb2⟩
      case round =>
        obtain ⟨k, hk, rfl, hO, hB⟩ := hrel
        by_cases hlt : k < n
        · have hlt' : k < zs.length := by rw [HL.out]; exact hlt
          obtain ⟨m1, m2, r1, r2⟩ := inB_iff.1 (allB_at HA.out k hlt')
          rcases hc.lies with h0 | ⟨b, off, rfl, hbw, hcells⟩
          · omega
          have hx' := (hB.cell (p := ⟨b, off + k * 2, none⟩) hbw).trans (hcells k hlt).1
          have hy := (hB.cell (p := ⟨b, off + k * 2 + 1, none⟩) hbw).trans (hcells k hlt).2
          have hne : ∀ j, some (⟨b, j, none⟩ : Addr).block ≠ u6.ownBlock := fun j e => by have := (hO.lt b e.symm).1; omega
          have HT := Lib.hid (movL_take x zs k hlt')
          clear hcells
          have hz : ∀ u ∈ [Value.int .i64 ((rAt zs k + x) % mAt zs k), Value.int .i64 (mAt zs k)], u.oneCell' = true := by simp [Value.oneCell']
          have hN : ∀ j u, [Value.int .i64 ((rAt zs k + x) % mAt zs k), Value.int .i64 (mAt zs k)][j]? = some u → (wr.alloc (.cells #[Value.int .i64 ((rAt zs k + x) % mAt zs k), Value.int .i64 (mAt zs k)] 34)).drew.cell? ((⟨wr.heap.size, 0, none⟩ : Addr).add j) = some u := two_new wr _ _ _
          have hO9 : (wr.alloc (.cells #[Value.int .i64 ((rAt zs k + x) % mAt zs k), Value.int .i64 (mAt zs k)] 34)).drew.ownsRow w.heap.size 34 2 u6 k (cells2 ((movL x zs).take k)) := (hO.alloc _).drew
          have HZ := Lib.hid hz
          have HN := Lib.hid hN
          have hbs : w.heap.size ≤ (wr.alloc (.cells #[Value.int .i64 ((rAt zs k + x) % mAt zs k), Value.int .i64 (mAt zs k)] 34)).drew.heap.size := by have := hB.size; simp; omega
          have HS := Lib.hid hbs
          have hk2 : (k + 1) * 16 ≤ 140737488355328 := by omega
          have hk1 : k + 1 ≤ maxLen := by unfold maxLen; omega
          clear hz hN hbs
          have hw : IntKind.i64.wrap (rAt zs k + x) = rAt zs k + x := IntWalk.i64_in _ (by omega)
          go_wp2_with fail
          go_region_held3 (fun w' => w'.cell? ⟨b, off + k * 2, none⟩ = some (.int .i64 (rAt zs k)) ∧ w'.cell? ⟨b, off + k * 2 + 1, none⟩ = some (.int .i64 (mAt zs k))) (go_keep) (first | (go_at_call 69; refine (c_l1Rest _ _ m1 m2 _).mono ?_; rintro e w1 ⟨rfl, rfl⟩) | (refine step_append_own rfl (.tmp 24) (.tmp 44) 23 rfl w.heap.size 34 i0 (.agg #[.int .i64 0, .int .i64 0]) 2 16 Try.underlying23 hi hz0 hz1 hz2 rfl Nat.two_pos u6 k _ rfl hO9 ⟨wr.heap.size, 0, none⟩ 1 1 [.int .i64 ((rAt zs k + x) % mAt zs k), .int .i64 (mAt zs k)] rfl rfl HN.out HZ.out hk1 hk2 HS.out ?_; intro v7 w7 hown7 hgrow7 _; have g0 := hgrow7.cell (a := ⟨b, off + k * 2, none⟩) (v := .int .i64 (rAt zs k)) (by go_keep) (hne 0); have g1 := hgrow7.cell (a := ⟨b, off + k * 2 + 1, none⟩) (v := .int .i64 (mAt zs k)) (by go_keep) (hne 0)))
          clear hw
          have hb7 : Below w.heap.size w w7 := (ba hB _).drew.grown hgrow7 HS.out (fun j e => (hO.lt j e).1)
          go_wp2_with fail
          go_roundw
          case rel => exact ⟨k + 1, by omega, by go_num, by rw [HT.out, cells2_append]; exact hown7, hb7⟩
          case measure => simp [intOf]; omega
        · have hk' : k = n := by omega
          subst hk'
          have hT : (movL x zs).take k = movL x zs := List.take_of_length_le (by rw [movL_length, HL.out]; exact Nat.le_refl _)
          rw [hT] at hO
          have hOC : OwnC wr w.heap.size 34 u6 (movL x zs) := by
            unfold OwnC; rw [(movL_length x zs).trans HL.out]; exact hO
          clear hT hO
          go_wp2_with fail
          go_ret2
          exact ⟨_, rfl, hOC, hB⟩
theorem c_implSystemMoved (s : Option Addr) (n cap : Nat) (zs : List Cl) (x : Int) (hn : n ≤ 1048576) (w : World) (hc : Cls w s n zs) : Calls Try.prog 33 #[.slice s n cap, .int .i64 x] w (RetC w (movR x zs) (movsB x zs)) := c_implSystemMoved0 s n cap zs x hn w hc
theorem c_specSystemMoved (s : Option Addr) (n cap : Nat) (zs : List Cl) (x : Int) (hn : n ≤ 1048576) (w : World) (hc : Cls w s n zs) : Calls Try.prog 43 #[.slice s n cap, .int .i64 x] w (RetC w (movR x zs) (movsB x zs)) := c_specSystemMoved0 s n cap zs x hn w hc
end Go.Proofs.Ytgdpebnnmklbjaa
