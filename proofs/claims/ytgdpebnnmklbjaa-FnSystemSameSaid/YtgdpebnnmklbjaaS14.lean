/- The program's holesBelow: it marks holes in a map that it clears, and hands back its sorted keys. -/
import Derived.Test.YtgdpebnnmklbjaaCA
import Derived.Test.YtgdpebnnmklbjaaS13
import Derived.Shelf.SlIterI.Nil
import Derived.Shelf.SortM.Plain
import Derived.Shelf.SortM.SortNone
import Derived.Maps.Own
import Derived.Maps.OwnSet
import Derived.Maps.Views
namespace Go.Proofs.Ytgdpebnnmklbjaa
open Go.RowKit
open Go.Maps Go.Sort Go.Shelf
open Go.ChangeMaps Go.MapKept
theorem below_grown {w w' : World} (h : Below w.heap.size w w') (row : Option Nat) : w.grownBy w' row := ⟨h.os, h.tape, h.output, h.size, fun i hi _ => h.block i hi⟩
theorem ownsMap_clear {H : Type} {P : Program} {k t e : TypeId} {R : Value → Option (DataW H × List MemPlace)} {w : World} {b n : Nat} {D : DataW H} (h : w.ownsMap P k R b n D) (ht : P.underlying t = some (.map k e)) (ty : TypeId) :
    ∃ w', (Builtin.clear_ #[t] ty #[.map (some b)]).run P w = .ok (.tuple #[]) w' ∧ w'.ownsMap P k R b 0 (.map []) ∧ w.grownBy w' (some b) := by
  obtain ⟨es, clock, hb, F, hs, rfl⟩ := h
  refine ⟨setBlock w b (.map #[] clock), ?_, ⟨#[], clock, heap_setBlock_same hb _, ⟨by simp, stamped_empty _, by simp⟩, Nat.le_refl _, rfl⟩, ?_⟩
  · simp [Builtin.clear_, run_underlying ht, MapKept.run_getObj_map hb, MapKept.run_setObj_map _ hb, Result.andThen, setBlock]
  · exact ⟨rfl, rfl, rfl, by simp [setBlock], fun i _ hi => heap_setBlock_other hb _ (fun e => hi (by rw [e]))⟩
theorem wpList_clear_own {H : Type} {P : Program} (w : World) {ops : Array Oper} {rest : List Oper} {o : Oper} {a : Act} {Q : Exit → Act → World → Prop}
    (hg : o.guard = none) (m : Operand) (t : TypeId) (hop : o.op = Op.call { callee := Callee.builtin Builtin.clear, args := #[m], argTypes := #[t] })
    (k e : TypeId) (ht : P.underlying t = some (.map k e)) (R : Value → Option (DataW H × List MemPlace)) (b n : Nat) (D : DataW H)
    (hm : a.eval m = .map (some b)) (hown : w.ownsMap P k R b n D)
    (hK : ∀ w', w'.ownsMap P k R b 0 (.map []) → w.grownBy w' (some b) → wpList P ops Q rest (a.put o.dst (.tuple #[])) w') :
    wpList P ops Q (o :: rest) a w := by
  refine wpList_plain hg fun K' hK' => ?_
  obtain ⟨w', hrun, r1, r2⟩ := ownsMap_clear hown ht o.type
  unfold Oper.wp
  simp [execOp, hop, resolve, invoke, builtin, hm, hrun, Result.andThen]
  exact hK' _ _ (hK w' r1 r2)
/-- the map in which the holes below k are marked -/
def hD (zs : List Cl) (k : Nat) : DataW Unit := Maps.setOf (.lit (.bool true)) ((holK zs k).map (Lit.int .i64))
theorem holK_succ (zs : List Cl) (k : Nat) : holK zs (k + 1) = bif covB zs k then holK zs k else holK zs k ++ [(k : Int)] := by
  rw [covB_cnt]
  simp only [holK]
  cases cntN zs k == 0 <;> rfl
theorem holK_perm {zs ys : List Cl} (h : List.Perm zs ys) (k : Nat) : holK ys k = holK zs k := by
  induction k with
  | zero => rfl
  | succ k ih => rw [holK_succ, holK_succ, ih, covB_perm h]
theorem holK_mem (zs : List Cl) (k : Nat) (x : Int) : x ∈ holK zs k ↔ 0 ≤ x ∧ x < k ∧ covB zs x = false := by
  induction k with
  | zero =>
    simp only [holK, List.not_mem_nil, false_iff]
    omega
  | succ k ih =>
    rw [holK_succ]
    by_cases hk : x = (k : Int)
    · subst hk
      cases h : covB zs k
      · simp; omega
      · simp [ih, h]
    · cases h : covB zs k
      · simp only [cond_false, List.mem_append, ih, List.mem_singleton, hk, or_false]
        constructor
        · rintro ⟨a, b, c⟩; exact ⟨a, by omega, c⟩
        · rintro ⟨a, b, c⟩; exact ⟨a, by omega, c⟩
      · simp only [cond_true, ih]
        constructor
        · rintro ⟨a, b, c⟩; exact ⟨a, by omega, c⟩
        · rintro ⟨a, b, c⟩; exact ⟨a, by omega, c⟩
theorem holK_asc (zs : List Cl) (k : Nat) : (holK zs k).Pairwise (· < ·) := by
  induction k with
  | zero => exact List.Pairwise.nil
  | succ k ih =>
    rw [holK_succ]
    cases covB zs k
    · refine List.pairwise_append.2 ⟨ih, List.pairwise_singleton _ _, fun a ha b hb => ?_⟩
      simp only [List.mem_singleton] at hb
      subst hb
      exact ((holK_mem zs k a).1 ha).2.1
    · exact ih
theorem hD_step {zs : List Cl} {k : Nat} (h : covB zs k = false) : (hD zs k).put (.int .i64 k) (.lit (.bool true)) = hD zs (k + 1) := by
  unfold hD
  rw [holK_succ, h, cond_false, List.map_append, List.map_singleton, setOf_snoc]
theorem hD_stay {zs : List Cl} {k : Nat} (h : covB zs k = true) : hD zs (k + 1) = hD zs k := by
  unfold hD
  rw [holK_succ, h, cond_true]
theorem hD_has (zs : List Cl) (k : Nat) (x : Int) : Maps.has (hD zs k) (.int .i64 x) = true ↔ x ∈ holK zs k := by
  unfold hD
  rw [has_setOf _ _ _ (by intro y hy; obtain ⟨z, _, rfl⟩ := List.mem_map.1 hy; simp [WideAt.IsKeyLit])]
  simp [List.any_eq_true, Lit.sameKey]
theorem sorted_of_perm {zs : List Cl} {k : Nat} {ss : List Int} (h : ss.Perm (holK zs k)) : (ss.mergeSort fun x y => decide (x ≤ y)) = holK zs k := by
  rw [show (ss.mergeSort fun x y => decide (x ≤ y)) = ss.mergeSort leI from rfl, mergeSort_of_perm_i h]
  refine List.mergeSort_of_pairwise ((holK_asc zs k).imp fun {a b} hab => ?_)
  simp only [leI, decide_eq_true_eq]
  omega
theorem c_keys (mb : Option Nat) (W : World) : Calls Try.prog 77 #[.map mb] W fun e w' => e = .returned (.func (.func 93) #[] #[.pointer (some ⟨W.heap.size, 0, none⟩)]) ∧ w' = W.alloc (.cells #[.map mb] 48) :=
  (callsIn_wide (n := 5)).1 (AnyZI.keys_in Try.keysA Fence.wide 5 trivial rfl mb W)
theorem sortsA (m : Nat) : AnyZI.SortsIn Try.prog Try.sortedA_ren Fence.wide m :=
  ⟨fun blk off cap ss W hH hblk hsz => callsIn_wide.2 (AnyM.slices_Sort_int Try.sortA blk off cap ss W hH hblk hsz),
   fun p cap W => callsIn_wide.2 (AnyM.slices_Sort_int_none Try.sortA p cap W)⟩
set_option maxHeartbeats 1000000 in
theorem c_sorted (b nn : Nat) (D0 : DataW Unit) (w : World) (hown : w.ownsMap Try.prog 3 (plainElem (H := Unit) Try.prog 4) b nn D0) (hmax : Maps.size D0 ≤ 1000) :
    Calls Try.prog 76 #[.func (.func 93) #[] #[.pointer (some ⟨w.heap.size, 0, none⟩)]] (w.alloc (.cells #[.map (some b)] 48)) fun e w' => ∃ (v : Value) (ss : List Int), e = .returned v ∧ ss.Perm (intKeys D0) ∧
      w'.ownsRow (w.alloc (.cells #[.map (some b)] 48)).heap.size 3 1 v ss.length ((ss.mergeSort (fun x y => decide (x ≤ y))).map encZ) ∧ (v = .slice none 0 0 ↔ ss = []) ∧ Below (w.alloc (.cells #[.map (some b)] 48)).heap.size (w.alloc (.cells #[.map (some b)] 48)) w' := by
  refine (callsIn_wide (n := 5)).1 ?_
  have hbl := hown.lt
  have hseq : SeqGives Fence.wide 2 Try.prog 93 #[.pointer (some ⟨w.heap.size, 0, none⟩)] encZ (fun ss => ss.Perm (intKeys D0)) (Maps.size D0) (w.alloc (.cells #[.map (some b)] 48)) :=
    AnyZI.keys_gives (ρ := Try.keysA_ren) { Try.keysA with } Fence.wide _ trivial rfl (by omega) w.heap.size b nn D0 _ (by simp) (by simp) (by
      obtain ⟨es, clock, hb, Ft, hs, hD⟩ := hown
      exact ⟨es, clock, (Below.heap_alloc _ _ b hbl).trans hb, Ft, hs, hD⟩)
  exact AnyZI.sorted_in Try.sortedA Fence.wide 5 trivial trivial trivial trivial rfl (by omega) (sortsA _) (enters_of Try.func92 (by kernel_rfl) rfl) 93 #[.pointer (some ⟨w.heap.size, 0, none⟩)] trivial (enters_of Try.func93 (by kernel_rfl) rfl) _ _ (by unfold maxLen; omega) (by omega) _ hseq
def HolPost (zs : List Cl) (E b : Nat) (w : World) (e : Ending) (w' : World) : Prop := ∃ v nn D, e = .returned v ∧ OwnI w' w.heap.size 3 v (holK zs E) ∧ w'.ownsMap Try.prog 3 (plainElem (H := Unit) Try.prog 4) b nn D ∧ w.grownBy w' (some b)
set_option maxRecDepth 20000 in
set_option maxHeartbeats 1000000 in
theorem c_holesBelow (E : Nat) (s : Option Addr) (n cap : Nat) (zs : List Cl) (b nn : Nat) (D : DataW Unit) (hE : E ≤ 1000) (h0 : 0 < n) (hn : n ≤ 12) (ha : allB zs = true) (w : World) (hc : Cls w s n zs) (hsb : ∀ g off, s = some ⟨g, off, none⟩ → b ≠ g) (hown : w.ownsMap Try.prog 3 (plainElem (H := Unit) Try.prog 4) b nn D) :
    Calls Try.prog 53 #[.int .i64 E, .slice s n cap, .map (some b)] w (HolPost zs E b w) := by
  have law : Keyed Try.prog 3 := int_keyed Try.underlying3
  have hb0 := hown.lt
  go_enter Try.func53, Try.ntmps53
  go_wp2_with (refine wpList_clear_own _ rfl _ 48 rfl 3 4 Try.underlying48 (plainElem (H := Unit) Try.prog 4) b nn D rfl hown ?_; intro w1 hown1 hgr1)
  have hc1 : Cls w1 s n zs := by
    rcases hc.lies with h | ⟨g, off, rfl, _, _⟩
    · omega
    · exact hc.other hgr1 (hsb _ _ rfl)
  go_wp2_with fail
  refine (c_inOrder _ _ _ zs h0 hn _ hc1).mono ?_
  rintro e w2 ⟨g, cp, ys, rfl, hg, hp, hy, hB2⟩
  have hown2 := hown1.kept (below_grown hB2 none) (by simp)
  have hgr2 := hgr1.trans (below_grown hB2 (some b))
  have hay : allB ys = true := by rw [← allB_perm hp]; exact ha
  have hbg : b ≠ g := by have := hown1.lt; omega
  have HK := Lib.hid (holK_perm hp)
  clear hgr1 hB2 hc1
  go_wp2_with fail
  go_loopw [13] (fun i wr => ∃ (k : Nat), k ≤ E ∧ i = .int .i64 k ∧ wr.ownsMap Try.prog 3 (plainElem (H := Unit) Try.prog 4) b k (hD ys k) ∧ w2.grownBy wr (some b)) (fun i _ => E - (intOf i).toNat)
  case atStart => exact ⟨0, Nat.zero_le _, rfl, hown2, World.grownBy.refl _ _⟩
  case round =>
    obtain ⟨k, hk, rfl, hO, hG⟩ := hrel
    have hyr := hy.other hG hbg
    by_cases hlt : k < E
    · cases hcv : covB ys k
      · have HD := Lib.hid (hD_step hcv)
        have hkey : keyOf Try.prog 3 (.int .i64 k) = some (.int .i64 k) := keyOf_int_mk Try.underlying3 (WalkArith.wf_i64 (by omega))
        go_wp2_with fail
        refine (c_covers _ _ _ ys _ (by omega) hay _ hyr).mono ?_
        rintro e w5 ⟨rfl, hb5⟩
        have hO5 := hO.kept (below_grown hb5 none) (by simp)
        have hG5 := hG.trans (below_grown hb5 (some b))
        rw [hcv]
        go_wp2_with (at_mapUpdate; refine wpList_mapUpdate_own _ rfl _ _ _ 48 rfl 3 4 law Try.underlying48 (plainElem (H := Unit) Try.prog 4) b k _ rfl hO5 (by unfold maxLen; omega) _ _ _ rfl rfl hkey _ [] (plainElem_bool Try.underlying4 true) ?_; intro w6 hO6 hG6)
        go_roundw
        case rel => exact ⟨k + 1, by omega, by go_num, by rw [← HD.out]; exact hO6, hG5.trans hG6⟩
        case measure => simp [intOf]; omega
      · have HD := Lib.hid (hD_stay hcv)
        go_wp2_with fail
        refine (c_covers _ _ _ ys _ (by omega) hay _ hyr).mono ?_
        rintro e w5 ⟨rfl, hb5⟩
        have hO5 := hO.kept (below_grown hb5 none) (by simp)
        have hG5 := hG.trans (below_grown hb5 (some b))
        rw [hcv]
        go_wp2_with fail
        go_roundw
        case rel => exact ⟨k + 1, by omega, by go_num, by rw [HD.out]; exact hO5.mono (by omega), hG5⟩
        case measure => simp [intOf]; omega
    · have hk' : k = E := by omega
      subst hk'
      have hsz : Maps.size (hD ys k) ≤ 1000 := Nat.le_trans hO.size_le hE
      have hcs := c_sorted b k (hD ys k) wr hO hsz
      have hperm : (holK ys k).Perm (intKeys (hD ys k)) := CollectedI.perm (left := fun _ => false) ⟨(holK_asc ys k).imp fun {a b} hab => by omega, fun x => by rw [hD_has]; simp⟩ hO law Try.underlying3 (fun _ => rfl)
      have hO7 := hO.alloc (.cells #[.map (some b)] 48)
      go_wp2_with (first
        | (go_at_call 77; refine (c_keys _ _).mono ?_; rintro e w5 ⟨rfl, rfl⟩)
        | (go_at_call 76; refine hcs.mono ?_; rintro e w6 ⟨v, ss, rfl, hS, hrow, hnil, hb6⟩)
        | fail)
      go_ret
      have hSp : ss.Perm (holK ys k) := hS.trans hperm.symm
      rw [sorted_of_perm hSp, hSp.length_eq, HK.out k] at hrow
      refine ⟨_, k, _, rfl, ?_, hO7.kept (below_grown hb6 none) (by simp), hgr2.trans (hG.trans ((World.grownBy_alloc _ _ _).trans (below_grown hb6 _)))⟩
      exact OwnI.low hrow (by have := hgr2.size; have := hG.size; simp; omega)
end Go.Proofs.Ytgdpebnnmklbjaa
