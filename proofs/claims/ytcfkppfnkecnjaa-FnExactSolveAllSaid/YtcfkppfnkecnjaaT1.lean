/- Lists of lists of numbers: as they lie in memory, laid anew, counted, compared. -/
import Derived.Test.YtcfkppfnkecnjaaH3
import Derived.OwnWalk
import Derived.Laws.OwnMore
import Derived.Deep.RegionHeld3
namespace Go.Proofs.Ytcfkppfnkecnjaa
open Go.RowKit
/-- a list of lists of numbers that can be read -/
structure Ints2 (w : World) (s : Option Addr) (n : Nat) (zss : List (List Int)) : Prop where
  len : zss.length = n
  lies : n = 0 ∨ ∃ b off, s = some ⟨b, off, none⟩ ∧ b < w.heap.size ∧ ∀ i, i < n → ∃ (t : Option Addr) (c : Nat), w.cell? ⟨b, off + i, none⟩ = some (.slice t (zss[i]?.getD []).length c) ∧ Ints w t (zss[i]?.getD []).length (zss[i]?.getD [])
theorem Ints2.keep {w w' : World} {s : Option Addr} {n : Nat} {zss : List (List Int)} (h : Ints2 w s n zss) (k : Below w.heap.size w w') : Ints2 w' s n zss := by
  refine ⟨h.len, ?_⟩
  rcases h.lies with h0 | ⟨b, off, hs, hb, hc⟩
  · exact .inl h0
  · refine .inr ⟨b, off, hs, Nat.lt_of_lt_of_le hb k.size, fun i hi => ?_⟩
    obtain ⟨t, c, h1, h2⟩ := hc i hi
    exact ⟨t, c, by rw [k.cell (p := ⟨b, off + i, none⟩) hb]; exact h1, h2.keep k⟩
theorem infoS : (Try.prog.info? 39).map (fun i => (i.zero, i.size, i.bytes)) = some (some (.slice none 0 0), 1, 24) := by kernel_rfl
theorem infoT : (Try.prog.info? 3).map (fun i => (i.zero, i.size, i.bytes)) = some (some (.int .i64 0), 1, 8) := by kernel_rfl
/-! one list laid anew -/
theorem madeT (n : Nat) : (madeCells #[Value.int .i64 0] (n * 1)).toList = (List.replicate n (0 : Int)).map (Value.int .i64) := by
  rw [Nat.mul_one, List.map_replicate]
  apply List.ext_getElem?
  intro j
  by_cases hj : j < n
  · simp [madeCells, hj, Nat.mod_one]
  · simp [madeCells, hj]
/-- the first k of a list, 0 behind them -/
def preT (zs : List Int) (k : Nat) : List Int := zs.take k ++ List.replicate (zs.length - k) 0
theorem preT_length (zs : List Int) (k : Nat) (hk : k ≤ zs.length) : (preT zs k).length = zs.length := by
  unfold preT
  rw [List.length_append, List.length_take, List.length_replicate]
  omega
theorem preT_all (zs : List Int) : preT zs zs.length = zs := by simp [preT]
theorem preT_succ (zs : List Int) (k : Nat) (hk : k < zs.length) : (preT zs k).set k (zs[k]?.getD 0) = preT zs (k + 1) := by
  unfold preT
  rw [List.set_append_right _ _ (by rw [List.length_take]; omega), List.length_take, Nat.min_eq_left (by omega), Nat.sub_self, show zs.length - k = (zs.length - (k + 1)) + 1 by omega, List.replicate_succ, List.set_cons_zero,
    show zs[k]?.getD 0 = zs[k] by simp [hk], List.take_succ_eq_append_getElem hk, List.append_assoc]
  rfl
def ToT (w : World) (zs : List Int) (e : Ending) (w' : World) : Prop := ∃ g, w.heap.size ≤ g ∧ e = .returned (.slice (some ⟨g, 0, none⟩) zs.length zs.length) ∧ OwnI w' w.heap.size 3 (.slice (some ⟨g, 0, none⟩) zs.length zs.length) zs ∧ Below w.heap.size w w'
set_option maxHeartbeats 400000 in
theorem c_toIntT (s : Option Addr) (n cap : Nat) (zs : List Int) (hn : n ≤ 1048576) (w : World) (hc : Ints w s n zs) : Calls Try.prog 37 #[.slice s n cap] w (ToT w zs) := by
  obtain ⟨i0, hi, hz0, hz1, hz2⟩ := info_parts infoT
  go_enter Try.func37, Try.ntmps37
  have hl := hc.len
  subst hl
  go_wp2_with (at_make; refine wpList_make_full _ rfl _ _ 39 rfl w.heap.size 3 i0 (.int .i64 0) 1 Try.underlying39 hi hz0 hz1 .i64 .i64 _ _ zs.length rfl rfl rfl rfl (by rw [hz2]; omega) (by unfold maxLen; omega) (Nat.le_refl _) ?_; intro w1 hown hgrow)
  have h0 : OwnI w1 w.heap.size 3 (.slice (some ⟨w.heap.size, 0, none⟩) zs.length zs.length) (preT zs 0) := by
    show w1.ownsRow _ _ _ _ _ _
    rw [show preT zs 0 = List.replicate zs.length 0 from rfl, List.length_replicate, ← madeT]
    exact hown
  have hb0 : Below w.heap.size w w1 := (Below.refl _ _).grown hgrow (Nat.le_refl _) (fun k h => by cases h)
  clear hown hgrow
  go_loopw [4] (fun i wr => ∃ k : Nat, k ≤ zs.length ∧ i = .int .i64 k ∧ OwnI wr w.heap.size 3 (.slice (some ⟨w.heap.size, 0, none⟩) zs.length zs.length) (preT zs k) ∧ Below w.heap.size w wr) (fun i _ => zs.length - (intOf i).toNat)
  case atStart => exact ⟨0, Nat.zero_le _, rfl, h0, hb0⟩
  case round =>
    obtain ⟨k, hk, rfl, hO, hB⟩ := hrel
    by_cases hlt : k < zs.length
    · have hcw := (hc.keep hB).lies
      rcases hcw with h0 | ⟨b, off, rfl, hb, hcells⟩
      · omega
      have hx := hcells k hlt
      clear hcells
      have hl := preT_length zs k hk
      have x0 := hO.cell hl k hlt
      have f0 := hO.free hl k
      have HL := Lib.hid hl
      clear hl
      have HP := Lib.hid (preT_succ zs k hlt)
      generalize zs[k]?.getD 0 = x at *
      go_wp2_with fail
      go_roundw
      case rel => exact ⟨k + 1, by omega, by go_num, by rw [← HP.out]; exact hO.store HL.out k _, hB.setCell (Nat.le_refl _) _⟩
      case measure => simp [intOf]; omega
    · have hk' : k = zs.length := by omega
      subst hk'
      rw [preT_all] at hO
      go_wp2_with fail
      go_ret
      exact ⟨w.heap.size, Nat.le_refl _, rfl, hO, hB⟩
/-! how many -/
/-- how many numbers are in the first k lists -/
def totK (zss : List (List Int)) : Nat → Nat
  | 0 => 0
  | k + 1 => totK zss k + (zss[k]?.getD []).length
theorem totK_le {zss : List (List Int)} {i k : Nat} (h : i < k) : (zss[i]?.getD []).length ≤ totK zss k := by
  induction k with
  | zero => omega
  | succ k ih =>
    simp only [totK]
    by_cases e : i = k
    · subst e; omega
    · have := ih (by omega); omega
/-- what is left of l behind them, -1 once there is too much -/
theorem c_szIntT (s : Option Addr) (n cap : Nat) (hn : n ≤ 9223372036854775807) (l : Int) (h1 : 0 ≤ l) (h2 : l ≤ 1048576) (w : World) : Calls Try.prog 35 #[.slice s n cap, .int .i64 l] w fun e w' => e = .returned (.int .i64 (if l < (n : Int) then -1 else l - n)) ∧ w = w' := by
  by_cases h : l < (n : Int)
  · rw [if_pos h]
    go_enter Try.func35, Try.ntmps35
    go_wp2
    go_ret
    exact ⟨rfl, rfl⟩
  · rw [if_neg h]
    go_enter Try.func35, Try.ntmps35
    go_wp2
    go_ret
    exact ⟨rfl, rfl⟩
def szR (l : Int) (n : Nat) (zss : List (List Int)) : Int := if l < (n : Int) + totK zss n then -1 else l - n - totK zss n
theorem totK_mono {zss : List (List Int)} {i k : Nat} (h : i ≤ k) : totK zss i ≤ totK zss k := by
  induction k with
  | zero => have : i = 0 := by omega
            subst this; exact Nat.le_refl _
  | succ k ih =>
    by_cases e : i = k + 1
    · subst e; exact Nat.le_refl _
    · have := ih (by omega); simp only [totK]; omega
set_option maxRecDepth 20000 in
set_option maxHeartbeats 1000000 in
theorem c_szIntSS (s : Option Addr) (n cap : Nat) (zss : List (List Int)) (hn : n ≤ 9223372036854775807) (hr : ∀ i, i < n → (zss[i]?.getD []).length ≤ 9223372036854775807) (w : World) (hc : Ints2 w s n zss) : Calls Try.prog 12 #[.slice s n cap, .int .i64 1048576] w fun e w' => e = .returned (.int .i64 (szR 1048576 n zss)) ∧ w = w' := by
  by_cases h : (1048576 : Int) < (n : Int)
  · have HR := Lib.hid (show szR 1048576 n zss = -1 by unfold szR; rw [if_pos (by omega)])
    go_enter Try.func12, Try.ntmps12
    go_wp2_with fail
    go_ret
    exact ⟨ri HR.out.symm, rfl⟩
  · go_enter Try.func12, Try.ntmps12
    go_wp2_with fail
    go_loop [1, 5] (fun l i => ∃ k : Nat, k ≤ n ∧ i = .int .i64 k ∧ l = .int .i64 (1048576 - n - totK zss k) ∧ (n : Int) + totK zss k ≤ 1048576) (fun _ i => n - (intOf i).toNat)
    case atStart => exact ⟨0, Nat.zero_le _, rfl, by simp [totK], by simp only [totK]; omega⟩
    case round =>
      obtain ⟨k, hk, rfl, rfl, ht⟩ := hrel
      by_cases hlt : k < n
      · rcases hc.lies with h0 | ⟨b, off, rfl, hb, hcells⟩
        · omega
        obtain ⟨t, c, hx, hI⟩ := hcells k hlt
        have hlen := hr k hlt
        have HT := Lib.hid (show totK zss (k + 1) = totK zss k + (zss[k]?.getD []).length from rfl)
        have hm := totK_mono (zss := zss) (show k + 1 ≤ n by omega)
        have HM := Lib.hid hm
        clear hcells hI hr hm
        generalize (zss[k]?.getD []).length = ln at *
        by_cases hov : (1048576 : Int) - n - totK zss k < ln
        · have hif : (if (1048576 : Int) - n - totK zss k < (ln : Int) then (-1 : Int) else 1048576 - n - totK zss k - ln) = -1 := if_pos hov
          have HR := Lib.hid (show szR 1048576 n zss = -1 by unfold szR; rw [if_pos (by have := HT.out; have := HM.out; omega)])
          have hsz := c_szIntT t ln c hlen ((1048576 : Int) - n - totK zss k) (by omega) (by omega) w
          rw [hif] at hsz
          clear hif hov
          go_wp2_with fail
          refine hsz.mono ?_
          rintro e w1 ⟨rfl, rfl⟩
          go_wp2_with fail
          go_ret
          exact ⟨ri HR.out.symm, rfl⟩
        · have hif : (if (1048576 : Int) - n - totK zss k < (ln : Int) then (-1 : Int) else 1048576 - n - totK zss k - ln) = 1048576 - n - totK zss k - ln := if_neg hov
          have hsz := c_szIntT t ln c hlen ((1048576 : Int) - n - totK zss k) (by omega) (by omega) w
          rw [hif] at hsz
          clear hif
          go_wp2_with fail
          refine hsz.mono ?_
          rintro e w1 ⟨rfl, rfl⟩
          go_wp2_with fail
          go_round
          case rel => exact ⟨k + 1, by omega, by go_num, by have := HT.out; rw [this]; congr 1; omega, by have := HT.out; omega⟩
          case measure => simp [intOf]; omega
      · have hk' : k = n := by omega
        subst hk'
        have HR := Lib.hid (show szR 1048576 k zss = 1048576 - k - totK zss k by unfold szR; rw [if_neg (by omega)])
        go_wp2_with fail
        go_ret
        exact ⟨ri HR.out.symm, rfl⟩
/-! laid anew -/
def ToSS (w : World) (n : Nat) (zss : List (List Int)) (e : Ending) (w' : World) : Prop := ∃ g, w.heap.size ≤ g ∧ e = .returned (.slice (some ⟨g, 0, none⟩) n n) ∧ Ints2 w' (some ⟨g, 0, none⟩) n zss ∧ Below w.heap.size w w'
theorem Ints.set {w : World} {g b : Nat} {n : Nat} {zs : List Int} (h : Ints w (some ⟨g, 0, none⟩) n zs) (hne : b ≠ g) (i : Nat) (v : Value) : Ints (w.setCell ⟨b, i, none⟩ v) (some ⟨g, 0, none⟩) n zs := by
  refine ⟨h.len, ?_⟩
  rcases h.lies with h0 | ⟨b', off, hs, hb, hc⟩
  · exact .inl h0
  · refine .inr ⟨b', off, hs, by simpa [World.setCell] using hb, fun j hj => ?_⟩
    simp only [Option.some.injEq, Addr.mk.injEq] at hs
    obtain ⟨rfl, _, _⟩ := hs
    rw [cell_other (by first | (simp; done) | (simp; omega))]
    exact hc j hj
set_option maxRecDepth 20000 in
set_option maxHeartbeats 2000000 in
theorem c_toIntSS (s : Option Addr) (n cap : Nat) (zss : List (List Int)) (hn : n ≤ 1048576) (hr : ∀ i, i < n → (zss[i]?.getD []).length ≤ 1048576) (w : World) (hc : Ints2 w s n zss) : Calls Try.prog 14 #[.slice s n cap] w (ToSS w n zss) := by
  obtain ⟨i0, hi, hz0, hz1, hz2⟩ := info_parts infoS
  go_enter Try.func14, Try.ntmps14
  go_wp2_with (at_make; refine wpList_make_full _ rfl _ _ 28 rfl w.heap.size 39 i0 (.slice none 0 0) 1 Try.underlying28 hi hz0 hz1 .i64 .i64 _ _ n rfl rfl rfl rfl (by rw [hz2]; omega) (by unfold maxLen; omega) (Nat.le_refl _) ?_; intro w1 hown hgrow)
  have hb0 : Below w.heap.size w w1 := (Below.refl _ _).grown hgrow (Nat.le_refl _) (fun k h => by cases h)
  have hown' : w1.ownsRow w.heap.size 39 1 (.slice (some ⟨w.heap.size, 0, none⟩) n n) n (madeCells #[.slice none 0 0] (n * 1)).toList := hown
  clear hown hgrow
  go_loopw [4] (fun i wr => ∃ (k : Nat) (vs : List Value), k ≤ n ∧ i = .int .i64 k ∧ wr.ownsRow w.heap.size 39 1 (.slice (some ⟨w.heap.size, 0, none⟩) n n) n vs ∧
    (∀ j, j < k → ∃ g, w.heap.size < g ∧ vs[j]? = some (.slice (some ⟨g, 0, none⟩) (zss[j]?.getD []).length (zss[j]?.getD []).length) ∧ Ints wr (some ⟨g, 0, none⟩) (zss[j]?.getD []).length (zss[j]?.getD [])) ∧ Below w.heap.size w wr) (fun i _ => n - (intOf i).toNat)
  case atStart => exact ⟨0, _, Nat.zero_le _, rfl, hown', fun j hj => by omega, hb0⟩
  case round =>
    clear hown' hb0
    obtain ⟨k, vs, hk, rfl, hO, hd, hB⟩ := hrel
    by_cases hlt : k < n
    · rcases (hc.keep hB).lies with h0 | ⟨b, off, rfl, hb, hcells⟩
      · omega
      obtain ⟨t, c, hx, hI⟩ := hcells k hlt
      have hlen := hr k hlt
      have hlo := World.ownsRow.lt hO w.heap.size rfl
      clear hcells
      go_wp2_with fail
      refine (c_toIntT t _ c _ hlen _ hI).mono ?_
      rintro e w2 ⟨g, hg, rfl, hO2, hB2⟩
      have hB3 := bt2 hB hB2
      have hO3 := row_keep hO hB2
      have hI2 := hO2.ints rfl
      have hx0 := World.ownsRow.cellAt hO3 k (by omega)
      have hvl : k < vs.length := by
        have := hO.1
        omega
      have hx1 : w2.cell? ⟨w.heap.size, k, none⟩ = some (vs[k]'hvl) := by rw [hx0, List.getElem?_eq_getElem hvl]
      have fz := World.ownsRow.frozenAt hO3 k
      have hd2 : ∀ j, j < k → ∃ g, w.heap.size < g ∧ vs[j]? = some (.slice (some ⟨g, 0, none⟩) (zss[j]?.getD []).length (zss[j]?.getD []).length) ∧ Ints w2 (some ⟨g, 0, none⟩) (zss[j]?.getD []).length (zss[j]?.getD []) := fun j hj => by
        obtain ⟨g', h1, h2, h3⟩ := hd j hj
        exact ⟨g', h1, h2, h3.keep hB2⟩
      have hw2 : w.heap.size < w2.heap.size := by have := hB2.size; omega
      clear hd hI hx hx0
      have HV := Lib.hid hvl
      have HD := Lib.hid hd2
      clear hd2 hr
      generalize vs[k]'hvl = old at *
      clear hvl
      go_wp2_with fail
      go_roundw
      case rel =>
        refine ⟨k + 1, _, by omega, by go_num, (World.ownsRow.stored hO3 k _).1, fun j hj => ?_, hB3.setCell (Nat.le_refl _) _⟩
        by_cases e : j = k
        · subst e
          exact ⟨g, by omega, by rw [List.getElem?_set, if_pos rfl, if_pos HV.out], hI2.set (by omega) _ _⟩
        · obtain ⟨g', h1, h2, h3⟩ := HD.out j (by omega)
          exact ⟨g', h1, by rw [List.getElem?_set, if_neg (fun h => e h.symm)]; exact h2, h3.set (by omega) _ _⟩
      case measure => simp [intOf]; omega
    · have hk' : k = n := by omega
      subst hk'
      have hres : Ints2 wr (some ⟨w.heap.size, 0, none⟩) k zss := by
        refine ⟨hc.len, .inr ⟨_, 0, rfl, (World.ownsRow.lt hO w.heap.size rfl).2, fun i hi => ?_⟩⟩
        obtain ⟨g, _, h2, h3⟩ := hd i hi
        rw [Nat.zero_add]
        exact ⟨_, _, by rw [World.ownsRow.cellAt hO i (by omega)]; exact h2, h3⟩
      clear hd hO hc hr
      go_wp2_with fail
      go_ret
      exact ⟨w.heap.size, Nat.le_refl _, rfl, hres, hB⟩
theorem drew_below (w : World) : Below w.heap.size w w.drew := (Below.refl _ _).drew
set_option maxRecDepth 20000 in
set_option maxHeartbeats 2000000 in
theorem c_eqIntSS (s t : Option Addr) (n c1 c2 : Nat) (zss : List (List Int)) (hn : n ≤ 1048576) (hr : ∀ i, i < n → (zss[i]?.getD []).length ≤ 1048576) (w : World) (hs : Ints2 w s n zss) (ht : Ints2 w t n zss) : Calls Try.prog 16 #[.slice s n c1, .slice t n c2] w fun e w' => e = .returned (.bool true) ∧ Below w.heap.size w w' := by
  go_enter Try.func16, Try.ntmps16
  go_wp2_with fail
  go_loopw [5] (fun i wr => ∃ k : Nat, k ≤ n ∧ i = .int .i64 k ∧ Below w.heap.size w wr) (fun i _ => n - (intOf i).toNat)
  case atStart => exact ⟨0, Nat.zero_le _, rfl, Below.refl _ _⟩
  case round =>
    obtain ⟨k, hk, rfl, hB⟩ := hrel
    by_cases hlt : k < n
    · rcases (hs.keep hB).lies with h0 | ⟨b1, o1, rfl, hb1, hcells1⟩
      · omega
      rcases (ht.keep hB).lies with h0 | ⟨b2, o2, rfl, hb2, hcells2⟩
      · omega
      obtain ⟨r1, d1, hx1, hI1⟩ := hcells1 k hlt
      obtain ⟨r2, d2, hx2, hI2⟩ := hcells2 k hlt
      have hE := c_eqIntS r1 r2 _ d1 d2 _ (hr k hlt) wr.drew (hI1.keep (drew_below _)) (hI2.keep (drew_below _))
      have hk0 : (0 : Int) ≤ (k : Int) := by omega
      have hkl : (k : Int) < (n : Int) := by omega
      clear hcells1 hcells2 hI1 hI2 hr
      generalize (zss[k]?.getD []).length = ln at *
      go_wp2_with fail
      go_region_held3 (fun w' => w'.cell? ⟨b1, o1 + k, none⟩ = some (.slice r1 ln d1) ∧ w'.cell? ⟨b2, o2 + k, none⟩ = some (.slice r2 ln d2)) (go_keep) (first | (go_at_call 23; refine hE.mono ?_; rintro e w5 ⟨rfl, hb5⟩; have q1 := keepc hb5 (show wr.drew.cell? _ = _ from hx1); have q2 := keepc hb5 (show wr.drew.cell? _ = _ from hx2)) | fail)
      have hB5 := bt2 hB (bt2 (drew_below wr) hb5)
      go_wp2_with fail
      go_roundw
      case rel => exact ⟨k + 1, by omega, by go_num, hB5⟩
      case measure => simp [intOf]; omega
    · go_wp2_with fail
      go_ret
      exact ⟨rfl, hB⟩
end Go.Proofs.Ytcfkppfnkecnjaa
