/- Chapter 7, the model: flags, moved, scaled, compared. -/
import Derived.Test.YtiplnfggiffngaaTa
import Derived.Test.YtiplnfggiffngaaRow
import Derived.OwnWalk
import Derived.Laws.OwnMore
namespace Go.Proofs.Ytiplnfggiffngaa
open Go.RowKit
theorem infoR : (Try.prog.info? 3).map (fun i => (i.zero, i.size, i.bytes)) = some (some (.int .i64 0), 1, 8) := by kernel_rfl
theorem infoB : (Try.prog.info? 4).map (fun i => (i.zero, i.size, i.bytes)) = some (some (.bool false), 1, 1) := by kernel_rfl
theorem one_newR (w : World) (x : Value) (t : TypeId) : ∀ j u, [x][j]? = some u → (w.alloc (.cells #[x] t)).cell? ((⟨w.heap.size, 0, none⟩ : Addr).add j) = some u := by
  intro j u hj
  match j, hj with
  | 0, hj => simp at hj; subst hj; simp [Addr.add]
def RetL (w : World) (zs : List Int) (e : Ending) (w' : World) : Prop := ∃ v, e = .returned v ∧ OwnI w' w.heap.size 3 v zs ∧ Below w.heap.size w w'
def RetLB (w : World) (zs : List Int) (ok : Bool) (e : Ending) (w' : World) : Prop := ∃ v, e = .returned (.tuple #[v, .bool ok]) ∧ OwnI w' w.heap.size 3 v zs ∧ Below w.heap.size w w'
theorem mks_at (n : Nat) (l : List Int) (k : Nat) (h : k < n) : (flg (mks n l))[k]?.getD (.bool false) = .bool (decide ((k : Int) ∈ l)) := by
  have := mks_get n l (k : Int) (by omega) (by omega)
  simpa using this
theorem mks_put (n : Nat) (l : List Int) (k : Nat) (h : k < n) : (flg (mks n l)).set k (.bool true) = flg (mks n (l ++ [(k : Int)])) := by
  have := mks_set n l (k : Int) (by omega) (by omega)
  simpa using this
set_option maxRecDepth 20000 in
set_option maxHeartbeats 2000000 in
theorem c_l7Set (g n cap base : Nat) (l : List Int) (hn : n ≤ 1000) (w : World) (hI : OwnV w base 4 (.slice (some ⟨g, 0, none⟩) n cap) (flg (mks n l))) : Calls Try.prog 33 #[.slice (some ⟨g, 0, none⟩) n cap] w (RetL w (setL n fun y => decide (y ∈ l))) := by
  have hb1 : Below w.heap.size w (w.alloc (.cells #[] 3)) := ba (Below.refl _ _) _
  have hO1 : OwnI (w.alloc (.cells #[] 3)) w.heap.size 3 (.slice (some ⟨w.heap.size, 0, none⟩) 0 0) [] := World.ownsRow_lit w #[] 0 (Nat.le_refl _) (by unfold maxLen; omega) rfl
  have hml : (flg (mks n l)).length = n := by simp [flg, mks_length]
  have HC := Lib.hid (fun (k : Nat) (h : k < n) => mks_at n l k h)
  obtain ⟨i0, hi, hz0, hz1, hz2⟩ := info_parts infoR
  go_enter Try.func33, Try.ntmps33
  go_wp2_with fail
  generalize w.alloc (.cells #[] 3) = W1 at *
  have hO3 : W1.ownsRow w.heap.size 3 1 (.slice (some ⟨w.heap.size, 0, none⟩) 0 0) 0 [] := hO1
  clear hO1
  go_loopw [3, 4] (fun v i wr => ∃ (k : Nat), k ≤ n ∧ i = .int .i64 k ∧ wr.ownsRow w.heap.size 3 1 v (setL k fun y => decide (y ∈ l)).length ((setL k fun y => decide (y ∈ l)).map (Value.int .i64)) ∧ Below w.heap.size w wr) (fun _ i _ => n - (intOf i).toNat)
  case atStart => exact ⟨0, Nat.zero_le _, rfl, hO3, hb1⟩
  case round =>
    clear hO3 hb1
    obtain ⟨k, hk, rfl, hO, hB⟩ := hrel
    by_cases hlt : k < n
    · have hx := (hI.keep hB).cell hml k hlt
      rw [HC.out k hlt] at hx
      have hKl := setL_le k fun y => decide (y ∈ l)
      have hS := setL_succ k fun y => decide (y ∈ l)
      have hkz0 : (0 : Int) ≤ (k : Int) := by omega
      have hkz1 : (k : Int) < (n : Int) := by omega
      cases he : decide ((k : Int) ∈ l)
      · rw [he] at hx
        have HK : Hid ((setL (k + 1) fun y => decide (y ∈ l)) = setL k fun y => decide (y ∈ l)) := Lib.hid (by rw [hS]; simp only [he]; simp)
        clear hS he
        go_wp2_with fail
        go_roundw
        case rel => exact ⟨k + 1, by omega, by go_num, by rw [HK.out]; exact hO, hB⟩
        case measure => simp [intOf]; omega
      · rw [he] at hx
        have HK : Hid ((setL (k + 1) fun y => decide (y ∈ l)) = (setL k fun y => decide (y ∈ l)) ++ [(k : Int)]) := Lib.hid (by rw [hS]; simp only [he]; rfl)
        clear hS he
        generalize hLe : (setL k fun y => decide (y ∈ l)).length = L at *
        have hbs : w.heap.size ≤ wr.heap.size := hB.size
        go_wp2_with (first | (at_builtin; refine wpList_append_own _ rfl _ _ 23 rfl w.heap.size 3 i0 (.int .i64 0) 1 8 Try.underlying23 hi hz0 hz1 hz2 rfl (by decide) _ L _ rfl (hO.alloc _) ⟨wr.heap.size, 0, none⟩ 1 1 [.int .i64 k] rfl rfl (one_newR wr _ _) (by simp [Value.oneCell']) (by unfold maxLen; omega) (by omega) (by simp; omega) ?_; intro v7 w7 hown7 hgrow7 _) | fail)
        have hb7 : Below w.heap.size w w7 := (hB.alloc hbs _).grown hgrow7 (by simp; omega) (fun g e => (hO.lt g e).1)
        go_roundw
        case rel => exact ⟨k + 1, by omega, by go_num, by rw [HK.out, List.map_append, List.length_append, hLe]; exact hown7, hb7⟩
        case measure => simp [intOf]; omega
    · have hk' : k = n := by omega
      subst hk'
      go_wp2_with fail
      go_ret
      exact ⟨_, rfl, hO, hB⟩
theorem take_next (f : Int → Int) (z : List Int) (k : Nat) (h : k < z.length) : (z.map f).take (k + 1) = (z.map f).take k ++ [f (gZ z k)] := by
  rw [List.take_succ_eq_append_getElem (by simpa using h)]
  congr 2
  simp [gZ_get z k h]
theorem tsizes {n : Int} {z : List Int} {l : Nat} (h : Til n z) (hl : z.length = l) : 1 ≤ n ∧ n ≤ 24 ∧ 1 ≤ l ∧ l ≤ 24 := by
  have h1 := h.1
  have h2 := h.2.1
  have h3 := h.len
  exact ⟨h1, h2, by omega, by omega⟩
theorem tmd_cases (n t : Int) (z : List Int) : (tilB n z = false) ∨ (tilB n z = true ∧ l6B t (-1000) 1000 = false) ∨ (tilB n z = true ∧ l6B t (-1000) 1000 = true) := by
  cases tilB n z <;> cases l6B t (-1000) 1000 <;> simp
theorem eq_gZ {z y : List Int} (hl : z.length = y.length) (h : ∀ i, i < z.length → gZ z i = gZ y i) : z = y := by
  apply List.ext_getElem hl
  intro i h1 h2
  rw [← gZ_get z i h1, ← gZ_get y i h2]
  exact h i h1
end Go.Proofs.Ytiplnfggiffngaa
