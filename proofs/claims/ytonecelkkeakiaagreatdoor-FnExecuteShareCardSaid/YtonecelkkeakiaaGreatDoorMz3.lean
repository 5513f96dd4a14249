/- Contracts of what the laws on scaled classes and on counts draw. -/
import Derived.Test.YtonecelkkeakiaaGreatDoorMz2
import Derived.Test.YtonecelkkeakiaaGreatDoorE2
import Derived.Test.YtonecelkkeakiaaGreatDoorMz6
import Derived.Test.YtonecelkkeakiaaGreatDoorMz7
import Derived.Test.YtonecelkkeakiaaGreatDoorMz8
import Derived.Shelf.SlSortCmp.SmallK
import Derived.Test.YtonecelkkeakiaaGreatDoorS1
namespace Go.Proofs.YtonecelkkeakiaaGreatDoor
open Go.RowKit
theorem c_pickRW (n : Int) (hn : 1 ≤ n) (hn2 : n ≤ 1000000) {b0 : Nat} {w : World} {B : Nat} {s : Option Addr} {len p : Nat} (h : Rd b0 w B s len p) (hp : p < 1000000) (W : World) (hW : W = w ∨ W = w.drew) :
    Calls Tryz.prog 22 #[.pointer (some ⟨B, 0, none⟩), .int .i64 n] W (PickR n b0 B s len p w) := by
  rcases hW with rfl | rfl
  · exact c_pickR n hn hn2 h hp
  · exact (c_pickR n hn hn2 h.drew hp).mono fun _ _ ⟨x, h1, h2, h3, h4, h6⟩ => ⟨x, h1, h2, h3, h4, ((Oth.refl _ _).drew).trans h6⟩
/-- the old blocks may be fewer -/
theorem Rd.keep_le {b0 b1 : Nat} {w : World} {B : Nat} {s : Option Addr} {len p : Nat} (h : Rd b0 w B s len p) (hl : b1 ≤ b0) : b1 ≤ B := Nat.le_trans hl h.le
theorem Rd.setp {b0 : Nat} {w : World} {B : Nat} {s : Option Addr} {len p : Nat} (h : Rd b0 w B s len p) (q : Nat) (hq : q ≤ 1000000) :
    Rd b0 (w.setCell ⟨B, 1, none⟩ (.int .i64 (q : Int))) B s len q := by
  obtain ⟨cap, c0⟩ := h.c0
  refine ⟨⟨cap, ?_⟩, ?_, ?_, h.bt.keep fun b i hb => ?_, h.le, h.hl, hq⟩
  · rw [cell_other (by simp)]; exact c0
  · rw [World.cell?_setCell_same' _ _ _ (by rw [h.c1]; rfl)]
  · simpa using h.fz
  · have := h.le
    rw [cell_other (by simp <;> omega)]
def DrawnCII (w : World) (e : Ending) (w' : World) : Prop :=
  ∃ r m a b : Int, 1 ≤ m ∧ m ≤ 24 ∧ 0 ≤ r ∧ r ≤ m ∧ -100 ≤ a ∧ a ≤ 2000099 ∧ a - 5 ≤ b ∧ b ≤ a + 54 ∧ e = .returned (.tuple #[.agg #[.int .i64 r, .int .i64 m], .int .i64 a, .int .i64 b]) ∧ Below w.heap.size w w'
end Go.Proofs.YtonecelkkeakiaaGreatDoor
namespace Go.Proofs.YtonecelkkeakiaaGreatDoor
open Go.RowKit
def mtB (r m s n : Int) : Bool := inB r m && inB s n && metB m s n r
theorem mtB_0 {r m s n : Int} (h : inB r m = false) : mtB r m s n = false := by simp [mtB, h]
theorem mtB_1 {r m s n : Int} (h : inB s n = false) : mtB r m s n = false := by simp [mtB, h]
theorem mtB_2 {r m s n : Int} (h : inB r m = true) (k : inB s n = true) : mtB r m s n = metB m s n r := by simp [mtB, h, k]
end Go.Proofs.YtonecelkkeakiaaGreatDoor
namespace Go.Proofs.YtonecelkkeakiaaGreatDoor
open Go.RowKit
end Go.Proofs.YtonecelkkeakiaaGreatDoor
namespace Go.Proofs.YtonecelkkeakiaaGreatDoor
theorem covK_any (zs : List Cl) (x : Int) (k : Nat) (h : k ≤ zs.length) : covK zs x k = (zs.take k).any fun c => x % c.2 == c.1 := by
  induction k with
  | zero => simp [covK]
  | succ k ih =>
    have hk : k < zs.length := by omega
    rw [List.take_succ_eq_append_getElem hk, List.any_append, ← ih (by omega)]
    simp [covK, rAt, mAt, hk]
theorem covB_any (zs : List Cl) (x : Int) : covB zs x = zs.any fun c => x % c.2 == c.1 := by
  have h := covK_any zs x zs.length (Nat.le_refl _)
  rw [List.take_length] at h
  exact h
theorem covB_perm {zs ys : List Cl} (h : List.Perm zs ys) (x : Int) : covB zs x = covB ys x := by
  rw [covB_any, covB_any, Bool.eq_iff_iff]
  simp only [List.any_eq_true]
  exact ⟨fun ⟨c, hc, h1⟩ => ⟨c, h.mem_iff.1 hc, h1⟩, fun ⟨c, hc, h1⟩ => ⟨c, h.mem_iff.2 hc, h1⟩⟩
theorem allB_perm {zs ys : List Cl} (h : List.Perm zs ys) : allB zs = allB ys := by
  rw [Bool.eq_iff_iff]
  simp only [allB, List.all_eq_true]
  exact ⟨fun H c hc => H c (h.mem_iff.2 hc), fun H c hc => H c (h.mem_iff.1 hc)⟩
end Go.Proofs.YtonecelkkeakiaaGreatDoor
namespace Go.Proofs.YtonecelkkeakiaaGreatDoor
open Go.RowKit
open Go.Sort
def encC (c : Cl) : List Value := [.int .i64 c.1, .int .i64 c.2]
theorem modW_grow (c d : Cl) (w : World) : ∃ os, modW c d w = grow (w.drewN 1) os := by
  refine ⟨((#[(Obj.cells #[Value.int IntKind.i64 c.1, Value.int IntKind.i64 c.2] 41)] ++ #[(Obj.cells #[Value.int IntKind.i64 d.1, Value.int IntKind.i64 d.2] 41)]) ++ #[.cells #[.int .i64 (cmpI c.2 d.2), .int .i64 (cmpI c.1 d.1)] 3] : Array Obj), ?_⟩
  unfold modW
  rw [alloc_eq_grow, alloc_eq_grow, alloc_eq_grow, grow_grow, grow_grow, drew_grow]
  rfl
theorem cmp_lays (blk off size : Nat) (w : World) : CmpLays (α := Cl) Tryz.prog 172 #[] encC 2 modI blk off size w := by
  intro m os dk _ x y
  refine (c_byModulus x.1 x.2 y.1 y.2 _).mono ?_
  rintro e w' ⟨rfl, rfl⟩
  obtain ⟨os', h⟩ := modW_grow x y (sortWorldK encC 2 w blk off m dk os)
  exact ⟨rfl, 1, os', h⟩
end Go.Proofs.YtonecelkkeakiaaGreatDoor
namespace Go.Proofs.YtonecelkkeakiaaGreatDoor
open Go.RowKit
/-- the sum of the period over the first k moduli -/
def shrK (P : Int) (zs : List Cl) : Nat → Int
  | 0 => 0
  | k + 1 => shrK P zs k + P / mAt zs k
theorem rib {a b : Int} {x : Bool} (h : a = b) : Ending.returned (.tuple #[.int .i64 a, .bool x]) = .returned (.tuple #[.int .i64 b, .bool x]) := by rw [h]
def shrI (zs : List Cl) : Int := shrK (perI zs) zs zs.length
theorem shrK_bd {P : Int} {zs : List Cl} (h1 : 1 ≤ P) (h2 : P ≤ 1000) (ha : allB zs = true) (k : Nat) (hk : k ≤ zs.length) : 0 ≤ shrK P zs k ∧ shrK P zs k ≤ 1000 * (k : Int) := by
  induction k with
  | zero => simp [shrK]
  | succ k ih =>
    obtain ⟨i1, i2⟩ := ih (by omega)
    obtain ⟨m1, m2, _, _⟩ := inB_iff.1 (allB_at ha k (by omega))
    have := quo_bd (show 0 ≤ P by omega) m1
    simp only [shrK]
    omega
set_option maxHeartbeats 400000 in
theorem c_specSystemShare (s : Option Addr) (n cap : Nat) (zs : List Cl) (hn : n ≤ 1048576) (w : World) (hc : Cls w s n zs) : Calls Tryz.prog 15 #[.slice s n cap] w fun e w' => e = .returned (.tuple #[.int .i64 (selI (sysB zs) (shrI zs)), .bool (sysB zs)]) ∧ Below w.heap.size w w' := by
  have hlen := hc.len
  have HL := Lib.hid hlen
  clear hlen
  cases hs : sysB zs
  · simp only [selI_f]
    go_enter Tryz.func15, Tryz.ntmps15
    go_wp2_with (go_at_call 36; refine (c_specSystemIn _ _ _ zs hn _ hc).mono ?_; rintro e w' ⟨rfl, hb⟩)
    go_ret2
    exact ⟨rfl, hb⟩
  · obtain ⟨hl1, hl2, ha, _, P1, P2⟩ := sysB_facts hs
    simp only [selI_t]
    have HA := Lib.hid ha
    have HS := Lib.hid (show shrK (perI zs) zs n = shrI zs by rw [← HL.out]; rfl)
    clear ha
    go_enter Tryz.func15, Tryz.ntmps15
    go_wp2_with (first | (go_at_call 36; refine (c_specSystemIn _ _ _ zs hn _ hc).mono ?_; rintro e w' ⟨rfl, hb⟩; have hc2 := hc.keep hb) | (go_at_call 37; refine (c_l2Period _ _ _ zs hn HA.out _ hc2).mono ?_; rintro e w' ⟨nq, rfl, rfl⟩))
    have hb2 := bel_drewN hb nq
    go_loopw [4, 6] (fun q i wr => ∃ (k : Nat), k ≤ n ∧ i = .int .i64 k ∧ q = .int .i64 (shrK (perI zs) zs k) ∧ Below w.heap.size w wr) (fun _ i _ => n - (intOf i).toNat)
    case atStart => exact ⟨0, Nat.zero_le _, rfl, rfl, hb2⟩
    case round =>
      obtain ⟨k, hk, rfl, rfl, hB⟩ := hrel
      have hsb := shrK_bd P1 P2 HA.out k (by rw [HL.out]; exact hk)
      by_cases hlt : k < n
      · obtain ⟨m1, m2, _, _⟩ := inB_iff.1 (allB_at HA.out k (by rw [HL.out]; exact hlt))
        have hq := quo_bd (show 0 ≤ perI zs by omega) m1
        rcases (hc.keep hB).lies with h0 | ⟨b, off, rfl, hb', hcells⟩
        · omega
        obtain ⟨hx, hy⟩ := hcells k hlt
        clear hcells
        go_wp2_with fail
        go_roundw
        case rel => exact ⟨k + 1, by omega, by go_num, rfl, hB⟩
        case measure => simp [intOf]; omega
      · have hk' : k = n := by omega
        subst hk'
        go_wp2_with fail
        go_ret2
        exact ⟨rib HS.out, hB⟩
set_option maxHeartbeats 400000 in
theorem c_implSystemShare (s : Option Addr) (n cap : Nat) (zs : List Cl) (hn : n ≤ 1048576) (w : World) (hc : Cls w s n zs) : Calls Tryz.prog 14 #[.slice s n cap] w fun e w' => e = .returned (.tuple #[.int .i64 (selI (sysB zs) (shrI zs)), .bool (sysB zs)]) ∧ Below w.heap.size w w' := by
  have hlen := hc.len
  have HL := Lib.hid hlen
  clear hlen
  cases hs : sysB zs
  · simp only [selI_f]
    go_enter Tryz.func14, Tryz.ntmps14
    go_wp2_with (go_at_call 35; refine (c_implSystemPeriod_f _ _ _ zs hn hs _ hc).mono ?_; rintro e w' ⟨rfl, hb⟩)
    go_ret2
    exact ⟨rfl, hb⟩
  · obtain ⟨hl1, hl2, ha, _, P1, P2⟩ := sysB_facts hs
    simp only [selI_t]
    have HA := Lib.hid ha
    have HS := Lib.hid (show shrK (perI zs) zs n = shrI zs by rw [← HL.out]; rfl)
    clear ha
    go_enter Tryz.func14, Tryz.ntmps14
    go_wp2_with (first | (go_at_call 35; refine (c_implSystemPeriod_t _ _ _ zs hn hs _ hc).mono ?_; rintro e w' ⟨rfl, hb⟩))
    go_loopw [6, 18] (fun q i wr => ∃ (k : Nat), k ≤ n ∧ i = .int .i64 k ∧ q = .int .i64 (shrK (perI zs) zs k) ∧ Below w.heap.size w wr) (fun _ i _ => n - (intOf i).toNat)
    case atStart => exact ⟨0, Nat.zero_le _, rfl, rfl, hb⟩
    case round =>
      obtain ⟨k, hk, rfl, rfl, hB⟩ := hrel
      have hsb := shrK_bd P1 P2 HA.out k (by rw [HL.out]; exact hk)
      by_cases hlt : k < n
      · obtain ⟨m1, m2, _, _⟩ := inB_iff.1 (allB_at HA.out k (by rw [HL.out]; exact hlt))
        have hq := quo_bd (show 0 ≤ perI zs by omega) m1
        rcases (hc.keep hB).lies with h0 | ⟨b, off, rfl, hb', hcells⟩
        · omega
        obtain ⟨hx, hy⟩ := hcells k hlt
        clear hcells
        go_wp2_with fail
        go_roundw
        case rel => exact ⟨k + 1, by omega, by go_num, rfl, ba hB _⟩
        case measure => simp [intOf]; omega
      · have hk' : k = n := by omega
        subst hk'
        go_wp2_with fail
        go_ret2
        exact ⟨rib HS.out, hB⟩
end Go.Proofs.YtonecelkkeakiaaGreatDoor
