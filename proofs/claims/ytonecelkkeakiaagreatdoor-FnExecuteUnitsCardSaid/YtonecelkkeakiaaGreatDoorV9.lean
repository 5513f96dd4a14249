/- The walk of the promise law FnUnits. -/
import Derived.Test.YtonecelkkeakiaaGreatDoorDg
import Derived.Test.YtonecelkkeakiaaGreatDoorY3
namespace Go.Proofs.YtonecelkkeakiaaGreatDoor
open Go.RowKit
def DrawnM (w : World) (e : Ending) (w' : World) : Prop := ∃ m : Int, 0 ≤ m ∧ m ≤ 1004 ∧ e = .returned (.int .i64 m) ∧ Below w.heap.size w w'
theorem c_l92Mod (s : Option Addr) (len cap : Nat) (w : World) (h : Code0 w s len cap) : Calls Tryz.prog 38 #[.slice s len cap] w (DrawnM w) := by
  go_enter Tryz.func38, Tryz.ntmps38
  go_wp2_with fail
  refine (c_l6Open s len cap _ h).mono ?_
  rintro e w2 ⟨B, s', len', hB, rfl, hR2, hb2⟩
  have HB := Lib.hid hB
  clear hB
  go_wp2_with fail
  refine (c_pickR 60 (by omega) (by omega) hR2 (by omega)).mono ?_
  rintro e w3 ⟨x, x1, x2, rfl, hR3, hO3⟩
  go_wp2_with fail
  refine (c_pickR 24 (by omega) (by omega) hR3 (by omega)).mono ?_
  rintro e w4 ⟨y, y1, y2, rfl, hR4, hO4⟩
  obtain ⟨q0, q1, q2⟩ := quo_lt (n := 23) y1 (by omega) (by omega)
  have hT := hb2.trans (oth_below (hO3.trans hO4) hR2)
  go_wp2_with fail
  go_ret
  exact ⟨x + y / 23 * 945, by omega, by omega, rfl, hT⟩
theorem c_DrawSolveUnits (s : Option Addr) (len cap : Nat) (w : World) (h : Code0 w s len cap) : Calls Tryz.prog 18 #[.slice s len cap] w (DrawnM w) := by
  go_enter Tryz.func18, Tryz.ntmps18
  go_wp2_with fail
  refine (c_l92Mod s len cap _ h).mono ?_
  rintro e w2 ⟨m, m1, m2, rfl, hT⟩
  go_wp2_with fail
  go_ret
  exact ⟨m, m1, m2, rfl, hT⟩
/-- how many of 1 .. k go back -/
def bckC (m : Int) (k : Nat) : Nat := ((oneTo k).filter fun a => linO a 1 m).length
theorem bckC_succ (m : Int) (k : Nat) : bckC m (k + 1) = bckC m k + (bif linO ((k : Int) + 1) 1 m then 1 else 0) := by
  unfold bckC
  rw [oneTo_succ, List.filter_append, List.length_append]
  cases h : linO ((k : Int) + 1) 1 m <;> simp [h]
theorem bckC_le (m : Int) (k : Nat) : bckC m k ≤ k := by
  have := List.length_filter_le (fun a => linO a 1 m) (oneTo k)
  rw [oneTo_length] at this
  exact this
def bckOk (m : Nat) : Bool := Nat.beq (bckC (m : Int) m) (uniC (m : Int) (oneTo m))
theorem bck_all : ((List.range 41).all fun m => Nat.beq m 0 || bckOk m) = true := by decide +kernel
theorem bck_units {m : Nat} (h1 : 1 ≤ m) (h2 : m ≤ 40) : bckC (m : Int) m = uniC (m : Int) (oneTo m) := by
  have := List.all_eq_true.1 bck_all m (List.mem_range.2 (by omega))
  rcases Bool.or_eq_true_iff.1 this with h | h
  · have := Nat.eq_of_beq_eq_true h; omega
  · exact Nat.eq_of_beq_eq_true h
theorem uni_ge {m : Int} (m1 : 1 ≤ m) : ∀ k : Nat, 1 ≤ k → 1 ≤ uniC m (oneTo k)
  | 0, h => by omega
  | 1, _ => by
    have e : gcdI 1 m = 1 := by simp [gcdI]
    have h := uni_step (m := m) (k := 0)
    simp only [Int.ofNat_zero, Int.zero_add, e] at h
    rw [show oneTo 1 = oneTo (0 + 1) from rfl, h]
    exact Nat.le_add_left _ _
  | k + 2, _ => by
    have := uni_ge m1 (k + 1) (by omega)
    rw [uni_step]
    omega
theorem uni_bd {m : Int} (m1 : 2 ≤ m) : 1 ≤ uniI m ∧ uniI m < m := by
  obtain ⟨k, hk⟩ : ∃ k : Nat, m = (k : Int) + 1 := ⟨(m - 1).toNat, by omega⟩
  have h1 := uni_ge (show 1 ≤ m by omega) m.toNat (by omega)
  refine ⟨by unfold uniI; omega, ?_⟩
  have e : m.toNat = k + 1 := by omega
  unfold uniI
  rw [e, uni_step]
  have hg : gcdI ((k : Int) + 1) m = m := by
    rw [hk]
    simp [gcdI] <;> omega
  have : (gcdI ((k : Int) + 1) m == 1) = false := by rw [hg]; simp; omega
  rw [this, cond_false]
  have := uniC_le m (oneTo k)
  rw [oneTo_length] at this
  omega
end Go.Proofs.YtonecelkkeakiaaGreatDoor
