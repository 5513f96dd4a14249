/- Chapter 8: a line's answer. -/
import Derived.Test.YtonecelkkeakiaaGreatDoorZi
import Derived.Defers
import Derived.Recover
namespace Go.Proofs.YtonecelkkeakiaaGreatDoor
open Go.RowKit Go.Shelf
theorem c_caught (p : Value) (w : World) : CallsD Tryz.prog 76 #[p] .returning w fun e u' w' => e = .returned (.tuple #[]) ∧ u' = .returning ∧ w' = w := by
  refine callsD_of_wpS Tryz.func76 rfl fun c₀ cs hu => ?_
  apply wpS_seq
  apply wpS_region
  simp [wpOpsS, go_sem, recoverD, hu, Tryz.ntmps76, Exit.thenS]
  refine wpS_of_wp ?_
  simp only [Array.replicate_succ, Array.replicate_zero, List.push_toArray, List.nil_append, List.cons_append]
  go_wp2_with fail
  cases c₀
  simp_all [bodyPostS, results, Tryz.results76]
/-- the line of the word units -/
def unitsL (m : Nat) : ByteArray := ⟨#[117, 110, 105, 116, 115, 32]⟩ ++ txt m
theorem cut_units (m : Nat) : Lib.cut (unitsL m).data.toList [32] = ([117, 110, 105, 116, 115], (line [m]).data.toList, true) := by
  have e : (unitsL m).data.toList = [117, 110, 105, 116, 115] ++ 32 :: (txt m).data.toList := by
    unfold unitsL
    simp [ByteArray.data_append]
  have hi : Lib.index (unitsL m).data.toList [32] = 5 := by
    rw [Lib.index_one, e, idx_some 32 _ _ (by decide)]
    rfl
  unfold Lib.cut
  rw [hi, if_pos (by decide), e]
  rfl
set_option maxRecDepth 20000 in
set_option maxHeartbeats 1000000 in
theorem c_ansUnits (m R : Nat) (B : Value) (m1 : 1 ≤ m) (m2 : m ≤ 1000) (w : World) (hE : Env w) (hR : w.heap[R]? = some (cmdM 28)) :
    Calls Tryz.prog 29 #[B, .string (unitsL m), .map (some R)] w fun e w' => e = .returned (.string (txt (uniI m).toNat)) ∧ Below w.heap.size w w' := by
  have hmf : ∀ (fn : Fn) (first cap : Array Value) (w : World), (Instr.makeFunc fn first cap).run Tryz.prog w = .ok (.func fn first cap) w := fun _ _ _ _ => rfl
  have hl := txt_len (n := m) (by omega)
  have hT := fun w hE hR => c_told ⟨#[117, 110, 105, 116, 115]⟩ 1 71 25 [m] R (by simp) (by show (txt m).size ≤ 100000; omega) (by simp; omega) (by simp) (unitsL m) (by unfold unitsL; rw [ByteArray.size_append]; show 6 + (txt m).size ≤ 100000; omega) (cut_units m) (by decide) (.inr (by simp)) (by rfl) w hE hR
  generalize unitsL m = T at *
  go_enter_defers Tryz.func29, Tryz.ntmps29
  have hb0 : Below w.heap.size w (w.alloc (.cells #[.string ⟨#[]⟩] 9)) := ba (Below.refl _ _) _
  have hRl := (Array.getElem?_eq_some_iff.1 hR).1
  go_wp2_with fail
  refine (hT _ (hE.keep hb0) ((hb0.block R hRl).trans hR)).mono ?_
  rintro e w1 ⟨g, cap, rfl, hO1, hb1⟩
  have hst := st_new w1 (.func 71) 1 75
  have hbW : Below w.heap.size w w1 := hb0.trans (hb1.mono hb0.size)
  have hb2 : Below w1.heap.size w1 (w1.alloc (.cells #[.int .i64 1, .func (.func 71) #[] #[]] 75)) := ba (Below.refl _ _) _
  have hE2 := (hE.keep hbW).keep hb2
  have hc2 := keepc hb2 (OwnI.cell hO1 (by simp [ints]) 0 (by simp))
  have hU := c_units g cap 0 (m : Int) B (by omega) (by omega) _ hE2 (by simpa [ints] using hc2)
  obtain ⟨u, hu⟩ : ∃ u, (uniI (m : Int)).toNat = u := ⟨_, rfl⟩
  have HU := Lib.hid hu
  rw [hu] at hU
  clear hu
  clear hT hE2 hc2
  go_wp2_with fail
  refine hU.mono ?_
  rintro e w2 ⟨rfl, hb3⟩
  have hb4 := hb1.trans ((hb2.trans (hb3.mono hb2.size)).mono hb1.size)
  have r0 : w2.cell? ⟨w.heap.size, 0, none⟩ = some (.string ⟨#[]⟩) := keepc hb4 (World.cell?_alloc_mark w _ _ _ 0)
  have r1 : w2.frozen? ⟨w.heap.size, 0, none⟩ = false := keepf hb4 (World.cell?_alloc_mark w _ _ _ 0) (by rw [World.frozen?_alloc_mark]; simp)
  have hfin : Below w.heap.size w (w2.setCell ⟨w.heap.size, 0, none⟩ (.string (txt u))) := (hb0.trans (hb4.mono hb0.size)).setCell (p := ⟨w.heap.size, 0, none⟩) (Nat.le_refl _) _
  have r2 := set_hit (v := .string (txt u)) r0
  clear hU hst hb1 hb2 hb3 hO1
  go_wp2_with fail
  refine leaves_cons (f := 76) (args := #[.pointer (some ⟨w.heap.size, 0, none⟩)]) (by simp) (by simp [go_sem]) ?_
  refine (c_caught (.pointer (some ⟨w.heap.size, 0, none⟩)) _).mono ?_
  rintro e u' w'' ⟨rfl, rfl, rfl⟩
  simp [Leaves, settle, results, Tryz.results29, go_sem, r2, hfin]
  rw [HU.out]
end Go.Proofs.YtonecelkkeakiaaGreatDoor
