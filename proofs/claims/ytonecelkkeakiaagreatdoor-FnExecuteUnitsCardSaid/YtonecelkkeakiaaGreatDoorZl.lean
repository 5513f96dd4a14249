/- The walk of the promise law FnExecuteUnits. -/
import Derived.Test.YtonecelkkeakiaaGreatDoorZk
import Derived.Test.YtonecelkkeakiaaGreatDoorV9
namespace Go.Proofs.YtonecelkkeakiaaGreatDoor
open Go.RowKit
set_option maxRecDepth 20000 in
set_option maxHeartbeats 4000000 in
theorem w_FnExecuteUnits (s : Option Addr) (len cap : Nat) (w : World) (hE : Env w) (h : Code0 w s len cap) : Calls Tryz.prog 7 #[.slice s len cap] w fun e w' => e = .returned (.bool true) ∧ Below w.heap.size w w' := by
  have hlc := h.lc
  have hcm := h.cm
  unfold maxLen at hcm
  by_cases hlen : ¬ len ≤ 1048576
  · go_enter Tryz.func7, Tryz.ntmps7
    go_wp2_with fail
    go_ret
    exact ⟨rfl, Below.refl _ _⟩
  have hlen2 : len ≤ 1048576 := by omega
  clear hlen
  go_enter Tryz.func7, Tryz.ntmps7
  go_wp2_with fail
  refine (c_DrawSolveUnits s len cap _ h).mono ?_
  rintro e w0 ⟨m, m1, m2, rfl, hT⟩
  have hE0 := hE.keep hT
  have hI := fun w1 => c_implSolveUnits m w1
  have hS := fun w1 => c_specSolveUnits m w1
  cases hm : modB m
  · simp only [uniR, hm, selI_f] at hI hS
    go_wp2_with fail
    refine (hI _).mono ?_
    rintro e w1 ⟨rfl, hb1⟩
    have hT1 := bt2 hT hb1
    go_wp2_with fail
    refine (hS _).mono ?_
    rintro e w2 ⟨rfl, rfl⟩
    go_wp2_with fail
    go_ret
    exact ⟨rfl, hT1⟩
  · obtain ⟨ma1, ma2⟩ := modB_iff.1 hm
    simp only [uniR, hm, selI_t] at hI hS
    clear hm
    obtain ⟨M, rfl⟩ : ∃ M : Nat, m = (M : Int) := ⟨m.toNat, by omega⟩
    have hD := fun w => c_digits M (by omega) w
    have hX := fun w hE => c_runUnits M (by omega) (by omega) w hE
    have hu1 := uniI_le (m := (M : Int)) (by omega) (by omega)
    have hu0 : 0 ≤ uniI (M : Int) := by unfold uniI; omega
    obtain ⟨U, hU⟩ : ∃ U : Nat, uniI (M : Int) = (U : Int) := ⟨(uniI (M : Int)).toNat, by omega⟩
    rw [hU] at hI hS
    have hUn : (uniI (M : Int)).toNat = U := by omega
    rw [hUn] at hX
    have hD2 := fun w => c_digits U (by omega) w
    have hl1 := txt_len (n := M) (by omega)
    have hl2 := txt_len (n := U) (by omega)
    have hsc : scr [unitsL M] = ⟨#[117, 110, 105, 116, 115, 32]⟩ ++ txt M ++ ⟨#[10]⟩ := by
      show unitsL M ++ (⟨#[10]⟩ ++ ⟨#[]⟩) = _
      rfl
    rw [hsc] at hX
    clear hsc hU hUn hu1 hu0
    generalize txt M = TM at *
    generalize txt U = TU at *
    go_wp2_with fail
    refine (hI _).mono ?_
    rintro e w1 ⟨rfl, hb1⟩
    have hT1 := bt2 hT hb1
    have hE1 := hE0.keep hb1
    go_wp2_with fail
    refine (hS _).mono ?_
    rintro e w2 ⟨rfl, rfl⟩
    clear hI hS
    go_wp2_with fail
    refine (hD _).mono ?_
    rintro e w2 ⟨rfl, hb2⟩
    have hT2 := bt2 hT1 hb2
    have hE2 := hE1.keep hb2
    go_wp2_with fail
    refine (hX _ hE2).mono ?_
    rintro e w3 ⟨rfl, hb3⟩
    have hT3 := bt2 hT2 hb3
    go_wp2_with fail
    refine (hD2 _).mono ?_
    rintro e w4 ⟨rfl, hb4⟩
    have hT4 := bt2 hT3 hb4
    go_wp2_with fail
    go_ret
    exact ⟨rfl, hT4⟩
end Go.Proofs.YtonecelkkeakiaaGreatDoor
