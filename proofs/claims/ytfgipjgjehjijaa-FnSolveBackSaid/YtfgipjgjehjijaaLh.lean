/- SolveUnits beside others: the drawn order, calls from a round (own text). -/
import Derived.Test.YtfgipjgjehjijaaLg
namespace Go.Proofs.Ytfgipjgjehjijaa
open Go Go.Conc Go.ConcN Go.RowKit Go.Conc.Lib Go.ConcR.Gen Go.ConcN.Gen
open Go.ConcR (KK wgBlock WgAt stA smA rd wr mk Payload DC0)

noncomputable def bodyU : Code := Try.f12.body.getD .skip
noncomputable def opsU : Array Oper := opsOf (cL (cL (cR (cR (cR bodyU)))))

theorem go_step {md : Region.Mode} {ops : Array Oper} {fuel t : Nat} {listed : Array Bool} {acc rs : List Nat} (h : Region.ready md ops listed = rs) :
    Region.linearise.go md ops (fuel + 1) t listed acc = match rs[t % rs.length]? with
      | some i => Region.linearise.go md ops fuel (t / rs.length) (listed.setIfInBounds i true) (i :: acc)
      | none => acc.reverse := by
  subst h
  rfl
theorem go_one {md : Region.Mode} {ops : Array Oper} {fuel t i : Nat} {listed : Array Bool} {acc : List Nat} (h : Region.ready md ops listed = [i]) :
    ∃ t', Region.linearise.go md ops (fuel + 1) t listed acc = Region.linearise.go md ops fuel t' (listed.setIfInBounds i true) (i :: acc) := by
  refine ⟨t / 1, ?_⟩
  rw [go_step h]
  simp [Nat.mod_one]
theorem go_two {md : Region.Mode} {ops : Array Oper} {fuel t i j : Nat} {listed : Array Bool} {acc : List Nat} (h : Region.ready md ops listed = [i, j]) :
    ∃ t', Region.linearise.go md ops (fuel + 1) t listed acc = Region.linearise.go md ops fuel t' (listed.setIfInBounds i true) (i :: acc) ∨
      Region.linearise.go md ops (fuel + 1) t listed acc = Region.linearise.go md ops fuel t' (listed.setIfInBounds j true) (j :: acc) := by
  refine ⟨t / 2, ?_⟩
  rw [go_step h]
  have : t % 2 = 0 ∨ t % 2 = 1 := by omega
  rcases this with e | e
  · left; simp [e]
  · right; simp [e]
theorem sched4 (t : Nat) : Region.schedule true opsU t = [0, 1, 2, 3] ∨ Region.schedule true opsU t = [1, 0, 2, 3] ∨ Region.schedule true opsU t = [1, 2, 0, 3] := by
  have hs : opsU.size = 4 := by kernel_rfl
  have z : ∀ t l acc, Region.linearise.go .any opsU 0 t l acc = acc.reverse := fun _ _ _ => rfl
  simp only [Region.schedule, Bool.true_or, if_true, Region.linearise, hs]
  obtain ⟨t1, h | h⟩ := go_two (md := .any) (ops := opsU) (fuel := 3) (t := t) (listed := Array.replicate 4 false) (acc := []) (i := 0) (j := 1) (by kernel_rfl)
  · left
    rw [h]
    obtain ⟨t2, h⟩ := go_one (md := .any) (ops := opsU) (fuel := 2) (t := t1) (listed := (Array.replicate 4 false).setIfInBounds 0 true) (acc := [0]) (i := 1) (by kernel_rfl)
    rw [h]
    obtain ⟨t3, h⟩ := go_one (md := .any) (ops := opsU) (fuel := 1) (t := t2) (listed := ((Array.replicate 4 false).setIfInBounds 0 true).setIfInBounds 1 true) (acc := [1, 0]) (i := 2) (by kernel_rfl)
    rw [h]
    obtain ⟨t4, h⟩ := go_one (md := .any) (ops := opsU) (fuel := 0) (t := t3) (listed := (((Array.replicate 4 false).setIfInBounds 0 true).setIfInBounds 1 true).setIfInBounds 2 true) (acc := [2, 1, 0]) (i := 3) (by kernel_rfl)
    rw [h, z]
    rfl
  · right
    rw [h]
    obtain ⟨t2, h | h⟩ := go_two (md := .any) (ops := opsU) (fuel := 2) (t := t1) (listed := (Array.replicate 4 false).setIfInBounds 1 true) (acc := [1]) (i := 0) (j := 2) (by kernel_rfl)
    · left
      rw [h]
      obtain ⟨t3, h⟩ := go_one (md := .any) (ops := opsU) (fuel := 1) (t := t2) (listed := ((Array.replicate 4 false).setIfInBounds 1 true).setIfInBounds 0 true) (acc := [0, 1]) (i := 2) (by kernel_rfl)
      rw [h]
      obtain ⟨t4, h⟩ := go_one (md := .any) (ops := opsU) (fuel := 0) (t := t3) (listed := (((Array.replicate 4 false).setIfInBounds 1 true).setIfInBounds 0 true).setIfInBounds 2 true) (acc := [2, 0, 1]) (i := 3) (by kernel_rfl)
      rw [h, z]
      rfl
    · right
      rw [h]
      obtain ⟨t3, h⟩ := go_one (md := .any) (ops := opsU) (fuel := 1) (t := t2) (listed := ((Array.replicate 4 false).setIfInBounds 1 true).setIfInBounds 2 true) (acc := [2, 1]) (i := 0) (by kernel_rfl)
      rw [h]
      obtain ⟨t4, h⟩ := go_one (md := .any) (ops := opsU) (fuel := 0) (t := t3) (listed := (((Array.replicate 4 false).setIfInBounds 1 true).setIfInBounds 2 true).setIfInBounds 0 true) (acc := [0, 2, 1]) (i := 3) (by kernel_rfl)
      rw [h, z]
      rfl
end Go.Proofs.Ytfgipjgjehjijaa
