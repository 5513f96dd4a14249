/- What the promise laws of the systems draw: a list, and no reader stays. -/
import Derived.Test.YtgokhchkpjnnlaaD8
namespace Go.Proofs.Ytgokhchkpjnnlaa
open Go.RowKit
def DrawnS (w : World) (e : Ending) (w' : World) : Prop := ∃ v zs, e = .returned v ∧ OwnC w' w.heap.size 34 v zs ∧ zs.length ≤ 9 ∧ Below w.heap.size w w'
theorem c_l91Some (s : Option Addr) (len cap : Nat) (w : World) (h : Code0 w s len cap) : Calls Try.prog 47 #[.slice s len cap] w (DrawnS w) := by
  go_enter Try.func47, Try.ntmps47
  go_wp2_with fail
  refine (c_l6Open s len cap _ h).mono ?_
  rintro e w2 ⟨B, s', len', hB, rfl, hR2, hb2⟩
  go_wp2_with fail
  refine (c_l91System hR2 (by omega)).mono ?_
  rintro e w3 ⟨v, zs, p', rfl, hO3, hl3, hR3, hp3, hQ3⟩
  have hb3 := hb2.trans (oth_below hQ3 hR2)
  have hO := hO3.low hb2.size
  clear hO3
  go_wp2_with fail
  go_ret
  exact ⟨_, zs, rfl, hO, hl3, hb3⟩
theorem c_DrawSystemIn (s : Option Addr) (len cap : Nat) (w : World) (h : Code0 w s len cap) : Calls Try.prog 13 #[.slice s len cap] w (DrawnS w) := by
  go_enter Try.func13, Try.ntmps13
  go_wp2_with fail
  refine (c_l91Some s len cap _ h).mono ?_
  rintro e w2 ⟨v, zs, rfl, hO, hl, hb⟩
  go_wp2_with fail
  go_ret
  exact ⟨_, zs, rfl, hO, hl, hb⟩
theorem c_DrawSystemPeriod (s : Option Addr) (len cap : Nat) (w : World) (h : Code0 w s len cap) : Calls Try.prog 17 #[.slice s len cap] w (DrawnS w) := by
  go_enter Try.func17, Try.ntmps17
  go_wp2_with fail
  refine (c_l91Some s len cap _ h).mono ?_
  rintro e w2 ⟨v, zs, rfl, hO, hl, hb⟩
  go_wp2_with fail
  go_ret
  exact ⟨_, zs, rfl, hO, hl, hb⟩
theorem c_DrawSystemTimes (s : Option Addr) (len cap : Nat) (w : World) (h : Code0 w s len cap) : Calls Try.prog 21 #[.slice s len cap] w (DrawnS w) := by
  go_enter Try.func21, Try.ntmps21
  go_wp2_with fail
  refine (c_l91Some s len cap _ h).mono ?_
  rintro e w2 ⟨v, zs, rfl, hO, hl, hb⟩
  go_wp2_with fail
  go_ret
  exact ⟨_, zs, rfl, hO, hl, hb⟩
theorem c_DrawSystemHoles (s : Option Addr) (len cap : Nat) (w : World) (h : Code0 w s len cap) : Calls Try.prog 27 #[.slice s len cap] w (DrawnS w) := by
  go_enter Try.func27, Try.ntmps27
  go_wp2_with fail
  refine (c_l91Some s len cap _ h).mono ?_
  rintro e w2 ⟨v, zs, rfl, hO, hl, hb⟩
  go_wp2_with fail
  go_ret
  exact ⟨_, zs, rfl, hO, hl, hb⟩
theorem c_DrawSystemAll (s : Option Addr) (len cap : Nat) (w : World) (h : Code0 w s len cap) : Calls Try.prog 31 #[.slice s len cap] w (DrawnS w) := by
  go_enter Try.func31, Try.ntmps31
  go_wp2_with fail
  refine (c_l91Some s len cap _ h).mono ?_
  rintro e w2 ⟨v, zs, rfl, hO, hl, hb⟩
  go_wp2_with fail
  go_ret
  exact ⟨_, zs, rfl, hO, hl, hb⟩
theorem c_DrawSystemApart (s : Option Addr) (len cap : Nat) (w : World) (h : Code0 w s len cap) : Calls Try.prog 34 #[.slice s len cap] w (DrawnS w) := by
  go_enter Try.func34, Try.ntmps34
  go_wp2_with fail
  refine (c_l91Some s len cap _ h).mono ?_
  rintro e w2 ⟨v, zs, rfl, hO, hl, hb⟩
  go_wp2_with fail
  go_ret
  exact ⟨_, zs, rfl, hO, hl, hb⟩
theorem c_DrawSystemExact (s : Option Addr) (len cap : Nat) (w : World) (h : Code0 w s len cap) : Calls Try.prog 37 #[.slice s len cap] w (DrawnS w) := by
  go_enter Try.func37, Try.ntmps37
  go_wp2_with fail
  refine (c_l91Some s len cap _ h).mono ?_
  rintro e w2 ⟨v, zs, rfl, hO, hl, hb⟩
  go_wp2_with fail
  go_ret
  exact ⟨_, zs, rfl, hO, hl, hb⟩
theorem c_DrawSystemShare (s : Option Addr) (len cap : Nat) (w : World) (h : Code0 w s len cap) : Calls Try.prog 40 #[.slice s len cap] w (DrawnS w) := by
  go_enter Try.func40, Try.ntmps40
  go_wp2_with fail
  refine (c_l91Some s len cap _ h).mono ?_
  rintro e w2 ⟨v, zs, rfl, hO, hl, hb⟩
  go_wp2_with fail
  go_ret
  exact ⟨_, zs, rfl, hO, hl, hb⟩
end Go.Proofs.Ytgokhchkpjnnlaa
