/- What the promise laws of the systems draw: a list, and no reader stays. -/
import Derived.Test.YtfagjhccdbielaaD8
namespace Go.Proofs.Ytfagjhccdbielaa
open Go.RowKit
def DrawnS (w : World) (e : Ending) (w' : World) : Prop := ∃ v zs, e = .returned v ∧ OwnC w' w.heap.size 43 v zs ∧ zs.length ≤ 9 ∧ Below w.heap.size w w'
theorem c_l91Some (s : Option Addr) (len cap : Nat) (w : World) (h : Code0 w s len cap) : Calls Try.prog 41 #[.slice s len cap] w (DrawnS w) := by
  go_enter Try.func41, Try.ntmps41
  go_wp2_with fail
  refine (c_l6Open s len cap _ h).mono ?_
  rintro e w2 ⟨B, s', len', hB, rfl, hR2, hb2⟩
  go_wp2_with fail
  refine (c_l91System hR2 (by omega)).mono ?_
  rintro e w3 ⟨v, zs, p', rfl, hO3, hl3, hR3, hp3, hQ3⟩
  have hb3 := hb2.trans (oth_below hQ3 hR2)
  have hO := hO3.low hb2.size
  clear hO3
  go_wp2_with fail
  go_ret
  exact ⟨_, zs, rfl, hO, hl3, hb3⟩
theorem c_DrawSystemHoles (s : Option Addr) (len cap : Nat) (w : World) (h : Code0 w s len cap) : Calls Try.prog 15 #[.slice s len cap] w (DrawnS w) := by
  go_enter Try.func15, Try.ntmps15
  go_wp2_with fail
  refine (c_l91Some s len cap _ h).mono ?_
  rintro e w2 ⟨v, zs, rfl, hO, hl, hb⟩
  go_wp2_with fail
  go_ret
  exact ⟨_, zs, rfl, hO, hl, hb⟩
theorem c_DrawHoleFirst (s : Option Addr) (len cap : Nat) (w : World) (h : Code0 w s len cap) : Calls Try.prog 11 #[.slice s len cap] w (DrawnS w) := by
  go_enter Try.func11, Try.ntmps11
  go_wp2_with fail
  refine (c_l91Some s len cap _ h).mono ?_
  rintro e w2 ⟨v, zs, rfl, hO, hl, hb⟩
  go_wp2_with fail
  go_ret
  exact ⟨_, zs, rfl, hO, hl, hb⟩
theorem c_DrawHoleRun (s : Option Addr) (len cap : Nat) (w : World) (h : Code0 w s len cap) : Calls Try.prog 18 #[.slice s len cap] w (DrawnS w) := by
  go_enter Try.func18, Try.ntmps18
  go_wp2_with fail
  refine (c_l91Some s len cap _ h).mono ?_
  rintro e w2 ⟨v, zs, rfl, hO, hl, hb⟩
  go_wp2_with fail
  go_ret
  exact ⟨_, zs, rfl, hO, hl, hb⟩
theorem c_DrawHoleSpare (s : Option Addr) (len cap : Nat) (w : World) (h : Code0 w s len cap) : Calls Try.prog 22 #[.slice s len cap] w (DrawnS w) := by
  go_enter Try.func22, Try.ntmps22
  go_wp2_with fail
  refine (c_l91Some s len cap _ h).mono ?_
  rintro e w2 ⟨v, zs, rfl, hO, hl, hb⟩
  go_wp2_with fail
  go_ret
  exact ⟨_, zs, rfl, hO, hl, hb⟩
theorem c_DrawHoleLeast (s : Option Addr) (len cap : Nat) (w : World) (h : Code0 w s len cap) : Calls Try.prog 26 #[.slice s len cap] w (DrawnS w) := by
  go_enter Try.func26, Try.ntmps26
  go_wp2_with fail
  refine (c_l91Some s len cap _ h).mono ?_
  rintro e w2 ⟨v, zs, rfl, hO, hl, hb⟩
  go_wp2_with fail
  go_ret
  exact ⟨_, zs, rfl, hO, hl, hb⟩
theorem c_DrawHoleFill (s : Option Addr) (len cap : Nat) (w : World) (h : Code0 w s len cap) : Calls Try.prog 30 #[.slice s len cap] w (DrawnS w) := by
  go_enter Try.func30, Try.ntmps30
  go_wp2_with fail
  refine (c_l91Some s len cap _ h).mono ?_
  rintro e w2 ⟨v, zs, rfl, hO, hl, hb⟩
  go_wp2_with fail
  go_ret
  exact ⟨_, zs, rfl, hO, hl, hb⟩
theorem c_DrawHoleWorst (s : Option Addr) (len cap : Nat) (w : World) (h : Code0 w s len cap) : Calls Try.prog 33 #[.slice s len cap] w (DrawnS w) := by
  go_enter Try.func33, Try.ntmps33
  go_wp2_with fail
  refine (c_l91Some s len cap _ h).mono ?_
  rintro e w2 ⟨v, zs, rfl, hO, hl, hb⟩
  go_wp2_with fail
  go_ret
  exact ⟨_, zs, rfl, hO, hl, hb⟩
end Go.Proofs.Ytfagjhccdbielaa
