/- The walk of the law FnExactExactLeast. -/
import Derived.Test.YtdojgdcbbnekdaaS40
namespace Go.Proofs.Ytdojgdcbbnekdaa
open Go.RowKit
set_option maxHeartbeats 1000000 in
theorem w_FnExactExactLeast (x : Int) (w : World) : Calls Try.prog 3 #[.int .i64 x] w fun e w' => e = .returned (.bool true) ∧ Below w.heap.size w w' := by
  have hcs := c_specExactLeast x w
  have hci := fun w1 => c_implExactLeast x w1
  generalize leaI x = L at *
  generalize modB x = B at *
  have hLL : (L != L) = false := by simp
  have hBB : (B != B) = false := by simp
  go_enter Try.func3, Try.ntmps3
  go_wp2_with fail
  refine hcs.mono ?_
  rintro e w1 ⟨rfl, hb1⟩
  go_wp2_with fail
  refine (hci _).mono ?_
  rintro e w2 ⟨rfl, hb2⟩
  go_wp2_with fail
  go_ret
  exact ⟨rfl, bt2 hb1 hb2⟩
end Go.Proofs.Ytdojgdcbbnekdaa
