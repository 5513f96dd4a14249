/- The model's ClassMeet at every two classes. -/
import Derived.Test.YtgdpebnnmklbjaaE2
import Derived.Test.YtgdpebnnmklbjaaC2
namespace Go.Proofs.Ytgdpebnnmklbjaa
open Go.RowKit
def mtB (r m s n : Int) : Bool := inB r m && inB s n && metB m s n r
theorem mtB_0 {r m s n : Int} (h : inB r m = false) : mtB r m s n = false := by simp [mtB, h]
theorem mtB_1 {r m s n : Int} (h : inB s n = false) : mtB r m s n = false := by simp [mtB, h]
theorem mtB_2 {r m s n : Int} (h : inB r m = true) (k : inB s n = true) : mtB r m s n = metB m s n r := by simp [mtB, h, k]
end Go.Proofs.Ytgdpebnnmklbjaa
