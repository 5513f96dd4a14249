/- Contracts of ClassMeet, in the program and in the model, at every two classes. -/
import Derived.Test.YtgdpebnnmklbjaaR2
import Derived.Test.YtgdpebnnmklbjaaM1
namespace Go.Proofs.Ytgdpebnnmklbjaa
open Go.RowKit
end Go.Proofs.Ytgdpebnnmklbjaa
