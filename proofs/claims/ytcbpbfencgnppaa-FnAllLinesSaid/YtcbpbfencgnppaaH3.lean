/- Contracts of the helpers of the exact laws on lists of numbers: compared, written, read again. -/
import Derived.Test.YtcbpbfencgnppaaC1
import Derived.Test.YtcbpbfencgnppaaMathS
import Derived.LoopTactic
namespace Go.Proofs.Ytcbpbfencgnppaa
open Go.RowKit
end Go.Proofs.Ytcbpbfencgnppaa
