/- Contracts of the helpers of the exact laws on lists of classes: how many there are, the list laid anew, two lists compared. -/
import Derived.Test.YtnbejgbkabaleaaC1
import Derived.Test.YtnbejgbkabaleaaMathS
import Derived.LoopTactic
import Derived.OwnWalk
import Derived.Laws.OwnMore
namespace Go.Proofs.Ytnbejgbkabaleaa
open Go.RowKit
end Go.Proofs.Ytnbejgbkabaleaa
