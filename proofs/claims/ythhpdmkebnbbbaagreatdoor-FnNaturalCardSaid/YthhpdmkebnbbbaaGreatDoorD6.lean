/- Contract of what the law on parts draws; two lists of classes compared. -/
import Derived.Test.YthhpdmkebnbbbaaGreatDoorMg1
import Derived.Test.YthhpdmkebnbbbaaGreatDoorMathS
import Derived.LoopTactic
namespace Go.Proofs.YthhpdmkebnbbbaaGreatDoor
open Go.RowKit
end Go.Proofs.YthhpdmkebnbbbaaGreatDoor
