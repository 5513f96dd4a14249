/- The model's SystemSame. -/
import Derived.Test.YtcokcnpnemhdfaaGreatDoorS16
namespace Go.Proofs.YtcokcnpnemhdfaaGreatDoor
open Go.RowKit
end Go.Proofs.YtcokcnpnemhdfaaGreatDoor
