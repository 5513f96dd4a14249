/- The model's SystemSame. -/
import Derived.Test.YtndcbbnocaehaaaGreatDoorS16
namespace Go.Proofs.YtndcbbnocaehaaaGreatDoor
open Go.RowKit
end Go.Proofs.YtndcbbnocaehaaaGreatDoor
