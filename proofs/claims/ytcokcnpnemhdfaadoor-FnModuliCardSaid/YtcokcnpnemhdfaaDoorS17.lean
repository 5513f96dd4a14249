/- The model's SystemSame. -/
import Derived.Test.YtcokcnpnemhdfaaDoorS16
namespace Go.Proofs.YtcokcnpnemhdfaaDoor
open Go.RowKit
end Go.Proofs.YtcokcnpnemhdfaaDoor
