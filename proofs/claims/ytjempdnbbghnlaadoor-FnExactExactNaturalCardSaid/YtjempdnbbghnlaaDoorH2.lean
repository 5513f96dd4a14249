/- Contracts of the helpers of the exact laws that write into a list of classes and read it again. -/
import Derived.Test.YtjempdnbbghnlaaDoorH1
namespace Go.Proofs.YtjempdnbbghnlaaDoor
open Go.RowKit
end Go.Proofs.YtjempdnbbghnlaaDoor
