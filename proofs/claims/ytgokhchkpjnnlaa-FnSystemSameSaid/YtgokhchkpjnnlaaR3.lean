/- Contracts of ClassMeet, in the program and in the model, at every two classes. -/
import Derived.Test.YtgokhchkpjnnlaaR2
import Derived.Test.YtgokhchkpjnnlaaM1
namespace Go.Proofs.Ytgokhchkpjnnlaa
open Go.RowKit
end Go.Proofs.Ytgokhchkpjnnlaa
