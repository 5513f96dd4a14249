/- The walk of the promise law FnFind. -/
import Derived.Test.YtiplnfggiffngaaW105
import Derived.Test.YtiplnfggiffngaaToc
namespace Go.Proofs.Ytiplnfggiffngaa
open Go.RowKit
theorem w_FnFind (s : Option Addr) (len cap : Nat) (w : World) (h : Code0 w s len cap) : Calls Try.prog 3 #[.slice s len cap] w fun e w' => e = .returned (.bool true) ∧ Below w.heap.size w w' := v_FnFind c_implTileFind c_implTileCount s len cap w h
end Go.Proofs.Ytiplnfggiffngaa
