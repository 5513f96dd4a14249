/- The walk of the promise law FnTileScaled. -/
import Derived.Test.YtiplnfggiffngaaW107
import Derived.Test.YtiplnfggiffngaaToc
namespace Go.Proofs.Ytiplnfggiffngaa
open Go.RowKit
theorem w_FnTileScaled (s : Option Addr) (len cap : Nat) (w : World) (h : Code0 w s len cap) : Calls Try.prog 5 #[.slice s len cap] w fun e w' => e = .returned (.bool true) ∧ Below w.heap.size w w' := v_FnTileScaled c_implTileFind s len cap w h
end Go.Proofs.Ytiplnfggiffngaa
