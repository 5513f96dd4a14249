/- Contracts of ClassScaled, ClassFirst and ClassCount, in the program and in their models. -/
import Derived.Test.YtjckgmfegcjkkaaC3
namespace Go.Proofs.Ytjckgmfegcjkkaa
open Go.RowKit
/-! ClassScaled -/
/-! ClassFirst -/
/-! ClassCount -/
theorem cnt_cases (r m a b : Int) : inB r m = false ∨ (inB r m = true ∧ numB a = false) ∨ (inB r m = true ∧ numB a = true ∧ numB b = false) ∨ (inB r m = true ∧ numB a = true ∧ numB b = true) := by
  cases inB r m <;> cases numB a <;> cases numB b <;> simp
end Go.Proofs.Ytjckgmfegcjkkaa
