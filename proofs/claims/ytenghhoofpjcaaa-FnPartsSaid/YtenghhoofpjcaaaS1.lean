/- Contracts of SystemIn and SystemPeriod, in the program and in the model. -/
import Derived.Test.YtenghhoofpjcaaaC1
import Derived.Test.YtenghhoofpjcaaaR2
import Derived.Test.YtenghhoofpjcaaaMathP
import Derived.LoopTactic
namespace Go.Proofs.Ytenghhoofpjcaaa
open Go.RowKit
theorem sys_some {zs : List Cl} (hl : 1 ≤ zs.length ∧ zs.length ≤ 8) (h : ∃ q, perO 1 zs = some q) : sysB zs = true := by obtain ⟨q, h⟩ := h; exact sysB_t hl h
end Go.Proofs.Ytenghhoofpjcaaa
