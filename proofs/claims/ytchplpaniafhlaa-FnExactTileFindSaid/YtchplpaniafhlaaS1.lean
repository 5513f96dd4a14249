/- Contracts of SystemIn and SystemPeriod, in the program and in the model. -/
import Derived.Test.YtchplpaniafhlaaC1
import Derived.Test.YtchplpaniafhlaaR2
import Derived.Test.YtchplpaniafhlaaMathP
import Derived.LoopTactic
namespace Go.Proofs.Ytchplpaniafhlaa
open Go.RowKit
theorem sys_some {zs : List Cl} (hl : 1 ≤ zs.length ∧ zs.length ≤ 8) (h : ∃ q, perO 1 zs = some q) : sysB zs = true := by obtain ⟨q, h⟩ := h; exact sysB_t hl h
end Go.Proofs.Ytchplpaniafhlaa
