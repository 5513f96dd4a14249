/- Contracts of SystemIn and SystemPeriod, in the program and in the model. -/
import Derived.Test.YtcfkppfnkecnjaaC1
import Derived.Test.YtcfkppfnkecnjaaR2
import Derived.Test.YtcfkppfnkecnjaaMathP
import Derived.LoopTactic
namespace Go.Proofs.Ytcfkppfnkecnjaa
open Go.RowKit
theorem sys_some {zs : List Cl} (hl : 1 ≤ zs.length ∧ zs.length ≤ 8) (h : ∃ q, perO 1 zs = some q) : sysB zs = true := by obtain ⟨q, h⟩ := h; exact sysB_t hl h
end Go.Proofs.Ytcfkppfnkecnjaa
