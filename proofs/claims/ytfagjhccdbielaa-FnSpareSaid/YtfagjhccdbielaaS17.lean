/- The model's SystemSame. -/
import Derived.Test.YtfagjhccdbielaaS16
namespace Go.Proofs.Ytfagjhccdbielaa
open Go.RowKit
theorem cells2_oc (zs : List Cl) : ∀ u ∈ cells2 zs, u.oneCell' = true := by
  induction zs with
  | nil => intro u hu; simp [cells2] at hu
  | cons c t ih =>
    intro u hu
    simp only [cells2, List.mem_cons] at hu
    rcases hu with rfl | rfl | hu
    · rfl
    · rfl
    · exact ih u hu
theorem cls_at {w : World} {b off n : Nat} {zs : List Cl} (h : Cls w (some ⟨b, off, none⟩) n zs) (h0 : 0 < n) : ∀ (j : Nat) (u : Value), (cells2 zs)[j]? = some u → w.cell? ((⟨b, off, none⟩ : Addr).add j) = some u := by
  intro j u hj
  rw [Addr.add_lit]
  rcases h.lies with h1 | ⟨b', off', e, _, hcells⟩
  · omega
  · simp only [Option.some.injEq, Addr.mk.injEq, and_true] at e
    obtain ⟨rfl, rfl⟩ := e
    exact cls_cells h.len hcells j u hj
end Go.Proofs.Ytfagjhccdbielaa
