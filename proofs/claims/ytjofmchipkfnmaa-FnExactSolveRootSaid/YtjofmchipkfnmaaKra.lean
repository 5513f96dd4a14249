/- Small facts for walks beside others (own text). -/
import Derived.Test.YtjofmchipkfnmaaKq
import Derived.Conc.CrowdMono
namespace Go.Proofs.Ytjofmchipkfnmaa
open Go Go.Conc Go.ConcN Go.RowKit Go.Conc.Lib Go.ConcR.Gen Go.ConcN.Gen
open Go.ConcR (KK wgBlock WgAt stA smA rd wr mk Payload DC0)

theorem Fa.since {N : Nat} {W w w₁ : World} {sz : Nat} {L : List (Nat × Obj)} (h : Fa N W sz L w) (r : Since AtRel w w₁) : Fa N W sz L w₁ := r.elim (fun e => e ▸ h) h.atRel
section
variable {Sh : Loc → Prop} {B : Nat}
theorem terms_b : Terms AtRel (DE (EvL Sh B)) := ⟨fun _ _ _ ⟨d, h⟩ ⟨e, k⟩ => by subst h; exact ⟨e, k⟩, fun w e he => by simp at he⟩
end
end Go.Proofs.Ytjofmchipkfnmaa
