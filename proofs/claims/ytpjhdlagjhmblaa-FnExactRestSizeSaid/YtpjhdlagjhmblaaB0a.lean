/- What the walks of chapter 5's exact laws need besides. -/
import Derived.Test.YtpjhdlagjhmblaaB0
namespace Go.Proofs.Ytpjhdlagjhmblaa
open Go.RowKit
theorem apartJ {w : World} {base B n m c d x : Nat} {s t : Option Addr} {e : TypeId} {zs : List Int} (h : s = none ∨ ∃ g, s = some ⟨g, 0, none⟩ ∧ base ≤ g ∧ g < B) (hO : OwnI w x e (.slice t m d) zs) (hB : B ≤ x) : (Value.slice t m d).ownBlock = none ∨ (Value.slice t m d).ownBlock ≠ (Value.slice s n c).ownBlock := by
  rcases apart24I (n := n) (c := c) h hO hB with h1 | h1
  · rcases hO.cases with ⟨hv, _⟩ | ⟨g, cap, hv, hg⟩
    · left; rw [hv]; rfl
    · right; rw [h1, hv]; simp [Value.ownBlock]
  · exact .inr (Ne.symm h1)
theorem four_le (f : Nat → Int) (n : Nat) : (four f n).length ≤ 4 := by unfold four; rw [List.length_take]; simp; omega
end Go.Proofs.Ytpjhdlagjhmblaa
