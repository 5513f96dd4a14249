/- A system in order is the same system. -/
import Derived.Test.YthhpdmkebnbbbaaGreatDoorS43
import Derived.Test.YthhpdmkebnbbbaaGreatDoorMathG
import Derived.Test.YthhpdmkebnbbbaaGreatDoorMathH
namespace Go.Proofs.YthhpdmkebnbbbaaGreatDoor
open Go.RowKit
theorem srt_sam {zs : List Cl} (hs : sysB zs = true) : sysB (srtL zs) = true ∧ samB zs (srtL zs) = true ∧ srtR (srtL zs) = srtL zs := by
  obtain ⟨l1, l2, _⟩ := sysB_facts hs
  have hD := Div.sys hs
  have hP := srtL_perm zs
  have hD2 : Div (perI zs) (srtL zs) := ⟨hD.1, hD.2.1, fun c hc => hD.2.2 c (hP.subset hc)⟩
  have hs2 := div_sys hD2 (by rw [srtL_length]; exact ⟨l1, l2⟩)
  refine ⟨hs2, sam_of hs hs2 hD2.per.1 (fun x => covB_perm hP x), ?_⟩
  rw [srtR_t hs2]
  exact (srtL_of (List.Perm.refl _) (srtL_asc zs)).symm
end Go.Proofs.YthhpdmkebnbbbaaGreatDoor
