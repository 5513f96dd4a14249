/- The row's closed facts, joined. -/
import Derived.Test.YtonecelkkeakiaaGreatDoorCua
import Derived.Test.YtonecelkkeakiaaGreatDoorCub
import Derived.Test.YtonecelkkeakiaaGreatDoorCuc
import Derived.Test.YtonecelkkeakiaaGreatDoorCud
import Derived.Test.YtonecelkkeakiaaGreatDoorCue
import Derived.Test.YtonecelkkeakiaaGreatDoorCuf
import Derived.Test.YtonecelkkeakiaaGreatDoorCug
import Derived.Test.YtonecelkkeakiaaGreatDoorCuh
import Derived.JoinedOf
namespace Go.Proofs.YtonecelkkeakiaaGreatDoor
open Go
set_option maxHeartbeats 4000000
theorem facts : joinedFacts Tryz.prog 7 Tryz.f7 Rows.fnExecuteUnitsSpec Rows.fnExecuteUnitsRow = true := by
  unfold joinedFacts
  simp only [Bool.and_eq_true]
  refine ⟨⟨⟨⟨⟨⟨⟨⟨⟨⟨⟨⟨⟨⟨⟨⟨⟨⟨⟨⟨⟨⟨⟨⟨⟨⟨⟨⟨⟨⟨⟨?_, f_laid⟩, f_maps⟩, ?_⟩, ?_⟩, ?_⟩, ?_⟩, ?_⟩, ?_⟩, f_inPlace⟩, f_unf⟩, f_rec⟩, f_named⟩, ?_⟩, ?_⟩, ?_⟩, ?_⟩, ?_⟩, ?_⟩, ?_⟩, ?_⟩, ?_⟩, f_keys⟩, ?_⟩, f_heard⟩, ?_⟩, ?_⟩, ?_⟩, ?_⟩, ?_⟩, ?_⟩, ?_⟩
  all_goals (as_aux_lemma => kernel_rfl)
end Go.Proofs.YtonecelkkeakiaaGreatDoor
