/- The row's closed facts, joined. -/
import Derived.Test.YtonecelkkeakiaaGreatDoorMz0
import Derived.JoinedOf
namespace Go.Proofs.YtonecelkkeakiaaGreatDoor
open Go
set_option maxHeartbeats 4000000
theorem factsS : joinedFacts Tryz.prog 6 Tryz.f6 Rows.fnExecuteShareSpec Rows.fnExecuteShareRow = true := by
  unfold joinedFacts
  simp only [Bool.and_eq_true]
  refine ⟨⟨⟨⟨⟨⟨⟨⟨⟨⟨⟨⟨⟨⟨⟨⟨⟨⟨⟨⟨⟨⟨⟨⟨⟨⟨⟨⟨⟨⟨⟨?_, f_laid⟩, f_maps⟩, ?_⟩, ?_⟩, ?_⟩, ?_⟩, ?_⟩, ?_⟩, g_inPlace⟩, g_unf⟩, g_rec⟩, g_named⟩, ?_⟩, ?_⟩, ?_⟩, ?_⟩, ?_⟩, ?_⟩, ?_⟩, ?_⟩, ?_⟩, g_keys⟩, ?_⟩, f_heard⟩, ?_⟩, ?_⟩, ?_⟩, ?_⟩, ?_⟩, ?_⟩, ?_⟩
  all_goals (as_aux_lemma => kernel_rfl)
end Go.Proofs.YtonecelkkeakiaaGreatDoor
