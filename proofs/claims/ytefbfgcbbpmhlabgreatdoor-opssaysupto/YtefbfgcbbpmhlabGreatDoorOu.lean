/-
  The row's closed facts, each by itself.
-/
import Derived.Test.YtefbfgcbbpmhlabGreatDoorOc
namespace Go.Proofs.YtefbfgcbbpmhlabGreatDoor.OpsSays
open Go.ChangeShapes Go.WideShapes Go.ChangeAt Go.RowKit
set_option maxRecDepth 100000

set_option maxHeartbeats 40000000 in
theorem closed : joinedFacts Tryz.pinned.checked.prog 8 Tryz.f8 (Rows.OpenSpec.upto Rows.opsSaysSpec).bare Rows.opsSaysUptoRow = true := by
  unfold joinedFacts
  repeat' (with_reducible refine Bool.and_eq_true_iff.2 ⟨?_, ?_⟩)
  all_goals (as_aux_lemma => kernel_rfl)
end Go.Proofs.YtefbfgcbbpmhlabGreatDoor.OpsSays
