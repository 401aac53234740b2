import Derived.Test.YtobpidmlgldnmaaGreatDoorRows
import Derived.Test.YtobpidmlgldnmaaGreatDoorTie
import Derived.Test.YtobpidmlgldnmaaGreatDoorCards
import Derived.Test.YtobpidmlgldnmaaGreatDoorFa
import Derived.WalkKit
import Derived.ProofKit
import Derived.OpenShut
import Derived.Deep.DeepHandedRow
import Derived.Lib.LaidTab
import Derived.RowKit
import Derived.IntWalk
import Derived.WalkSpells
import Derived.WalkLawsBesides
import Derived.Handy
import Derived.Test.YtobpidmlgldnmaaGreatDoorPt
import Derived.Deep.QuietTactic
import Derived.BigQuiet
import Derived.BigRegion
import Derived.Lib.ItoaMem
import Derived.Lib.Bytealg
import Derived.Lib.ItoaLen
import Derived.Test.YtobpidmlgldnmaaGreatDoorShelf
import Derived.Test.YtobpidmlgldnmaaGreatDoorFe
import Derived.Lib.IndexMore
import Derived.PlainAid
import Derived.Test.YtobpidmlgldnmaaGreatDoorFh
import Derived.Lib.SmallJoins
import Derived.Test.YtobpidmlgldnmaaGreatDoorKb
import Derived.Shelf.Vars
import Derived.Stop.LaidErr
import Derived.Laws.Rows
import Derived.Laws.Tables
import Derived.Test.YtobpidmlgldnmaaGreatDoorRa
import Derived.Test.YtobpidmlgldnmaaGreatDoorYa
import Derived.Deep.CutRange
import Derived.Deep.RegionWith
import Derived.Test.YtobpidmlgldnmaaGreatDoorAq
import Derived.Lib.OthersKept
import Derived.Lib.AppendStr
import Derived.Maps.AppendAt
import Derived.RegionTactic
import Derived.Laws.OwnMore
import Derived.OneCell
import Derived.Test.YtobpidmlgldnmaaGreatDoorJrx
import Derived.Test.YtobpidmlgldnmaaGreatDoorVh
import Derived.Deep.Slices
import Derived.Deep.CutBlock
import Derived.Test.YtobpidmlgldnmaaGreatDoorYd
import Derived.Deep.RegionLaw
import Derived.Deep.DrawnRows
import Derived.Test.YtobpidmlgldnmaaGreatDoorYg
import Derived.Test.YtobpidmlgldnmaaGreatDoorYj
import Derived.Test.YtobpidmlgldnmaaGreatDoorVe
import Derived.Lib.AtoiAllCases
import Derived.Lib.ItoaNum
import Derived.Lib.AtoiErrMem
import Derived.Test.YtobpidmlgldnmaaGreatDoorVy
import Derived.Deep.RegionHeld3
import Derived.Laws.EntriesVeiled
import Derived.Test.YtobpidmlgldnmaaGreatDoorVc3
import Derived.Deep.AppendLies
import Derived.Deep.LoopGhost
import Derived.WalkSmall
import Derived.Test.YtobpidmlgldnmaaGreatDoorVd3
import Derived.Test.YtobpidmlgldnmaaGreatDoorYm
import Derived.Test.YtobpidmlgldnmaaGreatDoorYp
import Derived.Test.YtobpidmlgldnmaaGreatDoorVe1
import Derived.Shelf.Spec.SlicesInsert
import Derived.Shelf.Spec.SlicesInsertGrow
import Derived.Test.YtobpidmlgldnmaaGreatDoorYt
import Derived.Test.YtobpidmlgldnmaaGreatDoorYua
import Derived.Test.YtobpidmlgldnmaaGreatDoorYx
import Derived.Test.YtobpidmlgldnmaaGreatDoorVj
import Derived.Test.YtobpidmlgldnmaaGreatDoorYy
import Derived.Test.YtobpidmlgldnmaaGreatDoorCb

/-
  The row's closed facts, each by itself.
-/
namespace Go.Proofs.YtobpidmlgldnmaaGreatDoor.TopShift
open Go.ChangeShapes Go.WideShapes Go.ChangeAt Go.RowKit
set_option maxRecDepth 100000

set_option maxHeartbeats 40000000 in
theorem closed : joinedFacts Tryz.pinned.checked.prog 3 Tryz.f3 (Rows.OpenSpec.upto Rows.topShiftSpec).bare Rows.topShiftUptoRow = true := by
  unfold joinedFacts
  repeat' (with_reducible refine Bool.and_eq_true_iff.2 ⟨?_, ?_⟩)
  all_goals (as_aux_lemma => kernel_rfl)
end Go.Proofs.YtobpidmlgldnmaaGreatDoor.TopShift
