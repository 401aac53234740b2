/-
  Proved: the law TopSave answers true for all operators and all names and fonts whose bulk is within the second form's bound, and leaves memory as it was.
  Its condition: the listed tables and errors of Go's library start as the program's text lays them (the card ties them).
-/
import Derived.Test.YtobpidmlgldnmaaGreatDoorRows
import Derived.Test.YtobpidmlgldnmaaGreatDoorTie
import Derived.Test.YtobpidmlgldnmaaGreatDoorCards
import Derived.Test.YtobpidmlgldnmaaGreatDoorFa
import Derived.WalkKit
import Derived.ProofKit
import Derived.OpenShut
import Derived.Deep.DeepHandedRow
import Derived.Lib.LaidTab
import Derived.RowKit
import Derived.IntWalk
import Derived.WalkSpells
import Derived.WalkLawsBesides
import Derived.Handy
import Derived.Test.YtobpidmlgldnmaaGreatDoorPt
import Derived.Deep.QuietTactic
import Derived.BigQuiet
import Derived.BigRegion
import Derived.Lib.ItoaMem
import Derived.Lib.Bytealg
import Derived.Lib.ItoaLen
import Derived.Test.YtobpidmlgldnmaaGreatDoorShelf
import Derived.Test.YtobpidmlgldnmaaGreatDoorFe
import Derived.Lib.IndexMore
import Derived.PlainAid
import Derived.Test.YtobpidmlgldnmaaGreatDoorFh
import Derived.Lib.SmallJoins
import Derived.Test.YtobpidmlgldnmaaGreatDoorKb
import Derived.Shelf.Vars
import Derived.Stop.LaidErr
import Derived.Laws.Rows
import Derived.Laws.Tables
import Derived.Test.YtobpidmlgldnmaaGreatDoorRa
import Derived.Test.YtobpidmlgldnmaaGreatDoorYa
import Derived.Deep.CutRange
import Derived.Deep.RegionWith
import Derived.Test.YtobpidmlgldnmaaGreatDoorAq
import Derived.Lib.OthersKept
import Derived.Lib.AppendStr
import Derived.Maps.AppendAt
import Derived.RegionTactic
import Derived.Laws.OwnMore
import Derived.OneCell
import Derived.Test.YtobpidmlgldnmaaGreatDoorJjy
import Derived.Test.YtobpidmlgldnmaaGreatDoorVh
import Derived.Deep.Slices
import Derived.Deep.CutBlock
import Derived.Test.YtobpidmlgldnmaaGreatDoorYd
import Derived.Deep.RegionLaw
import Derived.Deep.DrawnRows
import Derived.Test.YtobpidmlgldnmaaGreatDoorYg
import Derived.Test.YtobpidmlgldnmaaGreatDoorYj
import Derived.Test.YtobpidmlgldnmaaGreatDoorVe
import Derived.Lib.AtoiAllCases
import Derived.Lib.ItoaNum
import Derived.Lib.AtoiErrMem
import Derived.Test.YtobpidmlgldnmaaGreatDoorVy
import Derived.Deep.RegionHeld3
import Derived.Laws.EntriesVeiled
import Derived.Test.YtobpidmlgldnmaaGreatDoorVc3
import Derived.Deep.AppendLies
import Derived.Deep.LoopGhost
import Derived.WalkSmall
import Derived.Test.YtobpidmlgldnmaaGreatDoorVd3
import Derived.Test.YtobpidmlgldnmaaGreatDoorYm
import Derived.Test.YtobpidmlgldnmaaGreatDoorYp
import Derived.Test.YtobpidmlgldnmaaGreatDoorVe1
import Derived.Shelf.Spec.SlicesInsert
import Derived.Shelf.Spec.SlicesInsertGrow
import Derived.Test.YtobpidmlgldnmaaGreatDoorYt
import Derived.Test.YtobpidmlgldnmaaGreatDoorYua
import Derived.Test.YtobpidmlgldnmaaGreatDoorYx
import Derived.Test.YtobpidmlgldnmaaGreatDoorVj
import Derived.Test.YtobpidmlgldnmaaGreatDoorYy
import Derived.Test.YtobpidmlgldnmaaGreatDoorCb
import Derived.Lib.ValidLaws
import Derived.Lib.MapLaws
import Derived.Lib.RuneBytes
import Derived.Test.YtobpidmlgldnmaaGreatDoorCp
import Derived.Lib.LaidU8
import Derived.PinnedBridge
import Derived.Test.YtobpidmlgldnmaaGreatDoorAm
import Derived.Laws.IdiomStrings
import Derived.Lib.FrozenHead
import Derived.Test.YtobpidmlgldnmaaGreatDoorGc
import Derived.Laws.BitsLemmas
import Derived.Maps.OwnSet
import Derived.Maps.OwnOps
import Derived.Carry
import Derived.Test.YtobpidmlgldnmaaGreatDoorCe
import Derived.Test.YtobpidmlgldnmaaGreatDoorGh
import Derived.Lib.SlTrimSet
import Derived.Maps.StringElems
import Derived.WideKeyElems2
import Derived.Laws.IdiomRangeMap
import Derived.Test.YtobpidmlgldnmaaGreatDoorCh
import Derived.Laws.DeepBits32
import Derived.Test.YtobpidmlgldnmaaGreatDoorCk
import Derived.Test.YtobpidmlgldnmaaGreatDoorOc
import Derived.Maps.RangeWalk
import Derived.LoopN
import Derived.Test.YtobpidmlgldnmaaGreatDoorVo
import Derived.Lib.AppendIntMem
import Derived.Test.YtobpidmlgldnmaaGreatDoorOe
import Derived.Test.YtobpidmlgldnmaaGreatDoorOh
import Derived.Test.YtobpidmlgldnmaaGreatDoorGf
import Derived.Test.YtobpidmlgldnmaaGreatDoorMb
import Derived.Deep.AppendSrc
import Derived.Test.YtobpidmlgldnmaaGreatDoorIb
import Derived.Deep.MidRow
import Derived.OwnWalk
import Derived.Test.YtobpidmlgldnmaaGreatDoorIl
import Derived.Test.YtobpidmlgldnmaaGreatDoorIs
import Derived.Test.YtobpidmlgldnmaaGreatDoorIn
import Derived.Test.YtobpidmlgldnmaaGreatDoorIv
import Derived.Test.YtobpidmlgldnmaaGreatDoorIk
import Derived.Test.YtobpidmlgldnmaaGreatDoorIp
import Derived.Test.YtobpidmlgldnmaaGreatDoorIh
import Derived.Test.YtobpidmlgldnmaaGreatDoorJa
import Derived.Test.YtobpidmlgldnmaaGreatDoorJd
import Derived.Lib.Builder
import Derived.Lib.Walk
import Derived.Laws.Externs
import Derived.Lib.UnsafeStr
import Derived.Test.YtobpidmlgldnmaaGreatDoorJf
import Derived.Test.YtobpidmlgldnmaaGreatDoorOyy
namespace Go.Proofs.YtobpidmlgldnmaaGreatDoor.TopSave
open Go.ChangeShapes Go.WideShapes Go.ChangeAt Go.RowKit
set_option maxRecDepth 100000
open Go.WideMaps Go.WideElems
open Go.ChangeMaps (open_string)

theorem contract (H : Type) (enc : TypeId × Value → H) (W : World) (base : Nat) (args : Array Value) (ds gs : List (DataW H)) (before : List MemPlace)
    (hval : ∀ (j : Nat) t v, Tryz.f4.params[j]? = some t → args[j]? = some v → Value.okWide Tryz.prog W .any base t v)
    (hW : DataW.Whole enc Tryz.prog Tryz.f4.params.toList Rows.topSaveSpec.vars false W args.toList ds gs before) (hcond : ∀ k, (Rows.OpenSpec.upto Rows.topSaveSpec).cond = some k → k H (ds ++ gs) = true)
    (hreach : (DataW.weightsEach Tryz.prog (Tryz.f4.params.toList ++ (Rows.OpenSpec.upto Rows.topSaveSpec).bare.plain.varTypes Tryz.prog) (ds ++ gs)).all (· ≤ reachBytes) = true) (m : Int) (hr : GrT m W) :
    Calls Tryz.prog 4 args W fun e W' => ∃ v, e = .returned v ∧ Rows.topSaveSpec.post enc Tryz.prog Tryz.f4 false true false false W args v W' := by
  have hW' := hW
  obtain ⟨p, q, hA, hV, rfl, hfz, hnd⟩ := hW
  rw [Tryz.params4] at hA hval
  obtain ⟨v0, vs0, d0, ds0, p0, q0, hargs, rfl, rfl, h0, r0⟩ := trodAll_cons hA
  obtain ⟨v1, vs1, d1, ds1, p1, q1, rfl, rfl, rfl, h1, r1⟩ := trodAll_cons r0
  obtain ⟨v2, vs2, d2, ds2, p2, q2, rfl, rfl, rfl, h2, r2⟩ := trodAll_cons r1
  obtain ⟨rfl, rfl, rfl⟩ := trodAll_nil r2
  obtain rfl : args = #[v0, v1, v2] := by cases args; simp_all
  obtain ⟨rfl, rfl⟩ := trodVars_none hV
  obtain ⟨dep, L, hL, hbL⟩ := open_ops (hval 0 22 v0 rfl rfl) h0
  obtain ⟨dep2, M, hM, hbM⟩ := open_ops (hval 1 22 v1 rfl rfl) h1
  obtain ⟨N, hN⟩ := open_named (hval 2 23 v2 rfl rfl) h2
  have hk : Rows.uptoBulkAll _ ≤ 1048576 := of_decide_eq_true (hcond _ rfl)
  simp only [List.append_nil, Rows.uptoBulkAll] at hk
  have hB : opsBulk L ≤ 1048576 := by omega
  have hB2 : opsBulk M ≤ 1048576 := by omega
  have hlen := opsBulk_len L
  have hlen2 := opsBulk_len M
  refine (topSave_any m dep dep2 L M _ _ N _ W hr.1 hr.2 hL hM (by omega) (by omega) (opsBulk_cnt hB) (opsBulk_cnt hB2) hN).mono fun e W' ⟨he, hb⟩ => ?_
  subst he
  exact ⟨_, rfl, post_law hW' rfl hb (by rw [Tryz.params4]; intro t ht; simp at ht; rcases ht with rfl | rfl <;> exact ⟨by kernel_rfl, of_decide_eq_true (by kernel_rfl)⟩) (by kernel_rfl) rfl⟩

theorem laid_met (os : Os) : laidMet Tryz.prog Rows.topSaveUptoRow.laid ((laidWorld7 os).forCall (fun _ _ => 0) ⟨#[], #[.slice none 0 0, .slice none 0 0, .slice none 0 0], []⟩).memory :=
  laidMet_of_run' 8 (by kernel_rfl) (by kernel_rfl)
theorem reads (os : Os) {H : Type} (enc : TypeId × Value → H) : ∃ places, DataW.whole enc Tryz.prog ((laidWorld7 os).forCall (fun _ _ => 0) ⟨#[], #[.slice none 0 0, .slice none 0 0, .slice none 0 0], []⟩).memory Tryz.f4.params.toList Rows.topSaveSpec.vars false (#[.slice none 0 0, .slice none 0 0, .slice none 0 0] : Array Value).toList 8 = some ([.nil, .nil, .nil], [], places) :=
  ⟨[], by kernel_rfl⟩

theorem lifted (os : Os) (started : os.Started) (H : Type) (enc : TypeId × Value → H) (F : Stop.Interp) :
    ReturnsInHanded {} Tryz.checked os 4 .any ((Rows.OpenSpec.upto Rows.topSaveSpec).preRow enc Tryz.prog Tryz.f4 Rows.topSaveUptoRow.domain false Rows.topSaveUptoRow.laid) (((Rows.OpenSpec.upto Rows.topSaveSpec).at F).post enc Tryz.prog Tryz.f4 false true false false) := by
  obtain ⟨places, hx⟩ := reads os enc
  refine returnsInHanded_of_row (C := Tryz.checked) (s := Rows.OpenSpec.upto Rows.topSaveSpec) own started (by kernel_rfl) Tryz.func4
    (witness_row_at (enc := enc) (C := Tryz.checked) false (laidWorld7 os) #[.slice none 0 0, .slice none 0 0, .slice none 0 0] rfl (by kernel_rfl) (by kernel_rfl) (by kernel_rfl)
      (OpenSpec.preRow_of_cond 8 hx (by kernel_rfl) (fun k hk => by cases hk; kernel_rfl) (by kernel_rfl) (laid_met os))) ?_
  intro W base args ds gs before hval hW _ hcond hreach hL hsh _
  obtain ⟨m, hr⟩ := grt_of hL hsh
  exact contract H enc W base args ds gs before hval hW hcond hreach m hr

set_option maxHeartbeats 4000000 in
theorem said : Rows.TopSaveUptoSaid :=
  OpenClaim.holds_of_cond 4 Tryz.f4 rfl rfl rfl rfl rfl rfl rfl ⟨rfl, rfl, rfl, rfl, rfl⟩ rfl rfl rfl rfl rfl (by as_aux_lemma => kernel_rfl) Tryz.func4 closed
    (by as_aux_lemma => exact of_decide_eq_true (by kernel_rfl)) (by unfold Func.isWrapper; first | (rw [if_pos (by decide +kernel)]; kernel_rfl) | (rw [if_neg (by decide +kernel)]; exact ⟨rfl, rfl⟩))
    (fun os started H enc _ F => by rw [OpenClaim.pre_eq_preRow]; exact lifted os started H enc F)

theorem plain (f : FuncId) (fn : Func) (hf : Tryz.pinned.checked.prog.funcNamed "foliowright/foliowrighttop.TopSave" = some f) (hfn : Tryz.pinned.checked.prog.funcs[f]? = some fn) :
    true = Tryz.pinned.checked.prog.looks [] ∧ ∀ (j : Nat) t, fn.params[j]? = some t → Tryz.pinned.checked.prog.wantsStandIn t = false := by
  obtain rfl : f = 4 := Option.some.inj ((show Tryz.prog.funcNamed "foliowright/foliowrighttop.TopSave" = some 4 by kernel_rfl).symm.trans hf) |>.symm
  obtain rfl : fn = Tryz.f4 := (Option.some.inj (Tryz.func4.symm.trans hfn)).symm
  refine ⟨by kernel_rfl, fun j t ht => ?_⟩
  rw [Tryz.params4] at ht
  have ht' : t = 22 ∨ t = 23 := by simpa using Array.mem_of_getElem? ht
  rcases ht' with rfl | rfl
  · exact (show Tryz.prog.wantsStandIn 22 = false by kernel_rfl)
  · exact (show Tryz.prog.wantsStandIn 23 = false by kernel_rfl)

/-- The card. -/
theorem card : Rows.TopSaveUptoCardSaid :=
  Claim7.holds_tied_plain_at .later [] _ _ _ _ said (fun _ h => by cases h) (by kernel_rfl) (fun _ h => by cases h) topSaveUpto_row_tie rfl ⟨rfl, rfl⟩ (by kernel_rfl) rfl plain (by kernel_rfl)
end Go.Proofs.YtobpidmlgldnmaaGreatDoor.TopSave
namespace Go.Proofs.YtobpidmlgldnmaaGreatDoor
theorem topSaveUpto_holds : Rows.TopSaveUptoCardSaid := TopSave.card
end Go.Proofs.YtobpidmlgldnmaaGreatDoor
