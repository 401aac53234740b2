/-
  Proved: the law TopFile answers true for all objects and every root whose bulk is within the second form's bound, and leaves memory as it was.
  Its condition: the listed tables and errors of Go's library start as the program's text lays them (the card ties them).
-/
import Derived.Test.YtflcibmjblioaaaGreatDoorRows
import Derived.Test.YtflcibmjblioaaaGreatDoorTie
import Derived.Test.YtflcibmjblioaaaGreatDoorCards
import Derived.Test.YtflcibmjblioaaaGreatDoorFa
import Derived.WalkKit
import Derived.ProofKit
import Derived.OpenShut
import Derived.Deep.DeepHandedRow
import Derived.Lib.LaidTab
import Derived.RowKit
import Derived.IntWalk
import Derived.WalkSpells
import Derived.WalkLawsBesides
import Derived.Handy
import Derived.Deep.QuietTactic
import Derived.BigQuiet
import Derived.Test.YtflcibmjblioaaaGreatDoorFc
import Derived.BigRegion
import Derived.Lib.ItoaMem
import Derived.Lib.Bytealg
import Derived.Lib.ItoaLen
import Derived.Test.YtflcibmjblioaaaGreatDoorShelf
import Derived.Test.YtflcibmjblioaaaGreatDoorFe
import Derived.Lib.IndexMore
import Derived.PlainAid
import Derived.Test.YtflcibmjblioaaaGreatDoorPq
import Derived.Test.YtflcibmjblioaaaGreatDoorMh
import Derived.Lib.SmallJoins
import Derived.Shelf.Vars
import Derived.Stop.LaidErr
import Derived.Laws.Rows
import Derived.Laws.Tables
import Derived.Test.YtflcibmjblioaaaGreatDoorPa
import Derived.Test.YtflcibmjblioaaaGreatDoorRc
import Derived.Deep.CutRange
import Derived.Test.YtflcibmjblioaaaGreatDoorAp
import Derived.Deep.RegionWith
import Derived.Lib.OthersKept
import Derived.Lib.AppendStr
import Derived.Maps.AppendAt
import Derived.RegionTactic
import Derived.Test.YtflcibmjblioaaaGreatDoorVs
import Derived.Laws.OwnMore
import Derived.OneCell
import Derived.Deep.Slices
import Derived.Test.YtflcibmjblioaaaGreatDoorYc
import Derived.Deep.CutBlock
import Derived.Deep.RegionLaw
import Derived.Deep.DrawnRows
import Derived.Test.YtflcibmjblioaaaGreatDoorYf
import Derived.Test.YtflcibmjblioaaaGreatDoorYi
import Derived.Test.YtflcibmjblioaaaGreatDoorYl
import Derived.Lib.AtoiAllCases
import Derived.Lib.ItoaNum
import Derived.Lib.AtoiErrMem
import Derived.Test.YtflcibmjblioaaaGreatDoorVf
import Derived.Test.YtflcibmjblioaaaGreatDoorVc1
import Derived.Deep.RegionHeld3
import Derived.Laws.EntriesVeiled
import Derived.Deep.AppendLies
import Derived.Deep.LoopGhost
import Derived.WalkSmall
import Derived.Test.YtflcibmjblioaaaGreatDoorVc4
import Derived.Test.YtflcibmjblioaaaGreatDoorVc5
import Derived.Test.YtflcibmjblioaaaGreatDoorVd5
import Derived.Test.YtflcibmjblioaaaGreatDoorYo
import Derived.Test.YtflcibmjblioaaaGreatDoorYr
import Derived.Test.YtflcibmjblioaaaGreatDoorVe3
import Derived.Shelf.Spec.SlicesInsert
import Derived.Shelf.Spec.SlicesInsertGrow
import Derived.Test.YtflcibmjblioaaaGreatDoorYu
import Derived.Test.YtflcibmjblioaaaGreatDoorYw
import Derived.Test.YtflcibmjblioaaaGreatDoorVi
import Derived.Test.YtflcibmjblioaaaGreatDoorVl
import Derived.Test.YtflcibmjblioaaaGreatDoorLze
import Derived.Lib.LaidU8
import Derived.Test.YtflcibmjblioaaaGreatDoorKf
import Derived.Lib.Builder
import Derived.Lib.Walk
import Derived.Laws.Externs
import Derived.Lib.UnsafeStr
import Derived.Test.YtflcibmjblioaaaGreatDoorLe
import Derived.Maps.RangeWalk
import Derived.LoopN
import Derived.Sort.OwnSortedInts
import Derived.Maps.Views
import Derived.Maps.OwnSet
import Derived.Test.YtflcibmjblioaaaGreatDoorLc
import Derived.Test.YtflcibmjblioaaaGreatDoorLf
import Derived.Shelf.Strings.SlTrimAscii
import Derived.Test.YtflcibmjblioaaaGreatDoorLh
import Derived.Test.YtflcibmjblioaaaGreatDoorLj0
import Derived.Test.YtflcibmjblioaaaGreatDoorLm
import Derived.Lib.LastIndexLaws
import Derived.Carry
import Derived.Test.YtflcibmjblioaaaGreatDoorPc
import Derived.Test.YtflcibmjblioaaaGreatDoorZg
import Derived.Test.YtflcibmjblioaaaGreatDoorVn
import Derived.Test.YtflcibmjblioaaaGreatDoorPk
import Derived.Test.YtflcibmjblioaaaGreatDoorPo
import Derived.Test.YtflcibmjblioaaaGreatDoorZc
import Derived.Test.YtflcibmjblioaaaGreatDoorVe4
import Derived.Test.YtflcibmjblioaaaGreatDoorVe8
import Derived.Deep.MidRow
import Derived.Test.YtflcibmjblioaaaGreatDoorVr
import Derived.Test.YtflcibmjblioaaaGreatDoorVw
import Derived.Lib.AppendIntMem
import Derived.Test.YtflcibmjblioaaaGreatDoorKj
import Derived.Test.YtflcibmjblioaaaGreatDoorLr
import Derived.Test.YtflcibmjblioaaaGreatDoorLu
import Derived.Test.YtflcibmjblioaaaGreatDoorLo
import Derived.Test.YtflcibmjblioaaaGreatDoorLy0
import Derived.Test.YtflcibmjblioaaaGreatDoorLzfx
import Derived.Test.YtflcibmjblioaaaGreatDoorLy
import Derived.Test.YtflcibmjblioaaaGreatDoorLw
import Derived.Test.YtflcibmjblioaaaGreatDoorLzc
namespace Go.Proofs.YtflcibmjblioaaaGreatDoor.TopFile
open Go.ChangeShapes Go.WideShapes Go.ChangeAt Go.RowKit
set_option maxRecDepth 100000
open Go.WideMaps Go.WideElems
open Go.ChangeMaps (open_string)

theorem contract (H : Type) (enc : TypeId × Value → H) (W : World) (base : Nat) (args : Array Value) (ds gs : List (DataW H)) (before : List MemPlace)
    (hval : ∀ (j : Nat) t v, Tryz.f3.params[j]? = some t → args[j]? = some v → Value.okWide Tryz.prog W .any base t v)
    (hW : DataW.Whole enc Tryz.prog Tryz.f3.params.toList Rows.topFileSpec.vars false W args.toList ds gs before) (hcond : ∀ k, (Rows.OpenSpec.upto Rows.topFileSpec).cond = some k → k H (ds ++ gs) = true)
    (hreach : (DataW.weightsEach Tryz.prog (Tryz.f3.params.toList ++ (Rows.OpenSpec.upto Rows.topFileSpec).bare.plain.varTypes Tryz.prog) (ds ++ gs)).all (· ≤ reachBytes) = true) (m : Int) (hr : Gr m W) :
    Calls Tryz.prog 3 args W fun e W' => ∃ v, e = .returned v ∧ Rows.topFileSpec.post enc Tryz.prog Tryz.f3 false true false false W args v W' := by
  have hW' := hW
  obtain ⟨p, q, hA, hV, rfl, hfz, hnd⟩ := hW
  rw [Tryz.params3] at hA hval
  obtain ⟨v0, vs0, d0, ds0, p0, q0, hargs, rfl, rfl, h0, r0⟩ := trodAll_cons hA
  obtain ⟨v1, vs1, d1, ds1, p1, q1, rfl, rfl, rfl, h1, r1⟩ := trodAll_cons r0
  obtain ⟨rfl, rfl, rfl⟩ := trodAll_nil r1
  obtain rfl : args = #[v0, v1] := by cases args; simp_all
  obtain ⟨rfl, rfl⟩ := trodVars_none hV
  obtain ⟨dep, L, hL, hbL⟩ := open_objs (hval 0 22 v0 rfl rfl) h0
  obtain ⟨r, rfl, rfl, rfl, _⟩ := open_int Tryz.underlying3 (hval 1 3 v1 rfl rfl) h1
  have hk : Rows.uptoBulkAll _ ≤ 1048576 := of_decide_eq_true (hcond _ rfl)
  simp only [List.append_nil, Rows.uptoBulkAll] at hk
  refine (topFile_any m dep _ L r W hr hL (by omega)).mono fun e W' ⟨he, hb⟩ => ?_
  subst he
  exact ⟨_, rfl, post_law hW' rfl hb (by rw [Tryz.params3]; intro t ht; simp at ht; rcases ht with rfl | rfl <;> exact ⟨by kernel_rfl, of_decide_eq_true (by kernel_rfl)⟩) (by kernel_rfl) rfl⟩

theorem laid_met (os : Os) : laidMet Tryz.prog Rows.topFileUptoRow.laid ((laidWorld7g os).forCall (fun _ _ => 0) ⟨#[], #[.slice none 0 0, .int .i64 0], []⟩).memory :=
  laidMet_of_run' 8 (by kernel_rfl) (by kernel_rfl)
theorem reads (os : Os) {H : Type} (enc : TypeId × Value → H) : ∃ places, DataW.whole enc Tryz.prog ((laidWorld7g os).forCall (fun _ _ => 0) ⟨#[], #[.slice none 0 0, .int .i64 0], []⟩).memory Tryz.f3.params.toList Rows.topFileSpec.vars false (#[.slice none 0 0, .int .i64 0] : Array Value).toList 8 = some ([.nil, .lit (.int .i64 0)], [], places) :=
  ⟨[], by kernel_rfl⟩

theorem lifted (os : Os) (started : os.Started) (H : Type) (enc : TypeId × Value → H) (F : Stop.Interp) :
    ReturnsInHanded {} Tryz.checked os 3 .any ((Rows.OpenSpec.upto Rows.topFileSpec).preRow enc Tryz.prog Tryz.f3 Rows.topFileUptoRow.domain false Rows.topFileUptoRow.laid) (((Rows.OpenSpec.upto Rows.topFileSpec).at F).post enc Tryz.prog Tryz.f3 false true false false) := by
  obtain ⟨places, hx⟩ := reads os enc
  refine returnsInHanded_of_row (C := Tryz.checked) (s := Rows.OpenSpec.upto Rows.topFileSpec) own started (by kernel_rfl) Tryz.func3
    (witness_row_at (enc := enc) (C := Tryz.checked) false (laidWorld7g os) #[.slice none 0 0, .int .i64 0] rfl (by kernel_rfl) (by kernel_rfl) (by kernel_rfl)
      (OpenSpec.preRow_of_cond 8 hx (by kernel_rfl) (fun k hk => by cases hk; kernel_rfl) (by kernel_rfl) (laid_met os))) ?_
  intro W base args ds gs before hval hW _ hcond hreach hL hsh _
  obtain ⟨m, hr⟩ := gr7_of hL hsh
  exact contract H enc W base args ds gs before hval hW hcond hreach m hr

set_option maxHeartbeats 4000000 in
theorem said : Rows.TopFileUptoSaid :=
  OpenClaim.holds_of_cond 3 Tryz.f3 rfl rfl rfl rfl rfl rfl rfl ⟨rfl, rfl, rfl, rfl, rfl⟩ rfl rfl rfl rfl rfl (by as_aux_lemma => kernel_rfl) Tryz.func3 closed
    (by as_aux_lemma => exact of_decide_eq_true (by kernel_rfl)) (by unfold Func.isWrapper; first | (rw [if_pos (by decide +kernel)]; kernel_rfl) | (rw [if_neg (by decide +kernel)]; exact ⟨rfl, rfl⟩))
    (fun os started H enc _ F => by rw [OpenClaim.pre_eq_preRow]; exact lifted os started H enc F)

theorem plain (f : FuncId) (fn : Func) (hf : Tryz.pinned.checked.prog.funcNamed "foliowright/foliowrighttop.TopFile" = some f) (hfn : Tryz.pinned.checked.prog.funcs[f]? = some fn) :
    true = Tryz.pinned.checked.prog.looks [] ∧ ∀ (j : Nat) t, fn.params[j]? = some t → Tryz.pinned.checked.prog.wantsStandIn t = false := by
  obtain rfl : f = 3 := Option.some.inj ((show Tryz.prog.funcNamed "foliowright/foliowrighttop.TopFile" = some 3 by kernel_rfl).symm.trans hf) |>.symm
  obtain rfl : fn = Tryz.f3 := (Option.some.inj (Tryz.func3.symm.trans hfn)).symm
  refine ⟨by kernel_rfl, fun j t ht => ?_⟩
  rw [Tryz.params3] at ht
  have ht' : t = 22 ∨ t = 3 := by simpa using Array.mem_of_getElem? ht
  rcases ht' with rfl | rfl
  · exact (show Tryz.prog.wantsStandIn 22 = false by kernel_rfl)
  · exact (show Tryz.prog.wantsStandIn 3 = false by kernel_rfl)

/-- The card. -/
theorem card : Rows.TopFileUptoCardSaid :=
  Claim7.holds_tied_plain_at .later [] _ _ _ _ said (fun _ h => by cases h) (by kernel_rfl) (fun _ h => by cases h) topFileUpto_row_tie rfl ⟨rfl, rfl⟩ (by kernel_rfl) rfl plain (by kernel_rfl)
end Go.Proofs.YtflcibmjblioaaaGreatDoor.TopFile
namespace Go.Proofs.YtflcibmjblioaaaGreatDoor
theorem topFileUpto_holds : Rows.TopFileUptoCardSaid := TopFile.card
end Go.Proofs.YtflcibmjblioaaaGreatDoor
