/-
  Joined: Ly0, Lzd, Lzf.
-/
import Derived.Test.YtflcibmjblioaaaGreatDoorRows
import Derived.Test.YtflcibmjblioaaaGreatDoorFa
import Derived.RowKit
import Derived.IntWalk
import Derived.WalkKit
import Derived.WalkSpells
import Derived.WalkLawsBesides
import Derived.Handy
import Derived.Deep.QuietTactic
import Derived.BigQuiet
import Derived.Test.YtflcibmjblioaaaGreatDoorFc
import Derived.BigRegion
import Derived.Lib.ItoaMem
import Derived.Lib.Bytealg
import Derived.Lib.ItoaLen
import Derived.Test.YtflcibmjblioaaaGreatDoorShelf
import Derived.Test.YtflcibmjblioaaaGreatDoorFe
import Derived.Lib.IndexMore
import Derived.PlainAid
import Derived.Test.YtflcibmjblioaaaGreatDoorPq
import Derived.Test.YtflcibmjblioaaaGreatDoorMh
import Derived.Lib.SmallJoins
import Derived.Laws.Rows
import Derived.Laws.Tables
import Derived.Test.YtflcibmjblioaaaGreatDoorPa
import Derived.Test.YtflcibmjblioaaaGreatDoorRc
import Derived.Deep.CutRange
import Derived.Test.YtflcibmjblioaaaGreatDoorAp
import Derived.Deep.RegionWith
import Derived.Lib.OthersKept
import Derived.Lib.AppendStr
import Derived.Maps.AppendAt
import Derived.RegionTactic
import Derived.Test.YtflcibmjblioaaaGreatDoorVs
import Derived.Laws.OwnMore
import Derived.OneCell
import Derived.ProofKit
import Derived.Deep.Slices
import Derived.Test.YtflcibmjblioaaaGreatDoorYc
import Derived.Deep.CutBlock
import Derived.Deep.RegionLaw
import Derived.Deep.DrawnRows
import Derived.Test.YtflcibmjblioaaaGreatDoorYf
import Derived.Test.YtflcibmjblioaaaGreatDoorYi
import Derived.Test.YtflcibmjblioaaaGreatDoorYl
import Derived.Lib.AtoiAllCases
import Derived.Lib.ItoaNum
import Derived.Lib.AtoiErrMem
import Derived.Test.YtflcibmjblioaaaGreatDoorVf
import Derived.Test.YtflcibmjblioaaaGreatDoorVc1
import Derived.Deep.RegionHeld3
import Derived.Laws.EntriesVeiled
import Derived.Deep.AppendLies
import Derived.Deep.LoopGhost
import Derived.WalkSmall
import Derived.Test.YtflcibmjblioaaaGreatDoorVc4
import Derived.Test.YtflcibmjblioaaaGreatDoorVc5
import Derived.Test.YtflcibmjblioaaaGreatDoorVd5
import Derived.Test.YtflcibmjblioaaaGreatDoorYo
import Derived.Test.YtflcibmjblioaaaGreatDoorYr
import Derived.Test.YtflcibmjblioaaaGreatDoorVe3
import Derived.Shelf.Spec.SlicesInsert
import Derived.Shelf.Spec.SlicesInsertGrow
import Derived.Test.YtflcibmjblioaaaGreatDoorYu
import Derived.Test.YtflcibmjblioaaaGreatDoorYw
import Derived.Test.YtflcibmjblioaaaGreatDoorVi
import Derived.Test.YtflcibmjblioaaaGreatDoorVl
import Derived.Test.YtflcibmjblioaaaGreatDoorLze
import Derived.Test.YtflcibmjblioaaaGreatDoorKf
import Derived.Lib.Builder
import Derived.Lib.Walk
import Derived.Laws.Externs
import Derived.Lib.UnsafeStr
import Derived.Test.YtflcibmjblioaaaGreatDoorLe
import Derived.Maps.RangeWalk
import Derived.LoopN
import Derived.Sort.OwnSortedInts
import Derived.Maps.Views
import Derived.Maps.OwnSet
import Derived.Test.YtflcibmjblioaaaGreatDoorLc
import Derived.OpenShut
import Derived.Test.YtflcibmjblioaaaGreatDoorLf
import Derived.Shelf.Strings.SlTrimAscii
import Derived.Test.YtflcibmjblioaaaGreatDoorLh
import Derived.Test.YtflcibmjblioaaaGreatDoorLj0
import Derived.Test.YtflcibmjblioaaaGreatDoorLm
import Derived.Lib.LastIndexLaws
import Derived.Carry
import Derived.Test.YtflcibmjblioaaaGreatDoorPc
import Derived.Test.YtflcibmjblioaaaGreatDoorZg
import Derived.Test.YtflcibmjblioaaaGreatDoorVn
import Derived.Test.YtflcibmjblioaaaGreatDoorPk
import Derived.Test.YtflcibmjblioaaaGreatDoorPo
import Derived.Test.YtflcibmjblioaaaGreatDoorZc
import Derived.Test.YtflcibmjblioaaaGreatDoorVe4
import Derived.Test.YtflcibmjblioaaaGreatDoorVe8
import Derived.Deep.MidRow
import Derived.Test.YtflcibmjblioaaaGreatDoorVr
import Derived.Test.YtflcibmjblioaaaGreatDoorVw
import Derived.Lib.AppendIntMem
import Derived.Test.YtflcibmjblioaaaGreatDoorKj
import Derived.Test.YtflcibmjblioaaaGreatDoorLr
import Derived.Test.YtflcibmjblioaaaGreatDoorLu
import Derived.Test.YtflcibmjblioaaaGreatDoorLo
import Derived.Test.YtflcibmjblioaaaGreatDoorLy0
import Derived.Test.YtflcibmjblioaaaGreatDoorLy
import Derived.Test.YtflcibmjblioaaaGreatDoorLw
import Derived.Test.YtflcibmjblioaaaGreatDoorLzc
import Derived.Test.YtflcibmjblioaaaGreatDoorTie
import Derived.Test.YtflcibmjblioaaaGreatDoorCards
import Derived.Deep.DeepHandedRow
import Derived.Lib.LaidTab
import Derived.Shelf.Vars
import Derived.Stop.LaidErr

/-
  A file that is built, and one that is laid behind it: plain facts.
-/
namespace Go.Proofs.YtflcibmjblioaaaGreatDoor
open Go.RowKit Go.Lib Go.Maps
set_option maxRecDepth 1000000

theorem root_get (r : Int) : getF rootN (rootV r).f = some (V0 7 r eB) := by kernel_rfl
end Go.Proofs.YtflcibmjblioaaaGreatDoor

/-
  The law TopFile.
-/
namespace Go.Proofs.YtflcibmjblioaaaGreatDoor
open Go.RowKit
set_option maxRecDepth 1000000

set_option maxHeartbeats 2000000 in
theorem topFile_any (M : Int) (d : Nat) (t : Value) (L : List Ob) (r : Int) (w : World) (hG : Gr M w) (hL : ObsN d w t L) (hbk : obsBulk L ≤ 1048576) :
    Calls Tryz.prog 3 #[t, .int .i64 r] w fun e w' => e = .returned (.bool true) ∧ Below w.heap.size w w' := by
  have HG := hid hG
  have HL := hid hL
  have HL0 := hid hL
  have HBk := hid hbk
  obtain ⟨al, cl, rfl, hl9, hL⟩ := hL
  have HE := hid hL
  have HSt := hid (stands_says M w hG)
  clear hG hL hbk
  go_enter Tryz.func3, Tryz.ntmps3
  go_wp2_with (go_at_call 5; fail)
  go_at_call 5
  refine HSt.out.mono ?_
  rintro e w1 ⟨rfl, hB1⟩
  go_wp2_with (go_at_call 6; fail)
  go_at_call 6
  refine (lightObs_any d L _ w1 (HL.out.later hB1) HBk.out).mono ?_
  rintro e w2 ⟨(rfl | ⟨rfl, hLi⟩), hb2⟩
  · have hB2 := hB1.trans (hb2.mono hB1.size)
    go_wp2_with fail
    go_ret
    exact ⟨rfl, hB2⟩
  · have hB2 := hB1.trans (hb2.mono hB1.size)
    have HLi := hid hLi
    clear hLi hb2 hB1 HSt
    go_wp2_with (go_at_call 7; fail)
    go_at_call 7
    refine (build_says M d _ L r w2 (HL.out.later hB2) (light_short_obs HLi.out) (light_cnt HLi.out) ((HG.out.below hB2).rdy)).mono ?_
    rintro e w3 ⟨hE, hb3⟩
    have hB3 := hB2.trans (hb3.mono hB2.size)
    have hE2 : (∃ T, Hid (Laid headL L (rootV r) T) ∧ e = .returned (.tuple #[.string T, .nilIface])) ∨ ∃ k, Hid (k ≠ 0) ∧ e = .returned (.tuple #[.string ⟨#[]⟩, errN k]) := by
      rcases hE with ⟨_, ⟨T, hT, rfl⟩ | ⟨k, hk, _, rfl⟩⟩ | ⟨_, rfl⟩
      · exact .inl ⟨T, hid hT, rfl⟩
      · exact .inr ⟨k, hid hk, rfl⟩
      · exact .inr ⟨1, hid (by decide), rfl⟩
    clear hE hb3 hB2
    rcases hE2 with ⟨T, HT, rfl⟩ | ⟨k, hk, rfl⟩
    · go_wp2_with (go_at_call 8; fail)
      go_at_call 8
      refine (readBuilt_says M L r T w3 HT.out (HG.out.below hB3)).mono ?_
      rintro e w4 ⟨⟨B, E, F, tb, m, rfl, HF⟩, hb4⟩
      have hB4 := hB3.trans (hb4.mono hB3.size)
      have HNm := hid (numbersB_says L r T B E F tb m w4 HF.out HT.out.nodup)
      clear hb4 hB3
      go_wp2_with (go_at_call 9; fail)
      go_at_call 9
      refine HNm.out.mono ?_
      rintro e w5 ⟨⟨z1, z2, rfl⟩, hb5⟩
      have HF5 := hid (HF.out.later hb5)
      have hB5 := hB4.trans (hb5.mono hB4.size)
      have hroot : Calls Tryz.prog 10 #[.pointer (some ⟨F, 0, none⟩)] w5 fun e w' => e = .returned (.tuple #[.int .i64 r, .nilIface]) ∧ Below w5.heap.size w5 w' := rootF_says B E F T tb (rootV r) m w5 (V0 7 r eB) HF5.out.file (by rw [root_cnt]; decide) (root_get r) rfl
      have HRt := hid hroot
      clear hb5 hB4 HF HNm hroot
      go_wp2_with (go_at_call 10; fail)
      go_at_call 10
      refine HRt.out.mono ?_
      rintro e w6 ⟨rfl, hb6⟩
      have HF6 := hid (HF5.out.later hb6)
      have hB6 := hB5.trans (hb6.mono hB5.size)
      clear hb6 hB5 HF5 HRt
      go_wp2_with fail
      go_loopw [10] (fun t10 wr => ∃ i : Nat, t10 = .int .i64 (i : Int) ∧ Hid (i ≤ L.length) ∧ Below w6.heap.size w6 wr) (fun t _ => L.length - (intOf t).toNat)
      case atStart => exact ⟨0, rfl, hid (Nat.zero_le _), Below.refl _ _⟩
      case round =>
        obtain ⟨i, rfl, HI, hbr⟩ := hrel
        have hBr := hB6.trans (hbr.mono hB6.size)
        by_cases hil : i < L.length
        · have hil' : (i : Int) < (L.length : Int) := by omega
          obtain ⟨o, ho⟩ : ∃ o, L[i]? = some o := ⟨_, List.getElem?_eq_getElem hil⟩
          have hmem := List.mem_of_getElem? ho
          obtain ⟨b, off, cs, rfl, hA⟩ := HE.out i o ho
          have hOb := hA.later hBr
          have zb := hOb.1
          obtain ⟨p, p1, p2⟩ := HF6.out.at_ o hmem
          have hheld := held_says M d B E F T tb (rootV r) m o p cs wr HF6.out.size (HF6.out.later hbr).file p1 p2 (HT.out.ok o hmem) hOb.2.2.2 (light_cnt HLi.out o hmem) (HG.out.below hBr)
          obtain ⟨k1, n1, s1, a3, l1, c1, a4, l2, c2, rfl, g0, g1, g2, g3, g4, g5, g6, g7⟩ := ob_cells hOb
          unfold obC at hheld
          simp only [List.cons_append, List.nil_append] at hheld
          have HHe := hid hheld
          have Hi1 := hid (show i + 1 ≤ L.length ∧ i ≤ 1000000 by have := HLi.out.1; omega)
          have hwi := wrapS Hi1.out.2
          clear hA hOb ho hmem p1 p2 hheld
          go_wp2_with (go_at_call 11; refine HHe.out.mono ?_; rintro e w7 ⟨rfl, hb7⟩)
          clear hwi
          go_roundw
          case rel => exact ⟨i + 1, by first | exact k_int i | (rw [wrapS Hi1.out.2]; exact k_int i), hid Hi1.out.1, hbr.trans (hb7.mono hbr.size)⟩
          case measure => first | exact i_less hil | (rw [wrapS Hi1.out.2]; exact i_less hil)
        · have hil' : ¬ (i : Int) < (L.length : Int) := by omega
          go_wp2_with fail
          go_ret
          exact ⟨rfl, hBr⟩
    · obtain ⟨_, he⟩ := (errN_cs k).resolve_left (fun h => hk.out h.1)
      rw [he]
      go_wp2_with fail
      go_ret
      exact ⟨rfl, hB3⟩
end Go.Proofs.YtflcibmjblioaaaGreatDoor

/-
  The row's closed facts, each by itself.
-/
namespace Go.Proofs.YtflcibmjblioaaaGreatDoor.TopFile
open Go.ChangeShapes Go.WideShapes Go.ChangeAt Go.RowKit
set_option maxRecDepth 100000

set_option maxHeartbeats 40000000 in
theorem closed : joinedFacts Tryz.pinned.checked.prog 3 Tryz.f3 (Rows.OpenSpec.upto Rows.topFileSpec).bare Rows.topFileUptoRow = true := by
  unfold joinedFacts
  repeat' (with_reducible refine Bool.and_eq_true_iff.2 ⟨?_, ?_⟩)
  all_goals (as_aux_lemma => kernel_rfl)
end Go.Proofs.YtflcibmjblioaaaGreatDoor.TopFile
