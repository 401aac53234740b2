import Derived.Test.YtobpidmlgldnmaaGreatDoorRows
import Derived.Test.YtobpidmlgldnmaaGreatDoorFa
import Derived.RowKit
import Derived.IntWalk
import Derived.WalkKit
import Derived.WalkSpells
import Derived.WalkLawsBesides
import Derived.Handy
import Derived.Test.YtobpidmlgldnmaaGreatDoorPt
import Derived.Deep.QuietTactic
import Derived.BigQuiet
import Derived.BigRegion
import Derived.Lib.ItoaMem
import Derived.Lib.Bytealg
import Derived.Lib.ItoaLen
import Derived.Test.YtobpidmlgldnmaaGreatDoorShelf
import Derived.Test.YtobpidmlgldnmaaGreatDoorFe
import Derived.Lib.IndexMore
import Derived.PlainAid
import Derived.Test.YtobpidmlgldnmaaGreatDoorFh
import Derived.Lib.SmallJoins
import Derived.Test.YtobpidmlgldnmaaGreatDoorKb
import Derived.Laws.Rows
import Derived.Laws.Tables
import Derived.Test.YtobpidmlgldnmaaGreatDoorRa
import Derived.Test.YtobpidmlgldnmaaGreatDoorYa
import Derived.Deep.CutRange
import Derived.Deep.RegionWith
import Derived.Test.YtobpidmlgldnmaaGreatDoorAq
import Derived.Lib.OthersKept
import Derived.Lib.AppendStr
import Derived.Maps.AppendAt
import Derived.RegionTactic
import Derived.Laws.OwnMore
import Derived.OneCell
import Derived.Test.YtobpidmlgldnmaaGreatDoorJrx
import Derived.Test.YtobpidmlgldnmaaGreatDoorVh
import Derived.ProofKit
import Derived.Deep.Slices
import Derived.Deep.CutBlock
import Derived.Test.YtobpidmlgldnmaaGreatDoorYd
import Derived.Deep.RegionLaw
import Derived.Deep.DrawnRows
import Derived.Test.YtobpidmlgldnmaaGreatDoorYg
import Derived.Test.YtobpidmlgldnmaaGreatDoorYj
import Derived.Test.YtobpidmlgldnmaaGreatDoorVe
import Derived.Lib.AtoiAllCases
import Derived.Lib.ItoaNum
import Derived.Lib.AtoiErrMem
import Derived.Test.YtobpidmlgldnmaaGreatDoorVy
import Derived.Deep.RegionHeld3
import Derived.Laws.EntriesVeiled
import Derived.Test.YtobpidmlgldnmaaGreatDoorVc3
import Derived.Deep.AppendLies
import Derived.Deep.LoopGhost
import Derived.WalkSmall
import Derived.Test.YtobpidmlgldnmaaGreatDoorVd3
import Derived.Test.YtobpidmlgldnmaaGreatDoorYm
import Derived.Test.YtobpidmlgldnmaaGreatDoorYp
import Derived.Test.YtobpidmlgldnmaaGreatDoorVe1
import Derived.Shelf.Spec.SlicesInsert
import Derived.Shelf.Spec.SlicesInsertGrow
import Derived.Test.YtobpidmlgldnmaaGreatDoorYt
import Derived.Test.YtobpidmlgldnmaaGreatDoorYua
import Derived.Test.YtobpidmlgldnmaaGreatDoorYx
import Derived.Test.YtobpidmlgldnmaaGreatDoorVj
import Derived.Test.YtobpidmlgldnmaaGreatDoorYy
import Derived.Test.YtobpidmlgldnmaaGreatDoorCb
import Derived.Lib.ValidLaws
import Derived.Lib.MapLaws
import Derived.Lib.RuneBytes
import Derived.Test.YtobpidmlgldnmaaGreatDoorCp
import Derived.Lib.LaidU8
import Derived.PinnedBridge
import Derived.Test.YtobpidmlgldnmaaGreatDoorAm
import Derived.Laws.IdiomStrings
import Derived.Lib.FrozenHead
import Derived.Test.YtobpidmlgldnmaaGreatDoorGc
import Derived.Laws.BitsLemmas
import Derived.Maps.OwnSet
import Derived.Maps.OwnOps
import Derived.Carry
import Derived.Test.YtobpidmlgldnmaaGreatDoorCe
import Derived.Test.YtobpidmlgldnmaaGreatDoorGh
import Derived.Lib.SlTrimSet
import Derived.Maps.StringElems
import Derived.WideKeyElems2
import Derived.Laws.IdiomRangeMap
import Derived.Test.YtobpidmlgldnmaaGreatDoorCh
import Derived.Laws.DeepBits32
import Derived.Test.YtobpidmlgldnmaaGreatDoorCk
import Derived.Test.YtobpidmlgldnmaaGreatDoorOc
import Derived.Maps.RangeWalk
import Derived.LoopN
import Derived.Test.YtobpidmlgldnmaaGreatDoorVo
import Derived.Lib.AppendIntMem
import Derived.Test.YtobpidmlgldnmaaGreatDoorOe
import Derived.Test.YtobpidmlgldnmaaGreatDoorOh
import Derived.Test.YtobpidmlgldnmaaGreatDoorGf
import Derived.Test.YtobpidmlgldnmaaGreatDoorMb
import Derived.Deep.AppendSrc
import Derived.Test.YtobpidmlgldnmaaGreatDoorIb
import Derived.Deep.MidRow
import Derived.OwnWalk
import Derived.Test.YtobpidmlgldnmaaGreatDoorIl
import Derived.Test.YtobpidmlgldnmaaGreatDoorIs
import Derived.Test.YtobpidmlgldnmaaGreatDoorIn
import Derived.Test.YtobpidmlgldnmaaGreatDoorIv
import Derived.Test.YtobpidmlgldnmaaGreatDoorIk
import Derived.Test.YtobpidmlgldnmaaGreatDoorIp
import Derived.Test.YtobpidmlgldnmaaGreatDoorIh
import Derived.Test.YtobpidmlgldnmaaGreatDoorJa
import Derived.Test.YtobpidmlgldnmaaGreatDoorJd
import Derived.Lib.Builder
import Derived.Lib.Walk
import Derived.Laws.Externs
import Derived.Lib.UnsafeStr
import Derived.Test.YtobpidmlgldnmaaGreatDoorJf

/-
  A page that is moved along has the same glyphs, moved along: the law.
-/
namespace Go.Proofs.YtobpidmlgldnmaaGreatDoor
open Go.RowKit
set_option maxRecDepth 100000

theorem NmsAt.all {w : World} {t : Value} {N : List Nm} (h : NmsAt w t N) : ∀ n ∈ N, NmIn w n := fun n hn => by
  obtain ⟨a, c, _, _, hx⟩ := h
  obtain ⟨k, hk⟩ := List.getElem?_of_mem hn
  obtain ⟨b, off, _, _, _, _, _, _, _, _, q⟩ := hx k n hk
  exact q
/-- The contract of paint.Page with the fonts of a list of names. -/
theorem page_named {d mb : Nat} {L : List OpP} {t : Value} {N : List Nm} {w : World} (hO : OpsN d w t L) (hk : GoodL L) (hM : w.ownsMap Tryz.prog 9 heldR mb 5 (nmD N)) (hN : ∀ n ∈ N, NmIn w n) (hT : Tb w) (hf : ∀ n ∈ N, spFault n.F.l n.F.wide = 0) :
    Calls Tryz.prog 10 #[t, .map (some mb)] w fun e w' => PgA w e w' (pageR (sgN N) (ffN N) L) ∧ Below w.heap.size w w' :=
  page_says (sgN N) (ffN N) d L t (some mb) w hO hk (fun K k1 k2 => fonts_many N k2 (by rw [k1]; exact hM)) (fun K k1 s x hx => sig_many N (fun n hn => by rw [k1]; exact hN n hn) (by rw [k1]; exact hT) hf s x hx)

theorem GoodL.cons_opM {L : List OpP} {x y : Int} (h : GoodL L) : GoodL ((⟨#[99, 109]⟩, (opM x y).2) :: L) := fun o ho => by
  rcases List.mem_cons.1 ho with rfl | ho
  · intro v hv
    simp only [opM, List.mem_cons, List.not_mem_nil, or_false] at hv
    rcases hv with rfl | rfl | rfl | rfl | rfl | rfl <;> exact ⟨by show eB.size ≤ 1000; unfold eB; decide, fun u hu => by simp [V0] at hu⟩
  · exact h o ho

set_option maxHeartbeats 8000000 in
theorem topShift_any (m : Int) (d : Nat) (L : List OpP) (t : Value) (N : List Nm) (tn : Value) (x y : Int) (w : World) (hG : Gr m w) (hT : Tb w) (hO : OpsN d w t L) (hl : L.length ≤ 1048576) (hc : ∀ o ∈ L, ∀ v ∈ o.2, v.cnt ≤ 1048576) (hN : NmsAt w tn N) :
    Calls Tryz.prog 3 #[t, tn, .int .i64 x, .int .i64 y] w fun e w' => e = .returned (.bool true) ∧ Below w.heap.size w w' := by
  have HO := hid hO
  have HNA := hid hN.all
  have HF := hid (fonts_says N tn w hN)
  have HGT := hid (And.intro hG hT)
  have HC := hid hc
  clear hO hN hG hT hc
  go_enter Tryz.func3, Tryz.ntmps3
  go_wp2_with (go_at_call 6; fail)
  go_at_call 6
  refine HF.out.mono ?_
  rintro e w1 ⟨mb, lt, rfl, hlt, hmb, hmb2, ⟨k, D, hk5, hM⟩, hb1⟩
  have HL := hid hlt
  have B1 := hid hb1
  have HM := hid hM
  clear hlt hb1 hM HF
  go_wp2_with (go_at_call 7; fail)
  go_at_call 7
  refine (shows_map m mb k D w1 (HGT.out.1.below B1.out) (HGT.out.2.below B1.out) HM.out hk5).mono ?_
  rintro e w2 ⟨rfl, hb2⟩
  have B2 := hid (chn0 B1.out hb2)
  have B12 := hid hb2
  clear hb2 HM
  cases lt with
  | false =>
    go_wp2_with fail
    go_ret
    exact ⟨rfl, B2.out⟩
  | true =>
    obtain ⟨hN5, hsp, hmap⟩ := HL.out rfl
    have HSP := hid hsp
    have HMAP := hid (kept_below hmap B12.out)
    clear hsp hmap HL B12 B1
    go_wp2_with (go_at_call 8; fail)
    go_at_call 8
    refine (good_says d L t w2 (HO.out.later B2.out) HC.out).mono ?_
    rintro e w3 ⟨he, hb3⟩
    have B3 := hid (chn0 B2.out hb3)
    have M3 := hid (kept_below HMAP.out hb3)
    clear hb3 HMAP B2
    rcases he with rfl | ⟨rfl, hgd⟩
    · go_wp2_with fail
      go_ret
      exact ⟨rfl, B3.out⟩
    · have HGD := hid hgd
      clear hgd
      go_wp2_with (go_at_call 9; fail)
      go_at_call 9
      have A3 := At.new w3 #[.int .i64 x, .int .i64 y] 3 rfl
      refine (small_in [x, y] _ _ (by simp) ⟨_, _, rfl, fun k z hk => by
        match k, hk with
        | 0, hk => injection hk with hk; subst hk; exact ⟨_, 0, rfl, A3.lt, A3.cell 0⟩
        | 1, hk => injection hk with hk; subst hk; exact ⟨_, 0, rfl, A3.lt, A3.cell 1⟩
        | k + 2, hk => simp at hk⟩).mono ?_
      rintro e w4 ⟨he, hb4⟩
      have b34 : Below w3.heap.size w3 w4 := chn0 ((Below.refl _ _).alloc (Nat.le_refl _) (.cells #[.int .i64 x, .int .i64 y] 3)) hb4
      have B4 := hid (chn0 B3.out b34)
      have M4 := hid (kept_below M3.out b34)
      clear A3 hb4 b34 B3 M3
      rcases he with rfl | ⟨rfl, hin⟩
      · go_wp2_with fail
        go_ret
        exact ⟨rfl, B4.out⟩
      · have HX := hid (And.intro (hin x (by simp)) (hin y (by simp)))
        clear hin
        go_wp2_with (go_at_call 10; fail)
        go_at_call 10
        refine (page_named (HO.out.later B4.out) HGD.out M4.out (fun n hn => (HNA.out n hn).later B4.out) (HGT.out.2.below B4.out) HSP.out).mono ?_
        rintro e w5 ⟨he, hb5⟩
        have B5 := hid (chn0 B4.out hb5)
        have M5 := hid (kept_below M4.out hb5)
        have B45 := hid hb5
        clear hb5 M4
        cases hr : pageR (sgN N) (ffN N) L with
        | error k =>
          rw [hr] at he
          subst he
          go_wp2_with fail
          go_ret
          exact ⟨rfl, B5.out⟩
        | ok p =>
          rw [hr] at he
          obtain ⟨hp1, tG, Bg, rfl, hBg, hown⟩ := he
          obtain ⟨al, cG, rfl, hgl⟩ := own_gl hown
          have HGL := hid hgl
          have HR := hid hr
          clear hgl hown hr hBg B45
          go_wp2_with (go_at_call 11; fail)
          go_at_call 11
          refine (numS_says (1000) _).mono ?_
          rintro e w6 ⟨rfl, hb6⟩
          have B6 := hid (chn0 B5.out hb6)
          have M6 := hid (kept_below M5.out hb6)
          have G6 := hid (HGL.out.later hb6)
          clear hb6 M5 B5
          go_wp2_with (go_at_call 11; fail)
          go_at_call 11
          refine (numS_says (0) _).mono ?_
          rintro e w7 ⟨rfl, hb7⟩
          have B7 := hid (chn0 B6.out hb7)
          have M7 := hid (kept_below M6.out hb7)
          have G7 := hid (G6.out.later hb7)
          clear hb7 M6 B6 G6
          go_wp2_with (go_at_call 11; fail)
          go_at_call 11
          refine (numS_says (0) _).mono ?_
          rintro e w8 ⟨rfl, hb8⟩
          have B8 := hid (chn0 B7.out hb8)
          have M8 := hid (kept_below M7.out hb8)
          have G8 := hid (G7.out.later hb8)
          clear hb8 M7 B7 G7
          go_wp2_with (go_at_call 11; fail)
          go_at_call 11
          refine (numS_says (1000) _).mono ?_
          rintro e w9 ⟨rfl, hb9⟩
          have B9 := hid (chn0 B8.out hb9)
          have M9 := hid (kept_below M8.out hb9)
          have G9 := hid (G8.out.later hb9)
          clear hb9 M8 B8 G8
          go_wp2_with (go_at_call 11; fail)
          go_at_call 11
          refine (numS_says x _).mono ?_
          rintro e w10 ⟨rfl, hb10⟩
          have B10 := hid (chn0 B9.out hb10)
          have M10 := hid (kept_below M9.out hb10)
          have G10 := hid (G9.out.later hb10)
          clear hb10 M9 B9 G9
          go_wp2_with (go_at_call 11; fail)
          go_at_call 11
          refine (numS_says y _).mono ?_
          rintro e w11 ⟨rfl, hb11⟩
          have B11 := hid (chn0 B10.out hb11)
          have M11 := hid (kept_below M10.out hb11)
          have G11 := hid (G10.out.later hb11)
          clear hb11 M10 B10 G10
          have hA : At ((w11.alloc (.cells #[.int .i64 2, .int .i64 1000, .string ⟨#[]⟩, .slice none 0 0, .slice none 0 0, .int .i64 2, .int .i64 0, .string ⟨#[]⟩, .slice none 0 0, .slice none 0 0, .int .i64 2, .int .i64 0, .string ⟨#[]⟩, .slice none 0 0, .slice none 0 0, .int .i64 2, .int .i64 1000, .string ⟨#[]⟩, .slice none 0 0, .slice none 0 0, .int .i64 2, .int .i64 x, .string ⟨#[]⟩, .slice none 0 0, .slice none 0 0, .int .i64 2, .int .i64 y, .string ⟨#[]⟩, .slice none 0 0, .slice none 0 0] 38)).alloc (.cells #[.string ⟨#[99, 109]⟩, .slice (some ⟨w11.heap.size, 0, none⟩) 6 6] 41)) w11.heap.size 38 #[.int .i64 2, .int .i64 1000, .string ⟨#[]⟩, .slice none 0 0, .slice none 0 0, .int .i64 2, .int .i64 0, .string ⟨#[]⟩, .slice none 0 0, .slice none 0 0, .int .i64 2, .int .i64 0, .string ⟨#[]⟩, .slice none 0 0, .slice none 0 0, .int .i64 2, .int .i64 1000, .string ⟨#[]⟩, .slice none 0 0, .slice none 0 0, .int .i64 2, .int .i64 x, .string ⟨#[]⟩, .slice none 0 0, .slice none 0 0, .int .i64 2, .int .i64 y, .string ⟨#[]⟩, .slice none 0 0, .slice none 0 0] := (At.new w11 #[.int .i64 2, .int .i64 1000, .string ⟨#[]⟩, .slice none 0 0, .slice none 0 0, .int .i64 2, .int .i64 0, .string ⟨#[]⟩, .slice none 0 0, .slice none 0 0, .int .i64 2, .int .i64 0, .string ⟨#[]⟩, .slice none 0 0, .slice none 0 0, .int .i64 2, .int .i64 1000, .string ⟨#[]⟩, .slice none 0 0, .slice none 0 0, .int .i64 2, .int .i64 x, .string ⟨#[]⟩, .slice none 0 0, .slice none 0 0, .int .i64 2, .int .i64 y, .string ⟨#[]⟩, .slice none 0 0, .slice none 0 0] 38 rfl).alloc _
          have hb12 : Below w11.heap.size w11 ((w11.alloc (.cells #[.int .i64 2, .int .i64 1000, .string ⟨#[]⟩, .slice none 0 0, .slice none 0 0, .int .i64 2, .int .i64 0, .string ⟨#[]⟩, .slice none 0 0, .slice none 0 0, .int .i64 2, .int .i64 0, .string ⟨#[]⟩, .slice none 0 0, .slice none 0 0, .int .i64 2, .int .i64 1000, .string ⟨#[]⟩, .slice none 0 0, .slice none 0 0, .int .i64 2, .int .i64 x, .string ⟨#[]⟩, .slice none 0 0, .slice none 0 0, .int .i64 2, .int .i64 y, .string ⟨#[]⟩, .slice none 0 0, .slice none 0 0] 38)).alloc (.cells #[.string ⟨#[99, 109]⟩, .slice (some ⟨w11.heap.size, 0, none⟩) 6 6] 41)) := by go_grown
          have HZ := hid (show ((w11.alloc (.cells #[.int .i64 2, .int .i64 1000, .string ⟨#[]⟩, .slice none 0 0, .slice none 0 0, .int .i64 2, .int .i64 0, .string ⟨#[]⟩, .slice none 0 0, .slice none 0 0, .int .i64 2, .int .i64 0, .string ⟨#[]⟩, .slice none 0 0, .slice none 0 0, .int .i64 2, .int .i64 1000, .string ⟨#[]⟩, .slice none 0 0, .slice none 0 0, .int .i64 2, .int .i64 x, .string ⟨#[]⟩, .slice none 0 0, .slice none 0 0, .int .i64 2, .int .i64 y, .string ⟨#[]⟩, .slice none 0 0, .slice none 0 0] 38)).alloc (.cells #[.string ⟨#[99, 109]⟩, .slice (some ⟨w11.heap.size, 0, none⟩) 6 6] 41)).heap.size = w11.heap.size + 1 + 1 from by simp)
          have R12 := hid (show RepN (d + 2) ((w11.alloc (.cells #[.int .i64 2, .int .i64 1000, .string ⟨#[]⟩, .slice none 0 0, .slice none 0 0, .int .i64 2, .int .i64 0, .string ⟨#[]⟩, .slice none 0 0, .slice none 0 0, .int .i64 2, .int .i64 0, .string ⟨#[]⟩, .slice none 0 0, .slice none 0 0, .int .i64 2, .int .i64 1000, .string ⟨#[]⟩, .slice none 0 0, .slice none 0 0, .int .i64 2, .int .i64 x, .string ⟨#[]⟩, .slice none 0 0, .slice none 0 0, .int .i64 2, .int .i64 y, .string ⟨#[]⟩, .slice none 0 0, .slice none 0 0] 38)).alloc (.cells #[.string ⟨#[99, 109]⟩, .slice (some ⟨w11.heap.size, 0, none⟩) 6 6] 41)) (listV5 (opM x y).2) (listC (.slice (some ⟨w11.heap.size, 0, none⟩) 6 6)) from rep_row [(V0 2 1000 eB, v0C 2 1000 eB), (V0 2 0 eB, v0C 2 0 eB), (V0 2 0 eB, v0C 2 0 eB), (V0 2 1000 eB, v0C 2 1000 eB), (V0 2 x eB, v0C 2 x eB), (V0 2 y eB, v0C 2 y eB)] hA rfl (by simp [v0C]) (fun q hq => by
            have hE : eB.size ≤ maxLen := by unfold eB maxLen; decide
            simp only [List.mem_cons, List.not_mem_nil, or_false] at hq
            rcases hq with rfl | rfl | rfl | rfl | rfl | rfl <;> exact rep_v0 d _ _ _ _ hE) (by show 6 ≤ maxLen; unfold maxLen; omega))
          have B12 := hid (chn0 B11.out hb12)
          have M12 := hid (kept_below M11.out hb12)
          have G12 := hid (G11.out.later hb12)
          have O12 := hid ((HO.out.later B12.out).mono (show d ≤ d + 2 by omega))
          clear hb12 hA M11 B11 G11
          go_wp2_with (at_builtin; go_loud (refine wpAppOps (W0 := ((w11.alloc (.cells #[.int .i64 2, .int .i64 1000, .string ⟨#[]⟩, .slice none 0 0, .slice none 0 0, .int .i64 2, .int .i64 0, .string ⟨#[]⟩, .slice none 0 0, .slice none 0 0, .int .i64 2, .int .i64 0, .string ⟨#[]⟩, .slice none 0 0, .slice none 0 0, .int .i64 2, .int .i64 1000, .string ⟨#[]⟩, .slice none 0 0, .slice none 0 0, .int .i64 2, .int .i64 x, .string ⟨#[]⟩, .slice none 0 0, .slice none 0 0, .int .i64 2, .int .i64 y, .string ⟨#[]⟩, .slice none 0 0, .slice none 0 0] 38)).alloc (.cells #[.string ⟨#[99, 109]⟩, .slice (some ⟨w11.heap.size, 0, none⟩) 6 6] 41))) rfl _ _ rfl (d + 2) L t ⟨#[99, 109]⟩ (opM x y).2 (.slice (some ⟨w11.heap.size, 0, none⟩) 6 6) (by rw [HZ.out]; rfl) rfl O12.out (by show 2 ≤ maxLen; unfold maxLen; omega) R12.out hl ?_); intro v13 w13 hO13 hb13)
          have B13 := hid (chn0 B12.out hb13)
          have M13 := hid (kept_below M12.out hb13)
          have G13 := hid (G12.out.later hb13)
          have O13 := hid hO13
          clear hb13 hO13 B12 M12 G12 O12 R12 HZ
          go_at_call 10
          refine (page_named O13.out (GoodL.cons_opM HGD.out) M13.out (fun n hn => (HNA.out n hn).later B13.out) (HGT.out.2.below B13.out) HSP.out).mono ?_
          rintro e w14 ⟨he, hb14⟩
          have B14 := hid (chn0 B13.out hb14)
          have G14 := hid (G13.out.later hb14)
          have HP9 := hid (page_9 HR.out)
          have HS := hid (shift_plain HX.out.1 HX.out.2 (sgN N) (ffN N) L p HR.out)
          clear hb14 B13 M13 G13 O13
          rcases HS.out with hr | hr | hr
          · rw [show pageR (sgN N) (ffN N) ((⟨#[99, 109]⟩, (opM x y).2) :: L) = .ok (mvP x y p) from hr] at he
            obtain ⟨hp2, tH, Bh, rfl, _, hown2⟩ := he
            obtain ⟨al2, cH, rfl, hgl2⟩ := own_gl hown2
            have H14 := hid hgl2
            have el : (mvP x y p).out.length = p.out.length := by show (p.out.map _).length = _; rw [List.length_map]
            rw [el]
            have HE := hid hr
            clear hgl2 hown2 hr hp2 el
            obtain ⟨n, hn⟩ : ∃ n, p.out.length = n := ⟨_, rfl⟩
            rw [hn]
            have hx2 := HX.out
            go_wp2_with fail
            go_loopw [17] (fun i wr => ∃ q : Nat, i = .int .i64 q ∧ q ≤ n ∧ Below w14.heap.size w14 wr) (fun i _ => n - (intOf i).toNat)
            case atStart => exact ⟨0, rfl, Nat.zero_le _, Below.refl _ _⟩
            case round =>
              obtain ⟨q, rfl, hq, hB⟩ := hrel
              by_cases hql : q < n
              · have hql' : (q : Int) < n := by omega
                have hqo : q < p.out.length := by omega
                obtain ⟨b, off, rfl, hbl, g⟩ := (G14.out.later hB) q p.out[q] (List.getElem?_eq_getElem hqo)
                obtain ⟨b', off', rfl, hbl', k⟩ := (H14.out.later hB) q (mvG x y p.out[q]) (by show (p.out.map _)[q]? = _; rw [List.getElem?_map, List.getElem?_eq_getElem hqo]; rfl)
                obtain ⟨⟨a1, a2⟩, ⟨a3, a4⟩, ⟨a5, a6⟩, ⟨a7, a8⟩, ⟨a9, a10⟩, _, _, ⟨a11, a12⟩⟩ := HP9.out p.out[q] (List.getElem_mem hqo)
                generalize p.out[q] = z at *
                have r1 : IntKind.i64.wrap (z.ax + x) = z.ax + x := by rw [IntKind.wrap_i64]; omega
                have r2 : IntKind.i64.wrap (z.ay + y) = z.ay + y := by rw [IntKind.wrap_i64]; omega
                have r3 : IntKind.i64.wrap (z.ex + x) = z.ex + x := by rw [IntKind.wrap_i64]; omega
                have r4 : IntKind.i64.wrap (z.ey + y) = z.ey + y := by rw [IntKind.wrap_i64]; omega
                have r5 : IntKind.i64.wrap (z.x0 + x) = z.x0 + x := by rw [IntKind.wrap_i64]; omega
                have r6 : IntKind.i64.wrap (z.y1 + y) = z.y1 + y := by rw [IntKind.wrap_i64]; omega
                clear a1 a2 a3 a4 a5 a6 a7 a8 a9 a10 a11 a12
                have g0 := g 0 _ rfl
                have g1 := g 1 _ rfl
                have g2 := g 2 _ rfl
                have g3 := g 3 _ rfl
                have g4 := g 4 _ rfl
                have g5 := g 5 _ rfl
                have g6 := g 6 _ rfl
                have g7 := g 7 _ rfl
                have g8 := g 8 _ rfl
                have g9 := g 9 _ rfl
                have k0 := k 0 _ rfl
                have k1 := k 1 _ rfl
                have k2 := k 2 _ rfl
                have k3 := k 3 _ rfl
                have k4 := k 4 _ rfl
                have k5 := k 5 _ rfl
                have k6 := k 6 _ rfl
                have k7 := k 7 _ rfl
                have k8 := k 8 _ rfl
                have k9 := k 9 _ rfl
                simp only [Nat.add_zero, mvG] at g0 k0 k1 k2 k3 k4 k5 k6 k7 k8 k9
                clear g k hx2
                go_wp2_with fail
                go_roundw
                case rel => exact ⟨q + 1, by go_num, by omega, chn0 hB (by go_grown)⟩
                case measure => simp [intOf]; omega
              · have hql' : ¬ (q : Int) < n := by omega
                go_wp2_with fail
                go_ret
                exact ⟨rfl, chn0 B14.out hB⟩
          · rw [show pageR (sgN N) (ffN N) ((⟨#[99, 109]⟩, (opM x y).2) :: L) = .error 1 from hr] at he
            subst he
            go_wp2_with (go_at_call 12; refine (numb_err _ _).mono ?_; rintro e w15 ⟨rfl, rfl⟩)
            go_ret
            exact ⟨rfl, B14.out⟩
          · rw [show pageR (sgN N) (ffN N) ((⟨#[99, 109]⟩, (opM x y).2) :: L) = .error 2 from hr] at he
            subst he
            go_wp2_with (go_at_call 12; refine (numb_err _ _).mono ?_; rintro e w15 ⟨rfl, rfl⟩)
            go_ret
            exact ⟨rfl, B14.out⟩
end Go.Proofs.YtobpidmlgldnmaaGreatDoor
