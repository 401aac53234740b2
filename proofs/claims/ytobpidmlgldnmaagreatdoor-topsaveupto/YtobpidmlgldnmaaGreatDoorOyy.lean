/-
  Joined: Jx, Oy.
-/
import Derived.Test.YtobpidmlgldnmaaGreatDoorRows
import Derived.Test.YtobpidmlgldnmaaGreatDoorFa
import Derived.RowKit
import Derived.IntWalk
import Derived.WalkKit
import Derived.WalkSpells
import Derived.WalkLawsBesides
import Derived.Handy
import Derived.Test.YtobpidmlgldnmaaGreatDoorPt
import Derived.Deep.QuietTactic
import Derived.BigQuiet
import Derived.BigRegion
import Derived.Lib.ItoaMem
import Derived.Lib.Bytealg
import Derived.Lib.ItoaLen
import Derived.Test.YtobpidmlgldnmaaGreatDoorShelf
import Derived.Test.YtobpidmlgldnmaaGreatDoorFe
import Derived.Lib.IndexMore
import Derived.PlainAid
import Derived.Test.YtobpidmlgldnmaaGreatDoorFh
import Derived.Lib.SmallJoins
import Derived.Test.YtobpidmlgldnmaaGreatDoorKb
import Derived.Laws.Rows
import Derived.Laws.Tables
import Derived.Test.YtobpidmlgldnmaaGreatDoorRa
import Derived.Test.YtobpidmlgldnmaaGreatDoorYa
import Derived.Deep.CutRange
import Derived.Deep.RegionWith
import Derived.Test.YtobpidmlgldnmaaGreatDoorAq
import Derived.Lib.OthersKept
import Derived.Lib.AppendStr
import Derived.Maps.AppendAt
import Derived.RegionTactic
import Derived.Laws.OwnMore
import Derived.OneCell
import Derived.Test.YtobpidmlgldnmaaGreatDoorJjy
import Derived.Test.YtobpidmlgldnmaaGreatDoorVh
import Derived.ProofKit
import Derived.Deep.Slices
import Derived.Deep.CutBlock
import Derived.Test.YtobpidmlgldnmaaGreatDoorYd
import Derived.Deep.RegionLaw
import Derived.Deep.DrawnRows
import Derived.Test.YtobpidmlgldnmaaGreatDoorYg
import Derived.Test.YtobpidmlgldnmaaGreatDoorYj
import Derived.Test.YtobpidmlgldnmaaGreatDoorVe
import Derived.Lib.AtoiAllCases
import Derived.Lib.ItoaNum
import Derived.Lib.AtoiErrMem
import Derived.Test.YtobpidmlgldnmaaGreatDoorVy
import Derived.Deep.RegionHeld3
import Derived.Laws.EntriesVeiled
import Derived.Test.YtobpidmlgldnmaaGreatDoorVc3
import Derived.Deep.AppendLies
import Derived.Deep.LoopGhost
import Derived.WalkSmall
import Derived.Test.YtobpidmlgldnmaaGreatDoorVd3
import Derived.Test.YtobpidmlgldnmaaGreatDoorYm
import Derived.Test.YtobpidmlgldnmaaGreatDoorYp
import Derived.Test.YtobpidmlgldnmaaGreatDoorVe1
import Derived.Shelf.Spec.SlicesInsert
import Derived.Shelf.Spec.SlicesInsertGrow
import Derived.Test.YtobpidmlgldnmaaGreatDoorYt
import Derived.Test.YtobpidmlgldnmaaGreatDoorYua
import Derived.Test.YtobpidmlgldnmaaGreatDoorYx
import Derived.Test.YtobpidmlgldnmaaGreatDoorVj
import Derived.Test.YtobpidmlgldnmaaGreatDoorYy
import Derived.Test.YtobpidmlgldnmaaGreatDoorCb
import Derived.Lib.ValidLaws
import Derived.Lib.MapLaws
import Derived.Lib.RuneBytes
import Derived.Test.YtobpidmlgldnmaaGreatDoorCp
import Derived.Lib.LaidU8
import Derived.PinnedBridge
import Derived.Test.YtobpidmlgldnmaaGreatDoorAm
import Derived.Laws.IdiomStrings
import Derived.Lib.FrozenHead
import Derived.Test.YtobpidmlgldnmaaGreatDoorGc
import Derived.Laws.BitsLemmas
import Derived.Maps.OwnSet
import Derived.Maps.OwnOps
import Derived.Carry
import Derived.Test.YtobpidmlgldnmaaGreatDoorCe
import Derived.Test.YtobpidmlgldnmaaGreatDoorGh
import Derived.Lib.SlTrimSet
import Derived.Maps.StringElems
import Derived.WideKeyElems2
import Derived.Laws.IdiomRangeMap
import Derived.Test.YtobpidmlgldnmaaGreatDoorCh
import Derived.Laws.DeepBits32
import Derived.Test.YtobpidmlgldnmaaGreatDoorCk
import Derived.Test.YtobpidmlgldnmaaGreatDoorOc
import Derived.Maps.RangeWalk
import Derived.LoopN
import Derived.Test.YtobpidmlgldnmaaGreatDoorVo
import Derived.Lib.AppendIntMem
import Derived.Test.YtobpidmlgldnmaaGreatDoorOe
import Derived.Test.YtobpidmlgldnmaaGreatDoorOh
import Derived.Test.YtobpidmlgldnmaaGreatDoorGf
import Derived.Test.YtobpidmlgldnmaaGreatDoorMb
import Derived.Deep.AppendSrc
import Derived.Test.YtobpidmlgldnmaaGreatDoorIb
import Derived.Deep.MidRow
import Derived.OwnWalk
import Derived.Test.YtobpidmlgldnmaaGreatDoorIl
import Derived.Test.YtobpidmlgldnmaaGreatDoorIs
import Derived.Test.YtobpidmlgldnmaaGreatDoorIn
import Derived.Test.YtobpidmlgldnmaaGreatDoorIv
import Derived.Test.YtobpidmlgldnmaaGreatDoorIk
import Derived.Test.YtobpidmlgldnmaaGreatDoorIp
import Derived.Test.YtobpidmlgldnmaaGreatDoorIh
import Derived.Test.YtobpidmlgldnmaaGreatDoorJa
import Derived.Test.YtobpidmlgldnmaaGreatDoorJd
import Derived.Lib.Builder
import Derived.Lib.Walk
import Derived.Laws.Externs
import Derived.Lib.UnsafeStr
import Derived.Test.YtobpidmlgldnmaaGreatDoorJf
import Derived.Test.YtobpidmlgldnmaaGreatDoorTie
import Derived.Test.YtobpidmlgldnmaaGreatDoorCards
import Derived.OpenShut
import Derived.Deep.DeepHandedRow
import Derived.Lib.LaidTab
import Derived.Shelf.Vars
import Derived.Stop.LaidErr

/-
  What is done between saving and taking back changes nothing behind it: the law.
-/
namespace Go.Proofs.YtobpidmlgldnmaaGreatDoor
open Go.RowKit
set_option maxRecDepth 100000

theorem dAll_step {M : List OpP} {p : Nat} (h : p < M.length) : dAll (M.take (p + 1)) = dAll (M.take p) + dOf M[p].1 := by
  unfold dAll
  rw [List.take_succ_eq_append_getElem h, List.map_append, List.sum_append]
  simp
theorem iAll_step {M : List OpP} {p : Nat} (h : p < M.length) : iAll false (M.take (p + 1)) = iOf (iAll false (M.take p)) M[p].1 := by
  unfold iAll
  rw [List.take_succ_eq_append_getElem h, List.foldl_append]
  rfl
theorem d_q : dOf ⟨#[113]⟩ = 1 := by unfold dOf; rw [if_pos rfl]
theorem d_Q : dOf ⟨#[81]⟩ = -1 := by unfold dOf; rw [if_neg (by decide), if_pos rfl]
theorem i_BT (i : Bool) : iOf i ⟨#[66, 84]⟩ = true := by unfold iOf; rw [if_pos rfl]
theorem i_ET (i : Bool) : iOf i ⟨#[69, 84]⟩ = false := by unfold iOf; rw [if_neg (by decide), if_pos rfl]
theorem NmsAt.all2 {w : World} {t : Value} {N : List Nm} (h : NmsAt w t N) : ∀ n ∈ N, NmIn w n := fun n hn => by
  obtain ⟨a, c, _, _, hx⟩ := h
  obtain ⟨k, hk⟩ := List.getElem?_of_mem hn
  obtain ⟨b, off, _, _, _, _, _, _, _, _, q⟩ := hx k n hk
  exact q
/-- What a page's call answers, either way. -/
def PgE (tG er : Value) (w' : World) (r : Ex PS) : Prop := (∃ k, er = .iface 68 (.int .i64 k)) ∨ (er = .nilIface ∧ ∃ p al c, r = .ok p ∧ p.out.length ≤ 1000 ∧ tG = .slice al p.out.length c ∧ GlAt w' al p.out)
theorem page_either {d mb : Nat} {L : List OpP} {t : Value} {N : List Nm} {w : World} (hO : OpsN d w t L) (hk : GoodL L) (hM : w.ownsMap Tryz.prog 9 heldR mb 5 (nmD N)) (hN : ∀ n ∈ N, NmIn w n) (hT : Tb w) (hf : ∀ n ∈ N, spFault n.F.l n.F.wide = 0) :
    Calls Tryz.prog 10 #[t, .map (some mb)] w fun e w' => ∃ tG er, e = .returned (.tuple #[tG, er]) ∧ PgE tG er w' (pageR (sgN N) (ffN N) L) ∧ Below w.heap.size w w' :=
  (page_says (sgN N) (ffN N) d L t (some mb) w hO hk (fun K k1 k2 => fonts_many N k2 (by rw [k1]; exact hM)) (fun K k1 s x hx => sig_many N (fun n hn => by rw [k1]; exact hN n hn) (by rw [k1]; exact hT) hf s x hx)).mono fun e w' ⟨he, hb⟩ => by
    cases hr : pageR (sgN N) (ffN N) L with
    | error k =>
      rw [hr] at he
      exact ⟨_, _, he, .inl ⟨k, rfl⟩, hb⟩
    | ok p =>
      rw [hr] at he
      obtain ⟨hp1, tG, Bg, rfl, _, hown⟩ := he
      obtain ⟨al, cG, rfl, hgl⟩ := own_gl hown
      exact ⟨_, _, rfl, .inr ⟨rfl, p, al, cG, rfl, hp1, rfl, hgl⟩, hb⟩
theorem GoodL.save {L M : List OpP} (h1 : GoodL L) (h2 : GoodL M) : GoodL ((⟨#[113]⟩, []) :: (M ++ ((⟨#[81]⟩, []) :: L))) := fun o ho => by
  rcases List.mem_cons.1 ho with rfl | ho
  · intro v hv; simp at hv
  rcases List.mem_append.1 ho with ho | ho
  · exact h2 o ho
  rcases List.mem_cons.1 ho with rfl | ho
  · intro v hv; simp at hv
  · exact h1 o ho

set_option maxHeartbeats 8000000 in
theorem topSave_any (m : Int) (d d2 : Nat) (L M : List OpP) (t t2 : Value) (N : List Nm) (tn : Value) (w : World) (hG : Gr m w) (hT : Tb w) (hO : OpsN d w t L) (hO2 : OpsN d2 w t2 M) (hl : L.length ≤ 1048576) (hl2 : M.length ≤ 1048576) (hc : ∀ o ∈ L, ∀ v ∈ o.2, v.cnt ≤ 1048576) (hc2 : ∀ o ∈ M, ∀ v ∈ o.2, v.cnt ≤ 1048576) (hN : NmsAt w tn N) :
    Calls Tryz.prog 4 #[t, t2, tn] w fun e w' => e = .returned (.bool true) ∧ Below w.heap.size w w' := by
  have HO := hid hO
  have HO2 := hid hO2
  have HNA := hid hN.all2
  have HF := hid (fonts_says N tn w hN)
  have HGT := hid (And.intro hG hT)
  have HC := hid hc
  have HC2 := hid hc2
  obtain ⟨a0, c0, ht2, _, hx⟩ := hO2
  have HX := hid hx
  subst ht2
  clear hO hN hG hT hc hc2 hx
  go_enter Tryz.func4, Tryz.ntmps4
  go_wp2_with (go_at_call 6; fail)
  go_at_call 6
  refine HF.out.mono ?_
  rintro e w1 ⟨mb, lt, rfl, hlt, hmb, hmb2, ⟨k, D, hk5, hM⟩, hb1⟩
  have HL := hid hlt
  have B1 := hid hb1
  have HM := hid hM
  clear hlt hb1 hM HF
  go_wp2_with (go_at_call 7; fail)
  go_at_call 7
  refine (shows_map m mb k D w1 (HGT.out.1.below B1.out) (HGT.out.2.below B1.out) HM.out hk5).mono ?_
  rintro e w2 ⟨rfl, hb2⟩
  have B2 := hid (chn0 B1.out hb2)
  have B12 := hid hb2
  clear hb2 HM
  cases lt with
  | false =>
    go_wp2_with fail
    go_ret
    exact ⟨rfl, B2.out⟩
  | true =>
    obtain ⟨hN5, hsp, hmap⟩ := HL.out rfl
    have HSP := hid hsp
    have HMAP := hid (kept_below hmap B12.out)
    clear hsp hmap HL B12 B1
    go_wp2_with (go_at_call 8; fail)
    go_at_call 8
    refine (good_says d L t w2 (HO.out.later B2.out) HC.out).mono ?_
    rintro e w3 ⟨he, hb3⟩
    have B3 := hid (chn0 B2.out hb3)
    have M3 := hid (kept_below HMAP.out hb3)
    clear hb3 HMAP B2
    rcases he with rfl | ⟨rfl, hgd⟩
    · go_wp2_with fail
      go_ret
      exact ⟨rfl, B3.out⟩
    · have HGD := hid hgd
      clear hgd
      go_wp2_with (go_at_call 8; fail)
      go_at_call 8
      refine (good_says d2 M _ w3 (HO2.out.later B3.out) HC2.out).mono ?_
      rintro e w4 ⟨he, hb4⟩
      have B4 := hid (chn0 B3.out hb4)
      have M4 := hid (kept_below M3.out hb4)
      clear hb4 M3 B3
      rcases he with rfl | ⟨rfl, hgd2⟩
      · go_wp2_with fail
        go_ret
        exact ⟨rfl, B4.out⟩
      · have HGD2 := hid hgd2
        clear hgd2
        go_wp2_with fail
        go_loopw [10, 11, 12] (fun vd vi vp wr => ∃ (p : Nat) (z : Int) (i : Bool), vd = .int .i64 z ∧ vi = .bool i ∧ vp = .int .i64 p ∧ p ≤ M.length ∧ (0 ≤ z ∧ z ≤ p) ∧ Hid (dAll (M.take p) = z) ∧ Hid (iAll false (M.take p) = i) ∧ Below w4.heap.size w4 wr) (fun _ _ vp _ => M.length - (intOf vp).toNat)
        case atStart => exact ⟨0, 0, false, rfl, rfl, rfl, Nat.zero_le _, by omega, hid (by simp [dAll]), hid (by simp [iAll]), Below.refl _ _⟩
        case round =>
          obtain ⟨p, z, i, rfl, rfl, rfl, hp, hz, HZ, HI, hB⟩ := hrel
          by_cases hpl : p < M.length
          · have hpl' : (p : Int) < M.length := by omega
            obtain ⟨b, off, tA, rfl, hbl, g, _, hsz, _⟩ := HX.out p M[p] (List.getElem?_eq_getElem hpl)
            have hB0 := chn0 B4.out hB
            have g := (hB0.cell (p := ⟨b, off + p * 2, none⟩) hbl).trans g
            have hb2 := Nat.lt_of_lt_of_le hbl hB0.size
            have HZ2 := hid (show dAll (M.take (p + 1)) = z + dOf M[p].1 by rw [dAll_step hpl, HZ.out])
            have HI2 := hid (show iAll false (M.take (p + 1)) = iOf i M[p].1 by rw [iAll_step hpl, HI.out])
            clear HZ HI hB0
            generalize M[p].1 = s at *
            by_cases h0 : s = ⟨#[113]⟩
            · subst h0
              go_wp2_with fail
              go_roundw
              case rel => exact ⟨p + 1, z + 1, i, by first | rfl | go_num | (congr 1; omega), rfl, by go_num, by omega, by omega, hid (by rw [HZ2.out, d_q]), hid (by rw [HI2.out, iOf_no (by decide) (by decide)]), hB⟩
              case measure => simp [intOf]; omega
            by_cases h1 : s = ⟨#[81]⟩
            · subst h1
              by_cases hz0 : z - 1 < 0
              · go_wp2_with fail
                go_ret
                exact ⟨rfl, chn0 B4.out hB⟩
              · skip
                go_wp2_with fail
                go_roundw
                case rel => exact ⟨p + 1, z - 1, i, by first | rfl | go_num | (congr 1; omega), rfl, by go_num, by omega, by omega, hid (by rw [HZ2.out, d_Q]; rfl), hid (by rw [HI2.out, iOf_no (by decide) (by decide)]), hB⟩
                case measure => simp [intOf]; omega
            have hz0 : ¬ z < 0 := by omega
            have b0 : (s.toList == [113]) = false := tl_ne h0
            have b1 : (s.toList == [81]) = false := tl_ne h1
            by_cases h2 : s = ⟨#[66, 84]⟩
            · subst h2
              clear b0 b1
              go_wp2_with fail
              go_roundw
              case rel => exact ⟨p + 1, z, true, by first | rfl | go_num | (congr 1; omega), rfl, by go_num, by omega, by omega, hid (by rw [HZ2.out, dOf_no (by decide) (by decide), Int.add_zero]), hid (by rw [HI2.out, i_BT]), hB⟩
              case measure => simp [intOf]; omega
            by_cases h3 : s = ⟨#[69, 84]⟩
            · subst h3
              clear b0 b1
              go_wp2_with fail
              go_roundw
              case rel => exact ⟨p + 1, z, false, by first | rfl | go_num | (congr 1; omega), rfl, by go_num, by omega, by omega, hid (by rw [HZ2.out, dOf_no (by decide) (by decide), Int.add_zero]), hid (by rw [HI2.out, i_ET]), hB⟩
              case measure => simp [intOf]; omega
            have b2 : (s.toList == [66, 84]) = false := tl_ne h2
            have b3 : (s.toList == [69, 84]) = false := tl_ne h3
            go_wp2_with fail
            go_roundw
            case rel => exact ⟨p + 1, z, i, by first | rfl | go_num | (congr 1; omega), rfl, by go_num, by omega, by omega, hid (by rw [HZ2.out, dOf_no h0 h1, Int.add_zero]), hid (by rw [HI2.out, iOf_no h2 h3]), hB⟩
            case measure => simp [intOf]; omega
          · have hpl' : ¬ (p : Int) < M.length := by omega
            have eM : M.take p = M := List.take_of_length_le (by omega)
            have HZ3 := hid (show dAll M = z by have := HZ.out; rw [eM] at this; exact this)
            have HI3 := hid (show iAll false M = i by have := HI.out; rw [eM] at this; exact this)
            clear HZ HI eM
            by_cases hz0 : z = 0
            · subst hz0
              cases i with
              | true =>
                go_wp2_with fail
                go_ret
                exact ⟨rfl, chn0 B4.out hB⟩
              | false =>
                have B5 := hid (chn0 B4.out hB)
                have M5 := hid (kept_below M4.out hB)
                clear B4 M4 hB
                go_wp2_with (go_at_call 10; fail)
                go_at_call 10
                refine (page_either (HO2.out.later B5.out) HGD2.out M5.out (fun n hn => (HNA.out n hn).later B5.out) (HGT.out.2.below B5.out) HSP.out).mono ?_
                rintro e w6 ⟨tA, eA, rfl, hA, hb6⟩
                have B6 := hid (chn0 B5.out hb6)
                have M6 := hid (kept_below M5.out hb6)
                have HA := hid hA
                clear hb6 hA B5 M5
                go_wp2_with (go_at_call 10; fail)
                go_at_call 10
                refine (page_either (HO.out.later B6.out) HGD.out M6.out (fun n hn => (HNA.out n hn).later B6.out) (HGT.out.2.below B6.out) HSP.out).mono ?_
                rintro e w7 ⟨tB, eB, rfl, hA, hb7⟩
                have B7 := hid (chn0 B6.out hb7)
                have M7 := hid (kept_below M6.out hb7)
                have HB7 := hid hA
                have B67 := hid hb7
                clear hb7 hA B6 M6
                obtain ⟨a1, c1, X, e1, hX, hXr, hXc⟩ := ops_cells (((HO2.out.later B7.out).mono (show d2 ≤ d + d2 + 1 by omega)))
                obtain ⟨a2, c2, Y, e2, hY, hYr, hYc⟩ := ops_cells (((HO.out.later B7.out).mono (show d ≤ d + d2 + 1 by omega)))
                injection e1 with e1 _ e1'
                subst e1 e1' e2
                have hXl : X.length = M.length := by rw [← hX, List.length_map]
                have hYl : Y.length = L.length := by rw [← hY, List.length_map]
                have HXC := hid (show ∀ W, Below w7.heap.size w7 W → ∀ (i : Nat) y, X[i]? = some y → ∃ b off, a0 = some ⟨b, off, none⟩ ∧ W.cell? ⟨b, off + i * 2, none⟩ = some (.string y.1.1) ∧ W.cell? ⟨b, off + i * 2 + 1, none⟩ = some y.2 from fun W hW i y hy => by
                  obtain ⟨b, off, e, hb, k0, k1⟩ := hXc i y hy
                  exact ⟨b, off, e, (hW.cell (p := ⟨b, off + i * 2, none⟩) hb).trans k0, (hW.cell (p := ⟨b, off + i * 2 + 1, none⟩) hb).trans k1⟩)
                have HYC := hid (show ∀ W, Below w7.heap.size w7 W → ∀ (i : Nat) y, Y[i]? = some y → ∃ b off, a2 = some ⟨b, off, none⟩ ∧ W.cell? ⟨b, off + i * 2, none⟩ = some (.string y.1.1) ∧ W.cell? ⟨b, off + i * 2 + 1, none⟩ = some y.2 from fun W hW i y hy => by
                  obtain ⟨b, off, e, hb, k0, k1⟩ := hYc i y hy
                  exact ⟨b, off, e, (hW.cell (p := ⟨b, off + i * 2, none⟩) hb).trans k0, (hW.cell (p := ⟨b, off + i * 2 + 1, none⟩) hb).trans k1⟩)
                have HXR := hid (And.intro hXr hYr)
                have HE := hid (show (([((⟨#[113]⟩, []), .slice none 0 0)] ++ X ++ [((⟨#[81]⟩, []), .slice none 0 0)]) ++ Y : List (OpP × Value)).map (·.1) = ((⟨#[113]⟩, []) :: (M ++ ((⟨#[81]⟩, []) :: L))) by simp [hX, hY])
                clear hXc hYc hXr hYr hX hY
                have q1 : (⟨#[113]⟩ : ByteArray).size ≤ maxLen := by show 1 ≤ maxLen; unfold maxLen; omega
                have q2 : (⟨#[81]⟩ : ByteArray).size ≤ maxLen := by show 1 ≤ maxLen; unfold maxLen; omega
                have HQ := hid (And.intro q1 q2)
                clear q1 q2
                have hl3 : 1 + X.length + 1 + Y.length ≤ 100000000 := by omega
                go_wp2_with (first
                  | (at_builtin; go_loud (refine wpAppO rfl _ _ rfl (d + d2 + 1) _ Y _ rfl O9.out a2 L.length c2 hYl rfl (HYC.out _ O9.out.below) HXR.out.2 (by simp; omega) ?_); intro v10 w10 h10; have O10 := hid h10; clear h10)
                  | (at_builtin; go_loud (refine wpAppO rfl _ _ rfl (d + d2 + 1) _ [((⟨#[81]⟩, []), .slice none 0 0)] _ rfl (O8.out.alloc _) (some ⟨w8.heap.size, 0, none⟩) 1 1 rfl rfl (one_op w8 _ _) (one_rep HQ.out.2) (by simp; omega) ?_); intro v9 w9 h9; have O9 := hid h9; clear h9)
                  | (at_builtin; go_loud (refine wpAppO rfl _ _ rfl (d + d2 + 1) _ X _ rfl (OwnOps.start (d := d + d2) ⟨#[113]⟩ HQ.out.1) a0 M.length c0 hXl rfl (HXC.out _ ((Below.refl _ _).alloc (Nat.le_refl _) _)) HXR.out.1 (by simp; omega) ?_); intro v8 w8 h8; have O8 := hid h8; clear h8))
                have HT7 := hid (show Below w.heap.size w w10 from chn0 B7.out O10.out.below)
                go_at_call 10
                refine (page_either (show OpsN (d + d2 + 1) w10 v10 _ from by have := O10.out.ops (by simp; omega); rw [HE.out] at this; exact this) (GoodL.save HGD.out HGD2.out) (kept_below M7.out O10.out.below) (fun n hn => (HNA.out n hn).later HT7.out) (HGT.out.2.below HT7.out) HSP.out).mono ?_
                rintro e w11 ⟨tC, eC, rfl, hA, hb11⟩
                have B11 := hid (chn0 HT7.out hb11)
                have B711 := hid (chn0 O10.out.below hb11)
                have HC11 := hid hA
                clear hb11 hA O10 O9 O8 HT7 HE HXC HYC HXR HQ M7 HSP hXl hYl hl3
                rcases HA.out with ⟨kA, rfl⟩ | ⟨rfl, pA, alA, cA, hra, hla, rfl, hga⟩
                · go_wp2_with fail
                  go_ret
                  exact ⟨rfl, B11.out⟩
                rcases HB7.out with ⟨kB, rfl⟩ | ⟨rfl, pB, alB, cB, hrb, hlb, rfl, hgb⟩
                · go_wp2_with fail
                  go_ret
                  exact ⟨rfl, B11.out⟩
                rcases HC11.out with ⟨kC, rfl⟩ | ⟨rfl, pC, alC, cC, hrc, hlc, rfl, hgc⟩
                · go_wp2_with fail
                  go_ret
                  exact ⟨rfl, B11.out⟩
                have GA := hid (hga.later (chn0 B67.out B711.out))
                have GB := hid (hgb.later B711.out)
                have GC := hid hgc
                have HP := hid (fun hb => save_plain (sgN N) (ffN N) M L pA pB pC hra hrb hrc HZ3.out HI3.out hb)
                clear hga hgb hgc hra hrb hrc HA HB7 HC11 B67 B711
                go_wp2_with (go_at_call 13; fail)
                go_at_call 13
                refine (begins_says d L _ w11 (HO.out.later B11.out) hl).mono ?_
                rintro e w12 ⟨rfl, hb12⟩
                have B12 := hid (chn0 B11.out hb12)
                have GA2 := hid (GA.out.later hb12)
                have GB2 := hid (GB.out.later hb12)
                have GC2 := hid (GC.out.later hb12)
                clear hb12 GA GB GC B11
                cases hbg : begL L with
                | false =>
                  go_wp2_with fail
                  go_ret
                  exact ⟨rfl, B12.out⟩
                | true =>
                  have HCO := hid (HP.out hbg)
                  clear HP
                  generalize pA.out = gA at *
                  generalize pB.out = gB at *
                  generalize pC.out = gC at *
                  have LA : gA.length ≤ 1000 := hla
                  have LB : gB.length ≤ 1000 := hlb
                  go_wp2_with (first
                    | (at_builtin; go_loud (refine wpAppGl rfl _ _ rfl w12.heap.size gA gB v13 rfl O13.out Z13 alB gB.length cB rfl rfl GB3.out (by omega) ?_); intro v14 w14 h14 hb14; have O14 := hid h14; have B14 := hid (show Below w12.heap.size w12 w14 from B13.out.trans hb14); clear h14 hb14)
                    | (at_builtin; go_loud (refine wpAppGl rfl _ _ rfl w12.heap.size [] gA (.slice none 0 0) rfl (World.ownsRow_nil _ _ _ _) (Nat.le_refl _) alA gA.length cA rfl rfl GA2.out (by simp only [List.length_nil]; omega) ?_); intro v13 w13 h13 hb13; rw [List.nil_append] at h13; have O13 := hid h13; have B13 := hid hb13; have GB3 := hid (GB2.out.later hb13); have GC2k := GC2; have Z13 := hb13.size; clear h13 hb13 GB2 GC2 GA2))
                  obtain ⟨al4, c4, e4, hg4⟩ := own_gl O14.out
                  rw [← HCO.out] at e4 hg4
                  subst e4
                  have G4 := hid hg4
                  have GC4 := hid (GC2k.out.later B14.out)
                  have LG : gC.length ≤ 100000 := by omega
                  clear hg4 O14
                  go_at_call 14
                  refine (same_glyphs gC alC al4 cC c4 w14 LG GC4.out G4.out).mono ?_
                  rintro e w15 ⟨rfl, hb15⟩
                  go_wp2_with fail
                  go_ret
                  exact ⟨rfl, chn0 (chn0 B12.out B14.out) hb15⟩
            · have hzb : (z == 0) = false := by simpa using hz0
              go_wp2_with fail
              go_ret
              exact ⟨rfl, chn0 B4.out hB⟩
end Go.Proofs.YtobpidmlgldnmaaGreatDoor

/-
  The row's closed facts, each by itself.
-/
namespace Go.Proofs.YtobpidmlgldnmaaGreatDoor.TopSave
open Go.ChangeShapes Go.WideShapes Go.ChangeAt Go.RowKit
set_option maxRecDepth 100000

set_option maxHeartbeats 40000000 in
theorem closed : joinedFacts Tryz.pinned.checked.prog 4 Tryz.f4 (Rows.OpenSpec.upto Rows.topSaveSpec).bare Rows.topSaveUptoRow = true := by
  unfold joinedFacts
  repeat' (with_reducible refine Bool.and_eq_true_iff.2 ⟨?_, ?_⟩)
  all_goals (as_aux_lemma => kernel_rfl)
end Go.Proofs.YtobpidmlgldnmaaGreatDoor.TopSave
