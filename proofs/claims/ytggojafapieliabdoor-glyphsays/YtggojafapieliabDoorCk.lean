/-
  What is wrong with spans, and a code's text: the answer's.
-/
import Derived.Test.YtggojafapieliabDoorCj
namespace Go.Proofs.YtggojafapieliabDoor
open Go.RowKit
set_option maxRecDepth 100000
attribute [local go_sem ↓] Go.wp_at_zero Go.wp_at_succ

theorem may_not_none {l : List UInt8} {k : Nat} (h : rns l = none) : ¬ mayT l k := fun q => by have := q.2; rw [goOn_bad h] at this; cases this
theorem may_not_nil {s : ByteArray} {k : Nat} (h : s.size = 0) : ¬ mayT s.data.toList k := fun q => by
  have e : s.data.toList = [] := List.eq_nil_of_length_eq_zero (by simpa using h)
  have := q.2
  rw [e] at this
  cases this
theorem may_not_long {s : ByteArray} {k : Nat} (h : 40 < s.size) : ¬ mayT s.data.toList k := fun q => by
  have := q.1
  have e : s.data.toList.length = s.size := by simp
  omega
set_option maxHeartbeats 4000000 in
theorem rFault_false (l : List Sp) (al : Option Addr) (cap : Nat) (w : World) (hl : l.length ≤ 300) (hA : SpAt w al l) (hx : ∀ x ∈ l, x.s.size ≤ 60) (F : Int) (hF : sFault 255 (-1) l = F) :
    Calls Tryd.prog 28 #[.slice al l.length cap, .bool false] w fun e w' => e = .returned (.int .i64 F) ∧ Below w.heap.size w w' := by
  have h3' : ¬ (300 : Int) < l.length := by omega
  have HA := hid hA
  have HX := hid hx
  have HF := hid hF
  clear hA hx hF
  go_enter Tryd.func28, Tryd.ntmps28
  go_wp2_with fail
  go_loopw [6] (fun i wr => ∃ (p : Nat) (y : Int), i = .int .i64 p ∧ p ≤ l.length ∧ Hid ((p = 0 ∧ y = -1) ∨ ∃ q z, p = q + 1 ∧ l[q]? = some z ∧ y = z.t) ∧ Hid (sFault 255 y (l.drop p) = F) ∧ Below w.heap.size w wr) (fun i _ => l.length - (intOf i).toNat)
  case atStart => exact ⟨0, -1, rfl, Nat.zero_le _, .inl ⟨rfl, rfl⟩, by rw [List.drop_zero]; exact HF, Below.refl _ _⟩
  case round =>
    obtain ⟨p, y, rfl, hp, HP, HY, hB⟩ := hrel
    by_cases hpl : p < l.length
    · have hpl' : (p : Int) < l.length := by omega
      have HLX := hid (List.getElem?_eq_getElem hpl)
      have h60 := HX.out l[p] (List.getElem_mem hpl)
      obtain ⟨b, off, rfl, hbl, g0, g1, g2, ⟨f0, f1⟩, ⟨t0, t1⟩, hs⟩ := (HA.out.later hB) p l[p] (List.getElem?_eq_getElem hpl)
      have hd : l.drop p = l[p] :: l.drop (p + 1) := List.drop_eq_getElem_cons hpl
      have HY2 := HY.out
      rw [hd] at HY2
      clear hd HY hs
      generalize l[p] = x at *
      by_cases c1 : x.f < 0
      · rw [sFault_1 (.inl c1)] at HY2
        subst HY2
        go_wp2_with fail
        go_ret
        exact ⟨rfl, chn' hB (by go_grown)⟩
      by_cases c2 : 255 < x.t
      · rw [sFault_1 (.inr c2)] at HY2
        subst HY2
        go_wp2_with fail
        go_ret
        exact ⟨rfl, chn' hB (by go_grown)⟩
      have hn : ¬ (x.f < 0 ∨ 255 < x.t) := fun q => q.elim c1 c2
      have HY3 := hid HY2
      have HN := hid hn
      clear hn HY2
      go_wp2_with (go_at_call 55; fail)
      go_at_call 55
      refine (runes_says x.s _ (by omega)).mono ?_
      rintro e w2 ⟨hcase, hb2⟩
      obtain ⟨vr, ok, he, HOK⟩ : ∃ (vr : Value) (ok : Bool), e = .returned (.tuple #[vr, .bool ok]) ∧ Hid (ok = decide (rns x.s.data.toList ≠ none)) := by
        rcases hcase with ⟨q1, q2⟩ | ⟨rs, v, q1, q2, _⟩
        · exact ⟨_, _, q2, by rw [q1]; rfl⟩
        · exact ⟨_, _, q2, by rw [q1]; rfl⟩
      subst he
      have hB2 : Below w.heap.size w w2 := chn' hB (chn' (by go_grown) hb2)
      have hX := At.later (At.new wr #[.int .i64 x.f, .int .i64 x.t, .string x.s] 36 rfl) hb2
      have hbl2 : b < w2.heap.size := Nat.lt_of_lt_of_le hbl (Nat.le_trans (by simp) hb2.size)
      have x0 := hX.cell 0
      have x1 := hX.cell 1
      have x2 := hX.cell 2
      have xl := hX.lt
      simp at x0 x1 x2
      clear hcase hb2 g0 g1 g2
      go_upto_region 13 with fail
      go_cut [75] from 41 to 75 (fun t wx => t = .bool (decide (x.t < x.f ∨ x.f ≤ y ∨ rns x.s.data.toList = none ∨ x.s.size = 0 ∨ 40 < x.s.size)) ∧ At wx wr.heap.size 36 #[.int .i64 x.f, .int .i64 x.t, .string x.s] ∧ Below w.heap.size w wx)
      case first =>
        have hT := toListNil x.s
        by_cases c3 : x.t < x.f
        · have D := hid (decide_eq_true (show (x.t < x.f ∨ x.f ≤ y ∨ rns x.s.data.toList = none ∨ x.s.size = 0 ∨ 40 < x.s.size) from .inl c3))
          go_region
          all_goals
            go_wp2_with fail
            go_meet
            case rel => exact ⟨congrArg Value.bool D.out.symm, hX, by first | exact hB2 | exact hB2.drew⟩
        rcases HP.out with ⟨rfl, rfl⟩ | ⟨q, z, rfl, hq, rfl⟩
        · have c4 : ¬ x.f ≤ -1 := by omega
          cases ok with
          | false =>
            have hrn : rns x.s.data.toList = none := Classical.byContradiction fun q => by have := HOK.out; rw [decide_eq_true q] at this; cases this
            have D := hid (decide_eq_true (show (x.t < x.f ∨ x.f ≤ -1 ∨ rns x.s.data.toList = none ∨ x.s.size = 0 ∨ 40 < x.s.size) from .inr (.inr (.inl hrn))))
            clear hrn
            go_region
            all_goals
              go_wp2_with fail
              go_meet
              case rel => exact ⟨congrArg Value.bool D.out.symm, hX, by first | exact hB2 | exact hB2.drew⟩
          | true =>
            have hrn : rns x.s.data.toList ≠ none := fun q => by have := HOK.out; rw [q] at this; cases this
            by_cases c6 : x.s.size = 0
            · have hie : x.s.toList.isEmpty = true := by rw [hT.2 c6]; rfl
              have D := hid (decide_eq_true (show (x.t < x.f ∨ x.f ≤ -1 ∨ rns x.s.data.toList = none ∨ x.s.size = 0 ∨ 40 < x.s.size) from .inr (.inr (.inr (.inl c6)))))
              clear hrn hT
              go_region
              all_goals
                go_wp2_with fail
                go_meet
                case rel => exact ⟨congrArg Value.bool D.out.symm, hX, by first | exact hB2 | exact hB2.drew⟩
            have hie : x.s.toList.isEmpty = false := by cases hh : x.s.toList with
              | nil => exact absurd (hT.1 hh) c6
              | cons a l => rfl
            by_cases c7 : 40 < x.s.size
            · have c7' : (40 : Int) < x.s.size := by omega
              have D := hid (decide_eq_true (show (x.t < x.f ∨ x.f ≤ -1 ∨ rns x.s.data.toList = none ∨ x.s.size = 0 ∨ 40 < x.s.size) from .inr (.inr (.inr (.inr c7)))))
              clear hrn hT c6
              go_region
              all_goals
                go_wp2_with fail
                go_meet
                case rel => exact ⟨congrArg Value.bool D.out.symm, hX, by first | exact hB2 | exact hB2.drew⟩
            have c7' : ¬ (40 : Int) < x.s.size := by omega
            have hno : ¬ (x.t < x.f ∨ x.f ≤ -1 ∨ rns x.s.data.toList = none ∨ x.s.size = 0 ∨ 40 < x.s.size) := fun q => by
              rcases q with q | q | q | q | q
              · exact c3 q
              · exact c4 q
              · exact hrn q
              · exact c6 q
              · exact c7 q
            have D := hid (decide_eq_false (show ¬ (x.t < x.f ∨ x.f ≤ -1 ∨ rns x.s.data.toList = none ∨ x.s.size = 0 ∨ 40 < x.s.size) from hno))
            clear hrn hT c6 hno
            go_region
            all_goals
              go_wp2_with fail
              go_meet
              case rel => exact ⟨congrArg Value.bool D.out.symm, hX, by first | exact hB2 | exact hB2.drew⟩
        · obtain ⟨b', off', e, _, _, y1, _, _, _, _⟩ := (HA.out.later hB2) q z hq
          injection e with e
          injection e with e1 e2
          subst e1
          subst e2
          have hq1 : (0 : Int) < ((q + 1 : Nat) : Int) := by omega
          by_cases c4 : x.f ≤ z.t
          · have D := hid (decide_eq_true (show (x.t < x.f ∨ x.f ≤ z.t ∨ rns x.s.data.toList = none ∨ x.s.size = 0 ∨ 40 < x.s.size) from .inr (.inl c4)))
            go_region
            all_goals
              go_wp2_with fail
              go_meet
              case rel => exact ⟨congrArg Value.bool D.out.symm, hX, by first | exact hB2 | exact hB2.drew⟩
          cases ok with
          | false =>
            have hrn : rns x.s.data.toList = none := Classical.byContradiction fun q => by have := HOK.out; rw [decide_eq_true q] at this; cases this
            have D := hid (decide_eq_true (show (x.t < x.f ∨ x.f ≤ z.t ∨ rns x.s.data.toList = none ∨ x.s.size = 0 ∨ 40 < x.s.size) from .inr (.inr (.inl hrn))))
            clear hrn
            go_region
            all_goals
              go_wp2_with fail
              go_meet
              case rel => exact ⟨congrArg Value.bool D.out.symm, hX, by first | exact hB2 | exact hB2.drew⟩
          | true =>
            have hrn : rns x.s.data.toList ≠ none := fun q => by have := HOK.out; rw [q] at this; cases this
            by_cases c6 : x.s.size = 0
            · have hie : x.s.toList.isEmpty = true := by rw [hT.2 c6]; rfl
              have D := hid (decide_eq_true (show (x.t < x.f ∨ x.f ≤ z.t ∨ rns x.s.data.toList = none ∨ x.s.size = 0 ∨ 40 < x.s.size) from .inr (.inr (.inr (.inl c6)))))
              clear hrn hT
              go_region
              all_goals
                go_wp2_with fail
                go_meet
                case rel => exact ⟨congrArg Value.bool D.out.symm, hX, by first | exact hB2 | exact hB2.drew⟩
            have hie : x.s.toList.isEmpty = false := by cases hh : x.s.toList with
              | nil => exact absurd (hT.1 hh) c6
              | cons a l => rfl
            by_cases c7 : 40 < x.s.size
            · have c7' : (40 : Int) < x.s.size := by omega
              have D := hid (decide_eq_true (show (x.t < x.f ∨ x.f ≤ z.t ∨ rns x.s.data.toList = none ∨ x.s.size = 0 ∨ 40 < x.s.size) from .inr (.inr (.inr (.inr c7)))))
              clear hrn hT c6
              go_region
              all_goals
                go_wp2_with fail
                go_meet
                case rel => exact ⟨congrArg Value.bool D.out.symm, hX, by first | exact hB2 | exact hB2.drew⟩
            have c7' : ¬ (40 : Int) < x.s.size := by omega
            have hno : ¬ (x.t < x.f ∨ x.f ≤ z.t ∨ rns x.s.data.toList = none ∨ x.s.size = 0 ∨ 40 < x.s.size) := fun q => by
              rcases q with q | q | q | q | q
              · exact c3 q
              · exact c4 q
              · exact hrn q
              · exact c6 q
              · exact c7 q
            have D := hid (decide_eq_false (show ¬ (x.t < x.f ∨ x.f ≤ z.t ∨ rns x.s.data.toList = none ∨ x.s.size = 0 ∨ 40 < x.s.size) from hno))
            clear hrn hT c6 hno
            go_region
            all_goals
              go_wp2_with fail
              go_meet
              case rel => exact ⟨congrArg Value.bool D.out.symm, hX, by first | exact hB2 | exact hB2.drew⟩
      case rest =>
        obtain ⟨rfl, hX2, hB3⟩ := hcut
        clear x0 x1 x2 xl hX hB2 hbl2
        have x0 := hX2.cell 0
        have x1 := hX2.cell 1
        have x2 := hX2.cell 2
        have xl := hX2.lt
        simp at x0 x1 x2
        by_cases hC : x.t < x.f ∨ x.f ≤ y ∨ rns x.s.data.toList = none ∨ x.s.size = 0 ∨ 40 < x.s.size
        · have hD : decide (x.t < x.f ∨ x.f ≤ y ∨ rns x.s.data.toList = none ∨ x.s.size = 0 ∨ 40 < x.s.size) = true := decide_eq_true hC
          rw [hD]
          have h3 : F = 3 := by
            rw [← HY3.out]
            refine sFault_3 HN.out ?_
            rcases hC with q | q | q | q | q
            · exact .inl q
            · exact .inr (.inl q)
            · exact .inr (.inr (may_not_none q))
            · exact .inr (.inr (may_not_nil q))
            · exact .inr (.inr (may_not_long q))
          subst h3
          clear hC hD
          go_wp2_with fail
          go_ret
          exact ⟨rfl, hB3⟩
        · have hD : decide (x.t < x.f ∨ x.f ≤ y ∨ rns x.s.data.toList = none ∨ x.s.size = 0 ∨ 40 < x.s.size) = false := decide_eq_false hC
          rw [hD]
          obtain ⟨k, hk⟩ : ∃ k : Nat, x.t - x.f = (k : Int) := ⟨(x.t - x.f).toNat, by omega⟩
          have hkn : (x.t - x.f).toNat = k := by omega
          have hon := fun W => on_says x.s k W (by omega) (by omega)
          rw [← hk] at hon
          have hft : x.f ≤ x.t := by omega
          by_cases hm : mayT x.s.data.toList k
          · have hy : sFault 255 x.t (l.drop (p + 1)) = F := by
              rw [← HY3.out]
              exact (sFault_on HN.out (fun q => by
                rcases q with q | q | q
                · exact hC (.inl q)
                · exact hC (.inr (.inl q))
                · exact q (by rw [hkn]; exact hm))).symm
            have HY4 := hid hy
            rw [hm.2] at hon
            clear hC hD hm hy hk hkn
            go_wp2_with (go_at_call 56; go_must (refine (hon _).mono ?_); rintro e w5 ⟨rfl, hb5⟩)
            go_roundw
            case rel => exact ⟨p + 1, x.t, by go_num, by omega, .inr ⟨p, x, rfl, HLX.out, rfl⟩, HY4, chn' hB3 hb5⟩
            case measure => simp [intOf]; omega
          · have h3 : F = 3 := by
              rw [← HY3.out]
              exact sFault_3 HN.out (.inr (.inr (by rw [hkn]; exact hm)))
            subst h3
            have hgo : (goOn x.s.data.toList k).isSome = false := by
              have : ¬ (goOn x.s.data.toList k).isSome = true := fun q => hm ⟨by
                have e : x.s.data.toList.length = x.s.size := by simp
                omega, q⟩
              simpa using this
            rw [hgo] at hon
            clear hC hD hm hk hkn hgo
            go_wp2_with (go_at_call 56; go_must (refine (hon _).mono ?_); rintro e w5 ⟨rfl, hb5⟩)
            go_ret
            exact ⟨rfl, chn' hB3 hb5⟩
    · have hpl' : ¬ (p : Int) < l.length := by omega
      have h0 := HY.out
      rw [List.drop_eq_nil_of_le (by omega)] at h0
      subst h0
      go_wp2_with fail
      go_ret
      exact ⟨rfl, hB⟩
set_option maxHeartbeats 4000000 in
theorem rFault_true (l : List Sp) (al : Option Addr) (cap : Nat) (w : World) (hl : l.length ≤ 300) (hA : SpAt w al l) (hx : ∀ x ∈ l, x.s.size ≤ 60) (F : Int) (hF : sFault 65535 (-1) l = F) :
    Calls Tryd.prog 28 #[.slice al l.length cap, .bool true] w fun e w' => e = .returned (.int .i64 F) ∧ Below w.heap.size w w' := by
  have h3' : ¬ (300 : Int) < l.length := by omega
  have HA := hid hA
  have HX := hid hx
  have HF := hid hF
  clear hA hx hF
  go_enter Tryd.func28, Tryd.ntmps28
  go_wp2_with fail
  go_loopw [6] (fun i wr => ∃ (p : Nat) (y : Int), i = .int .i64 p ∧ p ≤ l.length ∧ Hid ((p = 0 ∧ y = -1) ∨ ∃ q z, p = q + 1 ∧ l[q]? = some z ∧ y = z.t) ∧ Hid (sFault 65535 y (l.drop p) = F) ∧ Below w.heap.size w wr) (fun i _ => l.length - (intOf i).toNat)
  case atStart => exact ⟨0, -1, rfl, Nat.zero_le _, .inl ⟨rfl, rfl⟩, by rw [List.drop_zero]; exact HF, Below.refl _ _⟩
  case round =>
    obtain ⟨p, y, rfl, hp, HP, HY, hB⟩ := hrel
    by_cases hpl : p < l.length
    · have hpl' : (p : Int) < l.length := by omega
      have HLX := hid (List.getElem?_eq_getElem hpl)
      have h60 := HX.out l[p] (List.getElem_mem hpl)
      obtain ⟨b, off, rfl, hbl, g0, g1, g2, ⟨f0, f1⟩, ⟨t0, t1⟩, hs⟩ := (HA.out.later hB) p l[p] (List.getElem?_eq_getElem hpl)
      have hd : l.drop p = l[p] :: l.drop (p + 1) := List.drop_eq_getElem_cons hpl
      have HY2 := HY.out
      rw [hd] at HY2
      clear hd HY hs
      generalize l[p] = x at *
      by_cases c1 : x.f < 0
      · rw [sFault_1 (.inl c1)] at HY2
        subst HY2
        go_wp2_with fail
        go_ret
        exact ⟨rfl, chn' hB (by go_grown)⟩
      by_cases c2 : 65535 < x.t
      · rw [sFault_1 (.inr c2)] at HY2
        subst HY2
        go_wp2_with fail
        go_ret
        exact ⟨rfl, chn' hB (by go_grown)⟩
      have hn : ¬ (x.f < 0 ∨ 65535 < x.t) := fun q => q.elim c1 c2
      have HY3 := hid HY2
      have HN := hid hn
      clear hn HY2
      go_wp2_with (go_at_call 55; fail)
      go_at_call 55
      refine (runes_says x.s _ (by omega)).mono ?_
      rintro e w2 ⟨hcase, hb2⟩
      obtain ⟨vr, ok, he, HOK⟩ : ∃ (vr : Value) (ok : Bool), e = .returned (.tuple #[vr, .bool ok]) ∧ Hid (ok = decide (rns x.s.data.toList ≠ none)) := by
        rcases hcase with ⟨q1, q2⟩ | ⟨rs, v, q1, q2, _⟩
        · exact ⟨_, _, q2, by rw [q1]; rfl⟩
        · exact ⟨_, _, q2, by rw [q1]; rfl⟩
      subst he
      have hB2 : Below w.heap.size w w2 := chn' hB (chn' (by go_grown) hb2)
      have hX := At.later (At.new wr #[.int .i64 x.f, .int .i64 x.t, .string x.s] 36 rfl) hb2
      have hbl2 : b < w2.heap.size := Nat.lt_of_lt_of_le hbl (Nat.le_trans (by simp) hb2.size)
      have x0 := hX.cell 0
      have x1 := hX.cell 1
      have x2 := hX.cell 2
      have xl := hX.lt
      simp at x0 x1 x2
      clear hcase hb2 g0 g1 g2
      go_upto_region 13 with fail
      go_cut [75] from 41 to 75 (fun t wx => t = .bool (decide (x.t < x.f ∨ x.f ≤ y ∨ rns x.s.data.toList = none ∨ x.s.size = 0 ∨ 40 < x.s.size)) ∧ At wx wr.heap.size 36 #[.int .i64 x.f, .int .i64 x.t, .string x.s] ∧ Below w.heap.size w wx)
      case first =>
        have hT := toListNil x.s
        by_cases c3 : x.t < x.f
        · have D := hid (decide_eq_true (show (x.t < x.f ∨ x.f ≤ y ∨ rns x.s.data.toList = none ∨ x.s.size = 0 ∨ 40 < x.s.size) from .inl c3))
          go_region
          all_goals
            go_wp2_with fail
            go_meet
            case rel => exact ⟨congrArg Value.bool D.out.symm, hX, by first | exact hB2 | exact hB2.drew⟩
        rcases HP.out with ⟨rfl, rfl⟩ | ⟨q, z, rfl, hq, rfl⟩
        · have c4 : ¬ x.f ≤ -1 := by omega
          cases ok with
          | false =>
            have hrn : rns x.s.data.toList = none := Classical.byContradiction fun q => by have := HOK.out; rw [decide_eq_true q] at this; cases this
            have D := hid (decide_eq_true (show (x.t < x.f ∨ x.f ≤ -1 ∨ rns x.s.data.toList = none ∨ x.s.size = 0 ∨ 40 < x.s.size) from .inr (.inr (.inl hrn))))
            clear hrn
            go_region
            all_goals
              go_wp2_with fail
              go_meet
              case rel => exact ⟨congrArg Value.bool D.out.symm, hX, by first | exact hB2 | exact hB2.drew⟩
          | true =>
            have hrn : rns x.s.data.toList ≠ none := fun q => by have := HOK.out; rw [q] at this; cases this
            by_cases c6 : x.s.size = 0
            · have hie : x.s.toList.isEmpty = true := by rw [hT.2 c6]; rfl
              have D := hid (decide_eq_true (show (x.t < x.f ∨ x.f ≤ -1 ∨ rns x.s.data.toList = none ∨ x.s.size = 0 ∨ 40 < x.s.size) from .inr (.inr (.inr (.inl c6)))))
              clear hrn hT
              go_region
              all_goals
                go_wp2_with fail
                go_meet
                case rel => exact ⟨congrArg Value.bool D.out.symm, hX, by first | exact hB2 | exact hB2.drew⟩
            have hie : x.s.toList.isEmpty = false := by cases hh : x.s.toList with
              | nil => exact absurd (hT.1 hh) c6
              | cons a l => rfl
            by_cases c7 : 40 < x.s.size
            · have c7' : (40 : Int) < x.s.size := by omega
              have D := hid (decide_eq_true (show (x.t < x.f ∨ x.f ≤ -1 ∨ rns x.s.data.toList = none ∨ x.s.size = 0 ∨ 40 < x.s.size) from .inr (.inr (.inr (.inr c7)))))
              clear hrn hT c6
              go_region
              all_goals
                go_wp2_with fail
                go_meet
                case rel => exact ⟨congrArg Value.bool D.out.symm, hX, by first | exact hB2 | exact hB2.drew⟩
            have c7' : ¬ (40 : Int) < x.s.size := by omega
            have hno : ¬ (x.t < x.f ∨ x.f ≤ -1 ∨ rns x.s.data.toList = none ∨ x.s.size = 0 ∨ 40 < x.s.size) := fun q => by
              rcases q with q | q | q | q | q
              · exact c3 q
              · exact c4 q
              · exact hrn q
              · exact c6 q
              · exact c7 q
            have D := hid (decide_eq_false (show ¬ (x.t < x.f ∨ x.f ≤ -1 ∨ rns x.s.data.toList = none ∨ x.s.size = 0 ∨ 40 < x.s.size) from hno))
            clear hrn hT c6 hno
            go_region
            all_goals
              go_wp2_with fail
              go_meet
              case rel => exact ⟨congrArg Value.bool D.out.symm, hX, by first | exact hB2 | exact hB2.drew⟩
        · obtain ⟨b', off', e, _, _, y1, _, _, _, _⟩ := (HA.out.later hB2) q z hq
          injection e with e
          injection e with e1 e2
          subst e1
          subst e2
          have hq1 : (0 : Int) < ((q + 1 : Nat) : Int) := by omega
          by_cases c4 : x.f ≤ z.t
          · have D := hid (decide_eq_true (show (x.t < x.f ∨ x.f ≤ z.t ∨ rns x.s.data.toList = none ∨ x.s.size = 0 ∨ 40 < x.s.size) from .inr (.inl c4)))
            go_region
            all_goals
              go_wp2_with fail
              go_meet
              case rel => exact ⟨congrArg Value.bool D.out.symm, hX, by first | exact hB2 | exact hB2.drew⟩
          cases ok with
          | false =>
            have hrn : rns x.s.data.toList = none := Classical.byContradiction fun q => by have := HOK.out; rw [decide_eq_true q] at this; cases this
            have D := hid (decide_eq_true (show (x.t < x.f ∨ x.f ≤ z.t ∨ rns x.s.data.toList = none ∨ x.s.size = 0 ∨ 40 < x.s.size) from .inr (.inr (.inl hrn))))
            clear hrn
            go_region
            all_goals
              go_wp2_with fail
              go_meet
              case rel => exact ⟨congrArg Value.bool D.out.symm, hX, by first | exact hB2 | exact hB2.drew⟩
          | true =>
            have hrn : rns x.s.data.toList ≠ none := fun q => by have := HOK.out; rw [q] at this; cases this
            by_cases c6 : x.s.size = 0
            · have hie : x.s.toList.isEmpty = true := by rw [hT.2 c6]; rfl
              have D := hid (decide_eq_true (show (x.t < x.f ∨ x.f ≤ z.t ∨ rns x.s.data.toList = none ∨ x.s.size = 0 ∨ 40 < x.s.size) from .inr (.inr (.inr (.inl c6)))))
              clear hrn hT
              go_region
              all_goals
                go_wp2_with fail
                go_meet
                case rel => exact ⟨congrArg Value.bool D.out.symm, hX, by first | exact hB2 | exact hB2.drew⟩
            have hie : x.s.toList.isEmpty = false := by cases hh : x.s.toList with
              | nil => exact absurd (hT.1 hh) c6
              | cons a l => rfl
            by_cases c7 : 40 < x.s.size
            · have c7' : (40 : Int) < x.s.size := by omega
              have D := hid (decide_eq_true (show (x.t < x.f ∨ x.f ≤ z.t ∨ rns x.s.data.toList = none ∨ x.s.size = 0 ∨ 40 < x.s.size) from .inr (.inr (.inr (.inr c7)))))
              clear hrn hT c6
              go_region
              all_goals
                go_wp2_with fail
                go_meet
                case rel => exact ⟨congrArg Value.bool D.out.symm, hX, by first | exact hB2 | exact hB2.drew⟩
            have c7' : ¬ (40 : Int) < x.s.size := by omega
            have hno : ¬ (x.t < x.f ∨ x.f ≤ z.t ∨ rns x.s.data.toList = none ∨ x.s.size = 0 ∨ 40 < x.s.size) := fun q => by
              rcases q with q | q | q | q | q
              · exact c3 q
              · exact c4 q
              · exact hrn q
              · exact c6 q
              · exact c7 q
            have D := hid (decide_eq_false (show ¬ (x.t < x.f ∨ x.f ≤ z.t ∨ rns x.s.data.toList = none ∨ x.s.size = 0 ∨ 40 < x.s.size) from hno))
            clear hrn hT c6 hno
            go_region
            all_goals
              go_wp2_with fail
              go_meet
              case rel => exact ⟨congrArg Value.bool D.out.symm, hX, by first | exact hB2 | exact hB2.drew⟩
      case rest =>
        obtain ⟨rfl, hX2, hB3⟩ := hcut
        clear x0 x1 x2 xl hX hB2 hbl2
        have x0 := hX2.cell 0
        have x1 := hX2.cell 1
        have x2 := hX2.cell 2
        have xl := hX2.lt
        simp at x0 x1 x2
        by_cases hC : x.t < x.f ∨ x.f ≤ y ∨ rns x.s.data.toList = none ∨ x.s.size = 0 ∨ 40 < x.s.size
        · have hD : decide (x.t < x.f ∨ x.f ≤ y ∨ rns x.s.data.toList = none ∨ x.s.size = 0 ∨ 40 < x.s.size) = true := decide_eq_true hC
          rw [hD]
          have h3 : F = 3 := by
            rw [← HY3.out]
            refine sFault_3 HN.out ?_
            rcases hC with q | q | q | q | q
            · exact .inl q
            · exact .inr (.inl q)
            · exact .inr (.inr (may_not_none q))
            · exact .inr (.inr (may_not_nil q))
            · exact .inr (.inr (may_not_long q))
          subst h3
          clear hC hD
          go_wp2_with fail
          go_ret
          exact ⟨rfl, hB3⟩
        · have hD : decide (x.t < x.f ∨ x.f ≤ y ∨ rns x.s.data.toList = none ∨ x.s.size = 0 ∨ 40 < x.s.size) = false := decide_eq_false hC
          rw [hD]
          obtain ⟨k, hk⟩ : ∃ k : Nat, x.t - x.f = (k : Int) := ⟨(x.t - x.f).toNat, by omega⟩
          have hkn : (x.t - x.f).toNat = k := by omega
          have hon := fun W => on_says x.s k W (by omega) (by omega)
          rw [← hk] at hon
          have hft : x.f ≤ x.t := by omega
          by_cases hm : mayT x.s.data.toList k
          · have hy : sFault 65535 x.t (l.drop (p + 1)) = F := by
              rw [← HY3.out]
              exact (sFault_on HN.out (fun q => by
                rcases q with q | q | q
                · exact hC (.inl q)
                · exact hC (.inr (.inl q))
                · exact q (by rw [hkn]; exact hm))).symm
            have HY4 := hid hy
            rw [hm.2] at hon
            clear hC hD hm hy hk hkn
            go_wp2_with (go_at_call 56; go_must (refine (hon _).mono ?_); rintro e w5 ⟨rfl, hb5⟩)
            go_roundw
            case rel => exact ⟨p + 1, x.t, by go_num, by omega, .inr ⟨p, x, rfl, HLX.out, rfl⟩, HY4, chn' hB3 hb5⟩
            case measure => simp [intOf]; omega
          · have h3 : F = 3 := by
              rw [← HY3.out]
              exact sFault_3 HN.out (.inr (.inr (by rw [hkn]; exact hm)))
            subst h3
            have hgo : (goOn x.s.data.toList k).isSome = false := by
              have : ¬ (goOn x.s.data.toList k).isSome = true := fun q => hm ⟨by
                have e : x.s.data.toList.length = x.s.size := by simp
                omega, q⟩
              simpa using this
            rw [hgo] at hon
            clear hC hD hm hk hkn hgo
            go_wp2_with (go_at_call 56; go_must (refine (hon _).mono ?_); rintro e w5 ⟨rfl, hb5⟩)
            go_ret
            exact ⟨rfl, chn' hB3 hb5⟩
    · have hpl' : ¬ (p : Int) < l.length := by omega
      have h0 := HY.out
      rw [List.drop_eq_nil_of_le (by omega)] at h0
      subst h0
      go_wp2_with fail
      go_ret
      exact ⟨rfl, hB⟩
theorem rFault_sp (l : List Sp) (wide : Bool) (al : Option Addr) (cap : Nat) (w : World) (hA : SpAt w al l) (hx : ∀ x ∈ l, x.s.size ≤ 60) :
    Calls Tryd.prog 28 #[.slice al l.length cap, .bool wide] w fun e w' => e = .returned (.int .i64 (spFault l wide)) ∧ Below w.heap.size w w' := by
  by_cases h3 : 300 < l.length
  · have h3' : (300 : Int) < l.length := by omega
    have hf : spFault l wide = 2 := by unfold spFault; rw [if_pos h3]
    rw [hf]

    go_enter Tryd.func28, Tryd.ntmps28
    go_wp2
    go_ret
    exact ⟨rfl, Below.refl _ _⟩
  have hf : spFault l wide = sFault (mostOf wide) (-1) l := by unfold spFault; rw [if_neg h3]
  rw [hf]
  cases wide
  · exact rFault_false l al cap w (by omega) hA hx _ rfl
  · exact rFault_true l al cap w (by omega) hA hx _ rfl
end Go.Proofs.YtggojafapieliabDoor
