/-
  Spans in memory; what may be the text of one.
-/
import Derived.Test.YtggojafapieliabDoorShelf
import Derived.Test.YtggojafapieliabDoorCb
import Derived.Test.YtggojafapieliabDoorMh
import Derived.Test.YtggojafapieliabDoorFa
import Derived.Deep.RegionWith
import Derived.Deep.CutRange
import Derived.Deep.CutBlock
import Derived.BigRegion
namespace Go.Proofs.YtggojafapieliabDoor
open Go.RowKit
set_option maxRecDepth 100000

/-- The tables of unicode/utf8 lie in memory. -/
def Tb (w : World) : Prop := Lib.Utf8Tabs 0 1 w
theorem Tb.below {w w' : World} (h : Tb w) (hb : Below w.heap.size w w') : Tb w' := Utf8Tabs_below h hb
/-- The cells of spans. -/
def SpAt (w : World) (al : Option Addr) (l : List Sp) : Prop :=
  ∀ i x, l[i]? = some x → ∃ b off, al = some ⟨b, off, none⟩ ∧ b < w.heap.size ∧ w.cell? ⟨b, off + i * 3, none⟩ = some (.int .i64 x.f) ∧ w.cell? ⟨b, off + i * 3 + 1, none⟩ = some (.int .i64 x.t) ∧ w.cell? ⟨b, off + i * 3 + 2, none⟩ = some (.string x.s) ∧
    (-9223372036854775808 ≤ x.f ∧ x.f ≤ 9223372036854775807) ∧ (-9223372036854775808 ≤ x.t ∧ x.t ≤ 9223372036854775807) ∧ x.s.size ≤ maxLen
theorem SpAt.later {w w' : World} {al : Option Addr} {l : List Sp} (h : SpAt w al l) (hB : Below w.heap.size w w') : SpAt w' al l := fun i x hx => by
  obtain ⟨b, off, e, hb, c0, c1, c2, r⟩ := h i x hx
  exact ⟨b, off, e, Nat.lt_of_lt_of_le hb hB.size, (hB.cell (p := ⟨b, off + i * 3, none⟩) hb).trans c0, (hB.cell (p := ⟨b, off + i * 3 + 1, none⟩) hb).trans c1, (hB.cell (p := ⟨b, off + i * 3 + 2, none⟩) hb).trans c2, r⟩
theorem chn' {w a b : World} (h : Below w.heap.size w a) (k : Below a.heap.size a b) : Below w.heap.size w b := h.trans (k.mono h.size)
theorem toListNil (s : ByteArray) : s.toList = [] ↔ s.size = 0 := by
  rw [ByteArray.toList_eq, ← List.length_eq_zero_iff]
  simp

set_option maxHeartbeats 1000000 in
theorem textMay_says (s : ByteArray) (k : Nat) (w : World) (hk : k ≤ 65535) (hs : s.size ≤ maxLen) (hT : Tb w) :
    Calls Tryd.prog 48 #[.string s, .int .i64 k] w fun e w' => e = .returned (.bool (decide (mayT s.data.toList k))) ∧ Below w.heap.size w w' := by
  have hl : s.data.toList.length = s.size := by simp
  unfold maxLen at hs
  by_cases h0 : s.size = 0
  · have hz : (s.size : Int) = 0 := by omega
    have hm : ¬ mayT s.data.toList k := fun q => by
      obtain ⟨a, r, q1, q2, q3, q4, q5, q6, q7, q8⟩ := mayT_open q
      have := (encR_len r).1
      have := congrArg List.length q4
      rw [List.length_append] at this
      omega
    rw [decide_eq_false hm]
    have hse : s = ⟨#[]⟩ := by
      cases s with
      | mk d => congr 1; exact Array.eq_empty_of_size_eq_zero h0
    subst hse
    go_enter Tryd.func48, Tryd.ntmps48
    go_wp2
    go_ret
    exact ⟨rfl, Below.refl _ _⟩
  by_cases h40 : 40 < s.size
  · have h40' : (40 : Int) < s.size := by omega
    have hm : ¬ mayT s.data.toList k := fun q => by have := q.1; omega
    rw [decide_eq_false hm]
    have hse : ¬ s.toList = [] := fun q => h0 ((toListNil s).1 q)
    go_enter Tryd.func48, Tryd.ntmps48
    go_wp2
    go_ret
    exact ⟨rfl, Below.refl _ _⟩
  have h40' : ¬ (40 : Int) < s.size := by omega
  have hse : ¬ s.toList = [] := fun q => h0 ((toListNil s).1 q)
  have hie : s.toList.isEmpty = false := by cases hh : s.toList with
    | nil => exact absurd hh hse
    | cons a l => rfl
  have hne : s.data.toList ≠ [] := fun q => h0 (by rw [← hl, q]; rfl)
  have hv := Tryd.utf8_ValidString s w (by omega) hT
  rw [valid_rns _ _ (Nat.le_refl _)] at hv
  cases hr : rns s.data.toList with
  | none =>
    rw [hr] at hv
    have hm : ¬ mayT s.data.toList k := fun q => by have := q.2; rw [goOn_bad hr] at this; cases this
    rw [decide_eq_false hm]
    clear hm
    go_enter Tryd.func48, Tryd.ntmps48
    go_wp2_with (go_at_call 72; go_must (refine hv.mono ?_); rintro e w1 ⟨rfl, hb1⟩)
    go_ret
    exact ⟨rfl, hb1⟩
  | some rs =>
    rw [hr] at hv
    obtain ⟨a, r, rfl, q1, q2, q3, q4⟩ := rns_last hr hne
    have hm : mayT s.data.toList k ↔ okR (r + k) ∧ (r + k < 55296 ∨ 57344 ≤ r) := by
      unfold mayT
      rw [goOn_last hr]
      by_cases c : okR (r + k) ∧ (r + k < 55296 ∨ 57344 ≤ r)
      · rw [if_pos c]; exact ⟨fun _ => c, fun _ => ⟨by omega, rfl⟩⟩
      · rw [if_neg c]; exact ⟨fun q => absurd q.2 (by decide), fun q => absurd q c⟩
    have hm' : decide (mayT s.data.toList k) = decide (okR (r + k) ∧ (r + k < 55296 ∨ 57344 ≤ r)) := decide_eq_decide.2 hm
    simp only [hm']
    clear hm hm'
    have hr0 : r ≤ 1114111 := by unfold okR at q1; omega
    have hd := fun (w1 : World) (h1 : Tb w1) => Tryd.utf8_DecodeLastRuneInString s w1 (by omega) h1
    rw [q4] at hd
    have hr1 : (r : Int) ≤ 1114111 := by omega
    have hk1 : (k : Int) ≤ 65535 := by omega
    have hr2 : (0 : Int) ≤ (r : Int) := by omega
    have hk2 : (0 : Int) ≤ (k : Int) := by omega
    have HR := hid hr
    have HQ := hid (And.intro q1 q4)
    clear hr q1 q2 q3 q4
    go_enter Tryd.func48, Tryd.ntmps48
    go_wp2_with (go_at_call 72; go_must (refine hv.mono ?_); rintro e w1 ⟨rfl, hb1⟩)
    refine (hd _ (hT.below hb1)).mono ?_
    rintro e w2 ⟨rfl, hb2⟩
    have hb3 := chn' hb1 hb2
    clear hd hv hb1 hb2 hr0 hk
    generalize (encR r).length = z
    go_wp2_with fail
    refine (Tryd.utf8_ValidRune _ _).mono ?_
    rintro e w3 ⟨rfl, rfl⟩
    have q1 := HQ.out.1
    by_cases c : okR (r + k)
    · have ev : Lib.validRune ((r : Int) + k) = true := by unfold okR at c; unfold Lib.validRune; exact decide_eq_true (by omega)
      rw [ev]
      by_cases d1 : r < 55296
      · have d1' : (r : Int) < 55296 := by omega
        by_cases d2 : r + k < 55296
        · have d2' : (r : Int) + k < 55296 := by omega
          have D := hid (decide_eq_true (show okR (r + k) ∧ (r + k < 55296 ∨ 57344 ≤ r) from ⟨c, .inl d2⟩))
          clear c d1 d2 q1
          go_wp2
          go_ret
          exact ⟨by rw [D.out]; first | (simp; done) | (simp; omega), hb3⟩
        · have d2' : ¬ (r : Int) + k < 55296 := by omega
          have D := hid (decide_eq_false (show ¬ (okR (r + k) ∧ (r + k < 55296 ∨ 57344 ≤ r)) by omega))
          clear c d1 d2 q1
          go_wp2
          go_ret
          exact ⟨by rw [D.out]; first | (simp; done) | (simp; omega), hb3⟩
      · have d1' : ¬ (r : Int) < 55296 := by omega
        have d2' : ¬ (r : Int) + k < 55296 := by omega
        have D := hid (decide_eq_true (show okR (r + k) ∧ (r + k < 55296 ∨ 57344 ≤ r) from ⟨c, .inr (by unfold okR at q1; omega)⟩))
        clear c d1 q1
        go_wp2
        go_ret
        exact ⟨by rw [D.out]; first | (simp; done) | (simp; omega), hb3⟩
    · have ev : Lib.validRune ((r : Int) + k) = false := by unfold okR at c; unfold Lib.validRune; exact decide_eq_false (by omega)
      rw [ev]
      have D := hid (decide_eq_false (show ¬ (okR (r + k) ∧ (r + k < 55296 ∨ 57344 ≤ r)) from fun q => c q.1))
      clear c q1
      go_wp2
      go_ret
      exact ⟨by rw [D.out]; first | rfl | simp, hb3⟩
end Go.Proofs.YtggojafapieliabDoor
