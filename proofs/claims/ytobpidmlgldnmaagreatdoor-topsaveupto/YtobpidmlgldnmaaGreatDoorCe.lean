/-
  Joined: Cd, Cs, Ce.
-/
import Derived.Test.YtobpidmlgldnmaaGreatDoorCp
import Derived.Test.YtobpidmlgldnmaaGreatDoorRows
import Derived.WalkKit

/-
  What is wrong with spans: the program's answer.
-/
namespace Go.Proofs.YtobpidmlgldnmaaGreatDoor
open Go.RowKit
set_option maxRecDepth 100000

theorem sFault_1 {most a : Int} {x : Sp} {l : List Sp} (h : x.f < 0 ∨ most < x.t) : sFault most a (x :: l) = 1 := by unfold sFault; rw [if_pos h]
theorem sFault_3 {most a : Int} {x : Sp} {l : List Sp} (h : ¬ (x.f < 0 ∨ most < x.t)) (k : x.t < x.f ∨ x.f ≤ a ∨ ¬ mayT x.s.data.toList (x.t - x.f).toNat) : sFault most a (x :: l) = 3 := by unfold sFault; rw [if_neg h, if_pos k]
theorem sFault_on {most a : Int} {x : Sp} {l : List Sp} (h : ¬ (x.f < 0 ∨ most < x.t)) (k : ¬ (x.t < x.f ∨ x.f ≤ a ∨ ¬ mayT x.s.data.toList (x.t - x.f).toNat)) : sFault most a (x :: l) = sFault most x.t l := by rw [sFault, if_neg h, if_neg k]
end Go.Proofs.YtobpidmlgldnmaaGreatDoor

/-
  Strings that are joined.
-/
namespace Go.Proofs.YtobpidmlgldnmaaGreatDoor
open Go.RowKit
set_option maxRecDepth 100000
theorem addL {x y z : List UInt8} (hx : x.length ≤ 1000000) (hy : y.length ≤ 1000000) (hz : z = x ++ y) (w : World) : (Op.stringOp .add ⟨x.toArray⟩ ⟨y.toArray⟩).run Tryz.prog w = .ok (.string ⟨z.toArray⟩) w := by
  rw [hz]; exact run_string_add_lists w x y (by omega) (by omega)
theorem addB {a b c : ByteArray} (ha : a.size ≤ 1000000) (hb : b.size ≤ 1000000) (hc : c.data.toList = a.data.toList ++ b.data.toList) (w : World) : (Op.stringOp .add a b).run Tryz.prog w = .ok (.string c) w := by
  have q := addL (x := a.data.toList) (y := b.data.toList) (z := c.data.toList) (by simpa using ha) (by simpa using hb) hc w
  simpa using q
end Go.Proofs.YtobpidmlgldnmaaGreatDoor

/-
  The text of a code: the program's answer.
-/
namespace Go.Proofs.YtobpidmlgldnmaaGreatDoor
open Go.RowKit
set_option maxRecDepth 100000

set_option maxHeartbeats 400000 in
theorem hasCode_one (c f t : Int) (s : ByteArray) (w : World) (B : Nat) (hB : At w B 3 #[.int .i64 c]) :
    Calls Tryz.prog 144 #[.agg #[.int .i64 f, .int .i64 t, .string s], .pointer (some ⟨B, 0, none⟩)] w fun e w' => e = .returned (.bool (decide (f ≤ c ∧ c ≤ t))) ∧ Below w.heap.size w w' := by
  have q := hB.cell 0
  have l := hB.lt
  simp at q
  by_cases c1 : f ≤ c
  · by_cases c2 : c ≤ t
    · rw [decide_eq_true (And.intro c1 c2)]
      go_enter Tryz.func144, Tryz.ntmps144
      go_wp2_with fail
      go_ret
      exact ⟨rfl, by go_grown⟩
    · rw [decide_eq_false (fun q : f ≤ c ∧ c ≤ t => c2 q.2)]
      go_enter Tryz.func144, Tryz.ntmps144
      go_wp2_with fail
      go_ret
      exact ⟨rfl, by go_grown⟩
  · rw [decide_eq_false (fun q : f ≤ c ∧ c ≤ t => c1 q.1)]
    go_enter Tryz.func144, Tryz.ntmps144
    go_wp2_with fail
    go_ret
    exact ⟨rfl, by go_grown⟩
set_option maxHeartbeats 1000000 in
theorem index_sp {w : World} (c : Int) (l : List Sp) (al : Option Addr) (cl B : Nat) (hl : l.length ≤ maxLen) (hL : SpAt w al l) (hB : At w B 3 #[.int .i64 c]) :
    Calls Tryz.prog 143 #[.slice al l.length cl, .func (.func 144) #[] #[.pointer (some ⟨B, 0, none⟩)]] w fun e w' => ((spOf l c = none ∧ e = .returned (.int .i64 (-1))) ∨ ∃ (i : Nat) (x : Sp), l[i]? = some x ∧ spOf l c = some x ∧ e = .returned (.int .i64 i)) ∧ Below w.heap.size w w' := by
  unfold maxLen at hl
  have HL := hid hL
  have HB := hid hB
  clear hL hB
  go_enter Tryz.func143, Tryz.ntmps143
  go_wp2_with fail
  go_loopw [8] (fun i wr => ∃ j : Nat, i = .int .i64 j ∧ j ≤ l.length ∧ Hid (spOf l c = spOf (l.drop j) c) ∧ Below w.heap.size w wr) (fun i _ => l.length - (intOf i).toNat)
  case atStart => exact ⟨0, rfl, Nat.zero_le _, rfl, Below.refl _ _⟩
  case round =>
    obtain ⟨j, rfl, hj, HZ, hK⟩ := hrel
    by_cases hjl : j < l.length
    · have hjl' : (j : Int) < l.length := by omega
      obtain ⟨b, off, rfl, hbl, g0, g1, g2, _, _, _⟩ := (HL.out.later hK) j l[j] (List.getElem?_eq_getElem hjl)
      have hd : l.drop j = l[j] :: l.drop (j + 1) := List.drop_eq_getElem_cons hjl
      have HQ := hid (List.getElem?_eq_getElem hjl)
      have H1 := HZ.out
      rw [hd] at H1
      clear HZ hd
      generalize l[j] = x at *
      by_cases hp : x.f ≤ c ∧ c ≤ x.t
      · have h2 : spOf l c = some x := by rw [H1, spOf, if_pos hp]
        have HP := hid (decide_eq_true hp)
        have H2 := hid h2
        clear hp h2 H1
        go_wp2_with (go_at_call 144; refine (hasCode_one c x.f x.t x.s _ B (HB.out.later hK)).mono ?_; rw [HP.out]; rintro e w1 ⟨rfl, hb1⟩)
        go_ret
        exact ⟨.inr ⟨j, x, HQ.out, H2.out, rfl⟩, chn' hK hb1⟩
      · have h2 : spOf l c = spOf (l.drop (j + 1)) c := by rw [H1, spOf, if_neg hp]
        have HP := hid (decide_eq_false hp)
        have H2 := hid h2
        clear hp h2 H1
        go_wp2_with (go_at_call 144; refine (hasCode_one c x.f x.t x.s _ B (HB.out.later hK)).mono ?_; rw [HP.out]; rintro e w1 ⟨rfl, hb1⟩)
        go_roundw
        case rel => exact ⟨j + 1, by go_num, by omega, H2, chn' hK hb1⟩
        case measure => simp [intOf]; omega
    · have hjl' : ¬ (j : Int) < l.length := by omega
      go_wp2_with fail
      go_ret
      have h0 := HZ.out
      rw [List.drop_eq_nil_of_le (by omega)] at h0
      exact ⟨.inl ⟨h0, rfl⟩, hK⟩
theorem encLen (r : Nat) (h : okR r) : (Utf8.encode (r : Int)).data.toList = encR r := by
  unfold okR at h
  have hv : Utf8.valid (r : Int) = true := by unfold Utf8.valid; simp; omega
  unfold Utf8.encode encR
  simp only [hv, if_true, Int.toNat_natCast]
  repeat' split
  all_goals first | rfl | (exfalso; omega)
set_option maxHeartbeats 2000000 in
theorem text_sp (l : List Sp) (wide : Bool) (c : Int) (al : Option Addr) (cap : Nat) (w : World) (hl : l.length ≤ maxLen) (hA : SpAt w al l) (hT : Tb w) (hf : spFault l wide = 0) :
    Calls Tryz.prog 128 #[.slice al l.length cap, .int .i64 c] w fun e w' => e = .returned (.tuple #[.string ⟨((codeT l c).getD []).toArray⟩, .bool (codeT l c).isSome]) ∧ Below w.heap.size w w' := by
  have HA := hid hA
  have HT := hid hT
  have HF := hid hf
  have hL := hl
  unfold maxLen at hl
  clear hA hT hf
  cases h1 : spOf l c with
  | none =>
    have h2 : codeT l c = none := by unfold codeT; rw [h1]
    rw [h2]
    have H1 := hid h1
    clear h1 h2
    go_enter Tryz.func128, Tryz.ntmps128
    go_wp2_with fail
    refine (index_sp c l al cap w.heap.size hL (HA.out.later (by go_grown)) (At.new w _ _ rfl)).mono ?_
    rintro e w1 ⟨hcase, hb1⟩
    have hB1 : Below w.heap.size w w1 := chn' (by go_grown) hb1
    rcases hcase with ⟨_, rfl⟩ | ⟨i, x, hi, h1, rfl⟩
    · go_wp2_with fail
      go_ret2
      exact ⟨rfl, hB1⟩
    · rw [H1.out] at h1; cases h1
  | some x =>
    obtain ⟨hm, hc1, hc2⟩ := spOf_mem h1
    obtain ⟨_, hall⟩ := spFault_ok HF.out
    obtain ⟨e1, e2, e3, e4⟩ := hall x hm
    obtain ⟨a, r, q1, q2, q3, q4, q5, q6, q7, q8⟩ := mayT_open e4
    obtain ⟨k, hk⟩ : ∃ k : Nat, c = x.f + k := ⟨(c - x.f).toNat, by omega⟩
    obtain ⟨q9, q10⟩ := mayT_less (j := k) q1 q6 q7 (by omega)
    have h2 : codeT l c = some (txtR a ++ encR (r + k)) := by unfold codeT; rw [h1]; simp only; rw [show (c - x.f).toNat = k by omega, q10]
    rw [h2]
    have hd := fun (W : World) (hW : Tb W) (hs : x.s.size ≤ 9223372036854775807) => Tryz.utf8_DecodeLastRuneInString x.s W hs hW
    rw [q5] at hd
    have e3' : mostOf wide ≤ 65535 := by unfold mostOf; split <;> decide
    have hsz : x.s.size = (txtR a).length + (encR r).length := by
      have := congrArg List.length q4
      rw [List.length_append] at this; simpa using this
    have hlen := encR_len r
    have hk2 : (k : Int) ≤ 65535 := by omega
    have hr2 : (r : Int) ≤ 1114111 := by unfold okR at q2; omega
    have hf2 : (0 : Int) ≤ x.f := e1
    have hf3 : x.f ≤ 65535 := by omega
    have hx1 : ((encR r).length : Int) ≤ x.s.size := by omega
    have hx2 : (x.s.size : Int) ≤ 40 := by have : x.s.data.toList.length = x.s.size := by simp
                                           omega
    have H1 := hid h1
    have HQ := hid (And.intro q4 (And.intro q9 q2))
    clear h1 h2 hall e4 q1 q2 q3 q4 q5 q6 q7 q8 q9 q10 hm e3 e3' e2
    subst hk
    go_enter Tryz.func128, Tryz.ntmps128
    go_wp2_with fail
    refine (index_sp (x.f + k) l al cap w.heap.size hL (HA.out.later (by go_grown)) (At.new w _ _ rfl)).mono ?_
    rintro e w1 ⟨hcase, hb1⟩
    have c0 := (At.later (At.new w #[.int .i64 (x.f + k)] 3 rfl) hb1).cell 0
    have z0 := (At.later (At.new w #[.int .i64 (x.f + k)] 3 rfl) hb1).lt
    simp at c0
    have hB1 : Below w.heap.size w w1 := chn' (by go_grown) hb1
    clear hb1
    rcases hcase with ⟨h1, rfl⟩ | ⟨i, x', hi, h1, rfl⟩
    · rw [H1.out] at h1; cases h1
    rw [H1.out] at h1
    injection h1 with h1
    subst h1
    have hil : i < l.length := (List.getElem?_eq_some_iff.1 hi).1
    have hil' : (i : Int) < l.length := by omega
    obtain ⟨b, off, rfl, hbl, g0, g1, g2, _, _, hs⟩ := (HA.out.later hB1) i x hi
    clear hi hil hs
    generalize hz : (encR r).length = z at *
    have HZ := hid hz
    clear hz
    go_wp2_with (go_at_call 145; go_must (refine (hd _ (HT.out.below (chn' hB1 (by go_grown))) (by omega)).mono ?_); rintro e w2 ⟨rfl, hb2⟩)
    have X := At.later (At.new w1 #[.int .i64 x.f, .int .i64 x.t, .string x.s] 98 rfl) hb2
    have x0 := X.cell 0
    have x1 := X.cell 1
    have x2 := X.cell 2
    have xl := X.lt
    simp at x0 x1 x2
    have y0 := hb2.cell (p := ⟨w.heap.size, 0, none⟩) (by simp; omega)
    rw [World.cell?_alloc_past _ _ _ z0, c0] at y0
    have hB2 : Below w.heap.size w w2 := chn' hB1 (chn' (by go_grown) hb2)
    clear hb2 X g0 g1 g2 c0
    have hfk : x.f + (k : Int) - x.f = k := by omega
    have hsz2 := HZ.out
    have E := addB (a := x.s.extract 0 (txtR a).length) (b := Utf8.encode ((r : Int) + k)) (c := ⟨(txtR a ++ encR (r + k)).toArray⟩) (by simp; omega) (by
      have q := encLen (r + k) HQ.out.2.1
      have q2 := congrArg List.length q
      have q3 := encR_len (r + k)
      simp at q2; push_cast at q2; omega) (by
      have q := encLen (r + k) HQ.out.2.1
      push_cast at q
      rw [q]
      have q4 := HQ.out.1
      simp [q4])
    go_region
    go_wp2_with fail
    go_ret2
    exact ⟨rfl, hB2.drew⟩
end Go.Proofs.YtobpidmlgldnmaaGreatDoor
