/-
  The law on codes as text, walked.
-/
import Derived.Test.YtddoigjjgcefkaaDoorCm
namespace Go.Proofs.YtddoigjjgcefkaaDoor
open Go.RowKit
set_option maxRecDepth 100000
attribute [local go_sem ↓] Go.wp_at_zero Go.wp_at_succ

set_option maxHeartbeats 1000000 in
theorem light_sp (l : List Sp) (al : Option Addr) (cap : Nat) (w : World) (hl : l.length ≤ maxLen) (hA : SpAt w al l) :
    Calls Tryd.prog 47 #[.slice al l.length cap] w fun e w' => (e = .returned (.bool false) ∨ e = .returned (.bool true) ∧ ∀ x ∈ l, x.s.size ≤ 60) ∧ Below w.heap.size w w' := by
  unfold maxLen at hl
  by_cases h3 : 310 < l.length
  · have h3' : (310 : Int) < l.length := by omega
    go_enter Tryd.func47, Tryd.ntmps47
    go_wp2
    go_ret
    exact ⟨.inl rfl, Below.refl _ _⟩
  have h3' : ¬ (310 : Int) < l.length := by omega
  have HA := hid hA
  clear hA
  go_enter Tryd.func47, Tryd.ntmps47
  go_wp2_with fail
  go_loopw [3] (fun i wr => ∃ p : Nat, i = .int .i64 p ∧ p ≤ l.length ∧ Hid (∀ x ∈ l.take p, x.s.size ≤ 60) ∧ Below w.heap.size w wr) (fun i _ => l.length - (intOf i).toNat)
  case atStart => exact ⟨0, rfl, Nat.zero_le _, fun x hx => by simp at hx, Below.refl _ _⟩
  case round =>
    obtain ⟨p, rfl, hp, HP, hB⟩ := hrel
    by_cases hpl : p < l.length
    · have hpl' : (p : Int) < l.length := by omega
      have HT := hid (show l.take (p + 1) = l.take p ++ [l[p]] from List.take_succ_eq_append_getElem hpl)
      obtain ⟨b, off, rfl, hbl, g0, g1, g2, _, _, _⟩ := (HA.out.later hB) p l[p] (List.getElem?_eq_getElem hpl)
      generalize l[p] = x at *
      by_cases h6 : (60 : Int) < x.s.size
      · go_wp2_with fail
        go_ret
        exact ⟨.inl rfl, hB⟩
      · go_wp2_with fail
        go_roundw
        case rel =>
          refine ⟨p + 1, by go_num, by omega, hid fun y hy => ?_, hB⟩
          rw [HT.out] at hy
          rcases List.mem_append.1 hy with hy | hy
          · exact HP.out y hy
          · simp at hy; subst hy; omega
        case measure => simp [intOf]; omega
    · have hpl' : ¬ (p : Int) < l.length := by omega
      go_wp2_with fail
      go_ret
      have q := HP.out
      rw [List.take_of_length_le (by omega)] at q
      exact ⟨.inr ⟨rfl, q⟩, hB⟩
theorem rText_sp (l : List Sp) (wide : Bool) (al : Option Addr) (cap : Nat) (w : World) (hA : SpAt w al l) (hf : spFault l wide = 0) :
    Calls Tryd.prog 53 #[.slice al l.length cap, .bool wide] w fun e w' => e = .returned (.string ⟨(spsT wide l).toArray⟩) ∧ Below w.heap.size w w' := by
  cases wide
  · exact rText_false l al cap w hA hf
  · exact rText_true l al cap w hA hf
theorem write_ok (l : List Sp) (wide : Bool) (al : Option Addr) (cap : Nat) (w : World) (hl : l.length ≤ maxLen) (hA : SpAt w al l) (hT : Tb w) (hf : spFault l wide = 0) :
    Calls Tryd.prog 49 #[.slice al l.length cap, .bool wide] w fun e w' => e = .returned (.tuple #[.string ⟨(spsT wide l).toArray⟩, .nilIface]) ∧ Below w.heap.size w w' := by
  cases wide
  · exact write_ok_false l al cap w hl hA hT hf
  · exact write_ok_true l al cap w hl hA hT hf
set_option maxHeartbeats 2000000 in
theorem cmapSays_of (l : List Sp) (wide : Bool) (code : Int) (al : Option Addr) (cap : Nat) (w : World) (hl : l.length ≤ maxLen) (hA : SpAt w al l) (hT : Tb w)
    (hmaps : ∀ W, Tb W → Calls Tryd.prog 46 #[] W fun e w' => e = .returned (.bool true) ∧ Below W.heap.size W w') :
    Calls Tryd.prog 8 #[.slice al l.length cap, .bool wide, .int .i64 code] w fun e w' => e = .returned (.bool true) ∧ Below w.heap.size w w' := by
  have HA := hid hA
  have HT := hid hT
  have HM := hid hmaps
  have HL := hid hl
  clear hA hT hmaps hl
  go_enter Tryd.func8, Tryd.ntmps8
  go_wp2_with (go_at_call 46; fail)
  go_at_call 46
  refine (HM.out w HT.out).mono ?_
  rintro e1 w1 ⟨rfl, hb1⟩
  go_wp2_with (go_at_call 47; fail)
  go_at_call 47
  refine (light_sp l al cap _ HL.out (HA.out.later hb1)).mono ?_
  rintro e2 w2 ⟨he, hb2⟩
  have hB2 := chn' hb1 hb2
  clear hb1 hb2
  rcases he with rfl | ⟨rfl, h60⟩
  · go_wp2_with fail
    go_ret
    exact ⟨rfl, hB2⟩
  have H60 := hid h60
  clear h60
  have HFC := hid (spFault_cases l wide)
  go_wp2_with (go_at_call 48; fail)
  go_at_call 48
  refine (rFault_sp l wide al cap _ (HA.out.later hB2) H60.out).mono ?_
  rintro e3 w3 ⟨rfl, hb3⟩
  have hB3 := chn' hB2 hb3
  clear hb3 hB2
  have hck := fun W (hB : Below w.heap.size w W) => check_sp l wide al cap W HL.out (HA.out.later hB) (HT.out.below hB)
  by_cases hf : spFault l wide = 0
  · have hw := fun W (hB : Below w.heap.size w W) => write_ok l wide al cap W HL.out (HA.out.later hB) (HT.out.below hB) hf
    have htx := fun W (hB : Below w.heap.size w W) => text_sp l wide code al cap W HL.out (HA.out.later hB) (HT.out.below hB) hf
    have hrx := fun W (hB : Below w.heap.size w W) => codeText_sp l wide code al cap W (spFault_ok hf).1 (HA.out.later hB) hf
    have hrt := fun W (hB : Below w.heap.size w W) => rText_sp l wide al cap W (HA.out.later hB) hf
    rw [hf] at hck ⊢
    rw [errN_0] at hck
    generalize spsT wide l = S at *
    generalize codeT l code = C at *
    have HW := hid hw
    have HTX := hid htx
    have HRX := hid hrx
    have HRT := hid hrt
    have HCK := hid hck
    clear hw htx hrx hrt hck hf HFC
    go_wp2_with (go_at_call 49; fail)
    go_at_call 49
    refine (HW.out _ hB3).mono ?_
    rintro e4 w4 ⟨rfl, hb4⟩
    have hB4 := chn' hB3 hb4
    clear hb4 hB3
    go_wp2_with (go_at_call 50; fail)
    go_at_call 50
    refine (HCK.out _ hB4).mono ?_
    rintro e5 w5 ⟨rfl, hb5⟩
    have hB5 := chn' hB4 hb5
    clear hb5 hB4
    go_wp2_with (first | (go_at_call 9; refine (same_nil 0 _).mono ?_; rintro e ww ⟨rfl, rfl⟩) | (go_at_call 51; fail))
    go_at_call 51
    refine (HTX.out _ hB5).mono ?_
    rintro e6 w6 ⟨rfl, hb6⟩
    have hB6 := chn' hB5 hb6
    clear hb6 hB5
    go_wp2_with (go_at_call 52; fail)
    go_at_call 52
    refine (HRX.out _ hB6).mono ?_
    rintro e7 w7 ⟨rfl, hb7⟩
    have hB7 := chn' hB6 hb7
    clear hb7 hB6
    go_wp2_with (go_at_call 53; fail)
    go_at_call 53
    refine (HRT.out _ hB7).mono ?_
    rintro e8 w8 ⟨rfl, hb8⟩
    have hB8 := chn' hB7 hb8
    go_wp2_with fail
    go_ret
    exact ⟨by first | rfl | (simp; done), hB8⟩
  · have hw := fun W (hB : Below w.heap.size w W) => write_bad l wide al cap W HL.out (HA.out.later hB) (HT.out.below hB) hf
    obtain ⟨f, hfe, hf0⟩ : ∃ f, spFault l wide = f ∧ 0 < f := ⟨_, rfl, by have := HFC.out; omega⟩
    rw [hfe] at hck hw ⊢
    have HW := hid hw
    have HCK := hid hck
    have hs := fun W => same_any f f W (by omega)
    clear hw hck hf hfe HFC
    go_wp2_with (go_at_call 49; fail)
    go_at_call 49
    refine (HW.out _ hB3).mono ?_
    rintro e4 w4 ⟨rfl, hb4⟩
    have hB4 := chn' hB3 hb4
    clear hb4 hB3
    go_wp2_with (go_at_call 50; fail)
    go_at_call 50
    refine (HCK.out _ hB4).mono ?_
    rintro e5 w5 ⟨rfl, hb5⟩
    have hB5 := chn' hB4 hb5
    clear hb5 hB4
    go_wp2_with (go_at_call 9; refine (hs _).mono ?_; rintro e ww ⟨rfl, rfl⟩)
    go_ret
    exact ⟨rfl, hB5⟩
end Go.Proofs.YtddoigjjgcefkaaDoor
