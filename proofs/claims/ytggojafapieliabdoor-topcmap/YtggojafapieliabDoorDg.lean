/-
  Reading a program: one code and its text; parts of a program up to their end.
-/
import Derived.Test.YtggojafapieliabDoorDf
namespace Go.Proofs.YtggojafapieliabDoor
open Go.RowKit
set_option maxRecDepth 100000
attribute [local go_sem ↓] Go.wp_at_zero Go.wp_at_succ

/-- A span, alone. -/
def One (w : World) (P h : Nat) (x y : Int) (t : ByteArray) : Prop := h ≠ P ∧ h < w.heap.size ∧ w.cell? ⟨h, 0, none⟩ = some (.int .i64 x) ∧ w.cell? ⟨h, 1, none⟩ = some (.int .i64 y) ∧ w.cell? ⟨h, 2, none⟩ = some (.string t)
theorem One.keep {w w' : World} {P h : Nat} {x y : Int} {t : ByteArray} (o : One w P h x y t) (k : KeepBut P w w') : One w' P h x y t :=
  ⟨o.1, Nat.lt_of_lt_of_le o.2.1 k.size, (k.cell o.2.1 o.1 0).trans o.2.2.1, (k.cell o.2.1 o.1 1).trans o.2.2.2.1, (k.cell o.2.1 o.1 2).trans o.2.2.2.2⟩
set_option maxHeartbeats 1000000 in
theorem char1 (P : Nat) (s t1 t2 : ByteArray) (c x : UInt8) (a b : Nat) (w : World) (hx : x.toNat < 128) (h1 : t1.data.toList = strH [c]) (h2 : t2.data.toList = strH [0, x]) (ht : Tok P s a t2 b) (hA : RdC w P s a 1 (.slice none 0 0)) :
    Calls Tryd.prog 46 #[.pointer (some ⟨P, 0, none⟩), .string t1] w fun e w' => e = .returned .nilIface ∧ (∃ h q, RdC w' P s b 1 (.slice (some ⟨h, 0, none⟩) 1 q) ∧ One w' P h (c.toNat : Int) (c.toNat : Int) ⟨#[x]⟩) ∧ KeepBut P w w' := by
  have HT := hid ht
  have H1 := hid h1
  have H2 := hid h2
  have HA := hid hA
  clear ht h1 h2 hA
  go_enter Tryd.func46, Tryd.ntmps46
  go_wp2_with (go_at_call 68; fail)
  go_at_call 68
  refine (code1 P s t1 c a _ _ H1.out HA.out).mono ?_
  rintro e w1 ⟨rfl, hb1⟩
  have A1 := HA.out.later hb1
  have K1 : KeepBut P w w1 := .of hb1
  clear hb1
  go_wp2_with (go_at_call 43; fail)
  go_at_call 43
  refine (HT.out _ _ _ A1).mono ?_
  rintro e w2 ⟨rfl, A2, K2⟩
  have K2' := K1.trans K2
  clear K1 K2 A1
  go_wp2_with (go_at_call 69; fail)
  go_at_call 69
  refine (text2 t2 x _ hx H2.out).mono ?_
  rintro e w3 ⟨rfl, hb3⟩
  have A3 := RdC.lat A2 hb3
  have K3 := K2'.then hb3
  clear hb3 A2 K2'
  go_wp2_with (go_at_call 70; fail)
  go_at_call 70
  refine (add0 P s _ b 1 _ _ _ A3).mono ?_
  rintro e w4 ⟨rfl, h, q, A4, hne, _, k0, k1, k2, hl, K4⟩
  go_wp2_with fail
  go_ret
  exact ⟨rfl, ⟨h, q, A4, hne, hl, k0, k1, k2⟩, K3.trans K4⟩
/-- How far a reader has to go. -/
def far (P : Nat) (w : World) : Nat := match w.cell? ⟨P, 1, none⟩ with | some (.int _ n) => 50000 - n.toNat | _ => 0
theorem far_eq {P : Nat} {w : World} {s : ByteArray} {a : Nat} {bt : Int} {sp : Value} (h : RdC w P s a bt sp) : far P w = 50000 - a := by
  have c1 := At.cell h 1
  simp at c1
  unfold far
  rw [c1]; simp
set_option maxHeartbeats 2000000 in
theorem upSpace (P : Nat) (s en t1 : ByteArray) (a a1 b c : Nat) (w : World) (hab : a < b) (hb9 : b < 50000) (hne : t1.toList.isEmpty = false) (hn1 : (t1.toList == en.toList) = false) (he : en.toList.isEmpty = false) (k1 : Tok P s a t1 a1) (k2 : Tok P s b en c)
    (hit : ∀ W, RdC W P s a1 1 (.slice none 0 0) → Calls Tryd.prog 45 #[.pointer (some ⟨P, 0, none⟩), .string t1] W fun e w' => e = .returned .nilIface ∧ (RdC w' P s b 1 (.slice none 0 0)) ∧ KeepBut P W w') (hA : RdC w P s a 1 (.slice none 0 0)) :
    Calls Tryd.prog 44 #[.pointer (some ⟨P, 0, none⟩), .string en, .func (.func 45) #[.pointer (some ⟨P, 0, none⟩)] #[]] w fun e w' => e = .returned .nilIface ∧ (RdC w' P s c 1 (.slice none 0 0)) ∧ KeepBut P w w' := by
  have H1 := hid k1
  have H2 := hid k2
  have HI := hid hit
  have HA := hid hA
  have hee : (en.toList == en.toList) = true := by simp
  clear k1 k2 hit hA
  go_enter Tryd.func44, Tryd.ntmps44
  go_wp2_with fail
  go_loopw [6] (fun _ wr => ((RdC wr P s a 1 (.slice none 0 0)) ∨ (RdC wr P s b 1 (.slice none 0 0))) ∧ KeepBut P w wr) (fun _ wr => far P wr)
  case atStart => exact ⟨.inl HA.out, KeepBut.refl _ _⟩
  case round =>
    obtain ⟨A0 | A0, K0⟩ := hrel
    · go_wp2_with (go_at_call 43; fail)
      go_at_call 43
      refine (H1.out _ _ _ A0).mono ?_
      rintro e w1 ⟨rfl, A1, K1⟩
      have K1' := K0.trans K1
      go_wp2_with (go_at_call 45; fail)
      go_at_call 45
      refine (HI.out _ A1).mono ?_
      rintro e w2 ⟨rfl, hr2, K2⟩
      go_wp2_with fail
      go_roundw
      case rel => exact ⟨.inr hr2, K1'.trans K2⟩
      case measure =>
        have q1 := far_eq A0
        have q2 : far P w2 = 50000 - b := by
          exact far_eq hr2
        simp only [q1, q2]; omega
    · go_wp2_with (go_at_call 43; fail)
      go_at_call 43
      refine (H2.out _ _ _ A0).mono ?_
      rintro e w1 ⟨rfl, A1, K1⟩
      go_wp2_with fail
      go_ret
      exact ⟨rfl, A1, K0.trans K1⟩
set_option maxHeartbeats 2000000 in
theorem upChar (P : Nat) (s en t1 : ByteArray) (x y : Int) (z : ByteArray) (a a1 b c : Nat) (w : World) (hab : a < b) (hb9 : b < 50000) (hne : t1.toList.isEmpty = false) (hn1 : (t1.toList == en.toList) = false) (he : en.toList.isEmpty = false) (k1 : Tok P s a t1 a1) (k2 : Tok P s b en c)
    (hit : ∀ W, RdC W P s a1 1 (.slice none 0 0) → Calls Tryd.prog 46 #[.pointer (some ⟨P, 0, none⟩), .string t1] W fun e w' => e = .returned .nilIface ∧ (∃ h q, RdC w' P s b 1 (.slice (some ⟨h, 0, none⟩) 1 q) ∧ One w' P h x y z) ∧ KeepBut P W w') (hA : RdC w P s a 1 (.slice none 0 0)) :
    Calls Tryd.prog 44 #[.pointer (some ⟨P, 0, none⟩), .string en, .func (.func 46) #[.pointer (some ⟨P, 0, none⟩)] #[]] w fun e w' => e = .returned .nilIface ∧ (∃ h q, RdC w' P s c 1 (.slice (some ⟨h, 0, none⟩) 1 q) ∧ One w' P h x y z) ∧ KeepBut P w w' := by
  have H1 := hid k1
  have H2 := hid k2
  have HI := hid hit
  have HA := hid hA
  have hee : (en.toList == en.toList) = true := by simp
  clear k1 k2 hit hA
  go_enter Tryd.func44, Tryd.ntmps44
  go_wp2_with fail
  go_loopw [6] (fun _ wr => ((RdC wr P s a 1 (.slice none 0 0)) ∨ (∃ h q, RdC wr P s b 1 (.slice (some ⟨h, 0, none⟩) 1 q) ∧ One wr P h x y z)) ∧ KeepBut P w wr) (fun _ wr => far P wr)
  case atStart => exact ⟨.inl HA.out, KeepBut.refl _ _⟩
  case round =>
    obtain ⟨A0 | ⟨h, q, A0, O0⟩, K0⟩ := hrel
    · go_wp2_with (go_at_call 43; fail)
      go_at_call 43
      refine (H1.out _ _ _ A0).mono ?_
      rintro e w1 ⟨rfl, A1, K1⟩
      have K1' := K0.trans K1
      go_wp2_with (go_at_call 46; fail)
      go_at_call 46
      refine (HI.out _ A1).mono ?_
      rintro e w2 ⟨rfl, hr2, K2⟩
      go_wp2_with fail
      go_roundw
      case rel => exact ⟨.inr hr2, K1'.trans K2⟩
      case measure =>
        have q1 := far_eq A0
        have q2 : far P w2 = 50000 - b := by
          obtain ⟨_, _, q, _⟩ := hr2; exact far_eq q
        simp only [q1, q2]; omega
    · go_wp2_with (go_at_call 43; fail)
      go_at_call 43
      refine (H2.out _ _ _ A0).mono ?_
      rintro e w1 ⟨rfl, A1, K1⟩
      go_wp2_with fail
      go_ret
      exact ⟨rfl, ⟨h, q, A1, O0.keep K1⟩, K0.trans K1⟩
end Go.Proofs.YtggojafapieliabDoor
