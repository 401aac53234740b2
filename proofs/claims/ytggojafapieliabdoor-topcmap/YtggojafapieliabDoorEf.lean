/-
  Reading a program: codes with their text; parts of a program up to their end.
-/
import Derived.Test.YtggojafapieliabDoorEd
import Derived.Test.YtggojafapieliabDoorEe
import Derived.Test.YtggojafapieliabDoorDg
namespace Go.Proofs.YtggojafapieliabDoor
open Go.RowKit
set_option maxRecDepth 100000
attribute [local go_sem ↓] Go.wp_at_zero Go.wp_at_succ

/-- What a token is as a code. -/
def CodeIs (P : Nat) (s t : ByteArray) (bt c : Int) : Prop := ∀ (W : World) (a : Nat) (sp : Value), RdC W P s a bt sp → Calls Tryd.prog 68 #[.pointer (some ⟨P, 0, none⟩), .string t, .nilIface] W fun e w' => e = .returned (.tuple #[.int .i64 c, .nilIface]) ∧ Below W.heap.size W w'
/-- What a token is as a text. -/
def TextIs (t z : ByteArray) : Prop := ∀ (W : World), Calls Tryd.prog 69 #[.string t, .nilIface] W fun e w' => e = .returned (.tuple #[.string z, .nilIface]) ∧ Below W.heap.size W w'
set_option maxHeartbeats 1000000 in
theorem codes_says (P : Nat) (s t1 t2 t3 z : ByteArray) (x y : Int) (a b c : Nat) (bt : Int) (l : List Sp) (w : World) (h1 : CodeIs P s t1 bt x) (k2 : Tok P s a t2 b) (h2 : CodeIs P s t2 bt y) (k3 : Tok P s b t3 c) (h3 : TextIs t3 z)
    (h91 : (t3.toList == [91]) = false) (hl : l.length < 300) (hk : ∀ z ∈ l, SpOk z) (hx : ∀ z ∈ l, z.f < x) (hS : RdS w P s a bt l) :
    Calls Tryd.prog 47 #[.pointer (some ⟨P, 0, none⟩), .string t1] w fun e w' => e = .returned .nilIface ∧ RdS w' P s c bt (l ++ [⟨x, y, z⟩]) ∧ Below P w w' := by
  have H1 := hid h1
  have K2 := hid k2
  have H2 := hid h2
  have K3 := hid k3
  have H3 := hid h3
  have HAD := hid (fun W (hW : RdS W P s c bt l) => add_end P s z c bt x y l W hl hk hx hW)
  obtain ⟨v, hA, hO⟩ := hS
  have HA := hid hA
  have HO := hid hO
  have hPl := hA.lt
  clear h1 k2 h2 k3 h3 hA hO hl hk hx
  go_enter Tryd.func47, Tryd.ntmps47
  go_wp2_with (go_at_call 68; fail)
  go_at_call 68
  refine (H1.out _ _ _ HA.out).mono ?_
  rintro e w1 ⟨rfl, hb1⟩
  have A1 := HA.out.later hb1
  have G1 : KeepBut P w w1 := .of hb1
  clear hb1
  go_wp2_with (go_at_call 43; fail)
  go_at_call 43
  refine (K2.out _ _ _ A1).mono ?_
  rintro e w2 ⟨rfl, A2, G2⟩
  have G2' := G1.trans G2
  clear G1 G2 A1
  go_wp2_with (go_at_call 68; fail)
  go_at_call 68
  refine (H2.out _ _ _ A2).mono ?_
  rintro e w3 ⟨rfl, hb3⟩
  have A3 := RdC.lat A2 hb3
  have G3 := G2'.then hb3
  clear hb3 A2 G2'
  go_wp2_with (go_at_call 43; fail)
  go_at_call 43
  refine (K3.out _ _ _ A3).mono ?_
  rintro e w4 ⟨rfl, A4, G4⟩
  have G4' := G3.trans G4
  clear G3 G4 A3
  go_wp2_with (go_at_call 69; fail)
  go_at_call 69
  refine (H3.out _).mono ?_
  rintro e w5 ⟨rfl, hb5⟩
  have A5 := RdC.lat A4 hb5
  have G5 := G4'.then hb5
  clear hb5 A4 G4'
  go_wp2_with (go_at_call 70; fail)
  go_at_call 70
  refine (HAD.out _ (RdS.keep HO.out A5 G5)).mono ?_
  rintro e w6 ⟨rfl, S6, B6⟩
  go_wp2_with fail
  go_ret
  exact ⟨rfl, S6, (keepBelow G5 (by omega)).trans B6⟩
theorem RdS.far {P : Nat} {w : World} {s : ByteArray} {a : Nat} {bt : Int} {l : List Sp} (h : RdS w P s a bt l) : far P w = 50000 - a := by
  obtain ⟨v, hA, _⟩ := h
  exact far_eq hA
theorem RdS.keepT {w w' : World} {P : Nat} {s : ByteArray} {b : Nat} {bt : Int} {l : List Sp} {v : Value} (h : Own3 w (P + 1) v l) (hA : RdC w' P s b bt v) (k : KeepBut P w w') : RdS w' P s b bt l := RdS.keep h hA k
set_option maxHeartbeats 2000000 in
theorem upCodes (P : Nat) (s en t1 : ByteArray) (bt : Int) (l l2 : List Sp) (a a1 b c : Nat) (w : World) (hab : a < b) (hb9 : b < 50000) (hne : t1.toList.isEmpty = false) (hn1 : (t1.toList == en.toList) = false) (he : en.toList.isEmpty = false) (k1 : Tok P s a t1 a1) (k2 : Tok P s b en c)
    (hit : ∀ W, RdS W P s a1 bt l → Calls Tryd.prog 47 #[.pointer (some ⟨P, 0, none⟩), .string t1] W fun e w' => e = .returned .nilIface ∧ RdS w' P s b bt l2 ∧ Below P W w') (hS : RdS w P s a bt l) :
    Calls Tryd.prog 44 #[.pointer (some ⟨P, 0, none⟩), .string en, .func (.func 47) #[.pointer (some ⟨P, 0, none⟩)] #[]] w fun e w' => e = .returned .nilIface ∧ RdS w' P s c bt l2 ∧ Below P w w' := by
  have H1 := hid k1
  have H2 := hid k2
  have HI := hid hit
  have HS := hid hS
  have hPl : P < w.heap.size := by obtain ⟨v, hA, _⟩ := hS; exact hA.lt
  have hee : (en.toList == en.toList) = true := by simp
  clear k1 k2 hit hS
  go_enter Tryd.func44, Tryd.ntmps44
  go_wp2_with fail
  go_loopw [6] (fun _ wr => (RdS wr P s a bt l ∨ RdS wr P s b bt l2) ∧ Below P w wr) (fun _ wr => far P wr)
  case atStart => exact ⟨.inl HS.out, Below.refl _ _⟩
  case round =>
    obtain ⟨S0 | S0, B0⟩ := hrel
    · have F0 := hid S0.far
      obtain ⟨v, A0, O0⟩ := S0
      have hBs := B0.size
      go_wp2_with (go_at_call 43; fail)
      go_at_call 43
      refine (H1.out _ _ _ A0).mono ?_
      rintro e w1 ⟨rfl, A1, K1⟩
      have B1 := B0.trans (keepBelow K1 (by omega))
      have S1 := RdS.keep O0 A1 K1
      clear A0 O0 A1 K1 B0
      go_wp2_with (go_at_call 47; fail)
      go_at_call 47
      refine (HI.out _ S1).mono ?_
      rintro e w2 ⟨rfl, S2, B2⟩
      go_wp2_with fail
      go_roundw
      case rel => exact ⟨.inr S2, B1.trans B2⟩
      case measure =>
        have q1 := F0.out
        have q2 := S2.far
        simp only [q1, q2]; omega
    · obtain ⟨v, A0, O0⟩ := S0
      have hBs := B0.size
      go_wp2_with (go_at_call 43; fail)
      go_at_call 43
      refine (H2.out _ _ _ A0).mono ?_
      rintro e w1 ⟨rfl, A1, K1⟩
      have B1 := B0.trans (keepBelow K1 (by omega))
      have S1 := RdS.keep O0 A1 K1
      clear A0 O0 A1 K1 B0
      go_wp2_with fail
      go_ret
      exact ⟨rfl, S1, B1⟩
set_option maxHeartbeats 2000000 in
theorem upSpaceN (P : Nat) (s en t1 : ByteArray) (bt : Int) (a a1 b c : Nat) (w : World) (hab : a < b) (hb9 : b < 50000) (hne : t1.toList.isEmpty = false) (hn1 : (t1.toList == en.toList) = false) (he : en.toList.isEmpty = false) (k1 : Tok P s a t1 a1) (k2 : Tok P s b en c)
    (hit : ∀ W, RdC W P s a1 1 (.slice none 0 0) → Calls Tryd.prog 45 #[.pointer (some ⟨P, 0, none⟩), .string t1] W fun e w' => e = .returned .nilIface ∧ (RdC w' P s b bt (.slice none 0 0)) ∧ KeepBut P W w') (hA : RdC w P s a 1 (.slice none 0 0)) :
    Calls Tryd.prog 44 #[.pointer (some ⟨P, 0, none⟩), .string en, .func (.func 45) #[.pointer (some ⟨P, 0, none⟩)] #[]] w fun e w' => e = .returned .nilIface ∧ (RdC w' P s c bt (.slice none 0 0)) ∧ KeepBut P w w' := by
  have H1 := hid k1
  have H2 := hid k2
  have HI := hid hit
  have HA := hid hA
  have hee : (en.toList == en.toList) = true := by simp
  clear k1 k2 hit hA
  go_enter Tryd.func44, Tryd.ntmps44
  go_wp2_with fail
  go_loopw [6] (fun _ wr => ((RdC wr P s a 1 (.slice none 0 0)) ∨ (RdC wr P s b bt (.slice none 0 0))) ∧ KeepBut P w wr) (fun _ wr => far P wr)
  case atStart => exact ⟨.inl HA.out, KeepBut.refl _ _⟩
  case round =>
    obtain ⟨A0 | A0, K0⟩ := hrel
    · go_wp2_with (go_at_call 43; fail)
      go_at_call 43
      refine (H1.out _ _ _ A0).mono ?_
      rintro e w1 ⟨rfl, A1, K1⟩
      have K1' := K0.trans K1
      go_wp2_with (go_at_call 45; fail)
      go_at_call 45
      refine (HI.out _ A1).mono ?_
      rintro e w2 ⟨rfl, hr2, K2⟩
      go_wp2_with fail
      go_roundw
      case rel => exact ⟨.inr hr2, K1'.trans K2⟩
      case measure =>
        have q1 := far_eq A0
        have q2 : far P w2 = 50000 - b := far_eq hr2
        simp only [q1, q2]; omega
    · go_wp2_with (go_at_call 43; fail)
      go_at_call 43
      refine (H2.out _ _ _ A0).mono ?_
      rintro e w1 ⟨rfl, A1, K1⟩
      go_wp2_with fail
      go_ret
      exact ⟨rfl, A1, K0.trans K1⟩
end Go.Proofs.YtggojafapieliabDoor
