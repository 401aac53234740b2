/-
  Reading a program: the closed one.
-/
import Derived.Test.YtddoigjjgcefkaaDoorDg
import Derived.Test.YtddoigjjgcefkaaDoorCn
namespace Go.Proofs.YtddoigjjgcefkaaDoor
open Go.RowKit
set_option maxRecDepth 100000
attribute [local go_sem ↓] Go.wp_at_zero Go.wp_at_succ

def clS : ByteArray := ⟨#[98, 101, 103, 105, 110, 99, 111, 100, 101, 115, 112, 97, 99, 101, 114, 97, 110, 103, 101, 32, 60, 48, 48, 62, 32, 60, 70, 70, 62, 32, 101, 110, 100, 99, 111, 100, 101, 115, 112, 97, 99, 101, 114, 97, 110, 103, 101, 32, 98, 101, 103, 105, 110, 98, 102, 99, 104, 97, 114, 32, 60, 52, 49, 62, 32, 60, 48, 48, 52, 50, 62, 32, 101, 110, 100, 98, 102, 99, 104, 97, 114]⟩
theorem tk0 (P : Nat) : Tok P clS 0 ⟨#[98, 101, 103, 105, 110, 99, 111, 100, 101, 115, 112, 97, 99, 101, 114, 97, 110, 103, 101]⟩ 19 := fun W bt sp hA => token_word clS (clS.extract 0 clS.size) ⟨#[98, 101, 103, 105, 110, 99, 111, 100, 101, 115, 112, 97, 99, 101, 114, 97, 110, 103, 101]⟩ 0 0 19 bt sp P W (by decide) (by decide) (by decide) (by decide) rfl (by decide) (by decide) (by decide) (wordP (clS.extract 0 clS.size) 0) rfl (by decide) (by decide) (by decide) (by decide) hA
theorem tk1 (P : Nat) : Tok P clS 19 ⟨#[60, 48, 48, 62]⟩ 24 := fun W bt sp hA => token_angle clS (clS.extract 20 clS.size) ⟨#[60, 48, 48, 62]⟩ 19 20 3 bt sp P W (by decide) (by decide) (by decide) (by decide) rfl (by decide) (by decide) (by decide) (by decide) (by decide) (by decide) hA
theorem tk2 (P : Nat) : Tok P clS 24 ⟨#[60, 70, 70, 62]⟩ 29 := fun W bt sp hA => token_angle clS (clS.extract 25 clS.size) ⟨#[60, 70, 70, 62]⟩ 24 25 3 bt sp P W (by decide) (by decide) (by decide) (by decide) rfl (by decide) (by decide) (by decide) (by decide) (by decide) (by decide) hA
theorem tk3 (P : Nat) : Tok P clS 29 ⟨#[101, 110, 100, 99, 111, 100, 101, 115, 112, 97, 99, 101, 114, 97, 110, 103, 101]⟩ 47 := fun W bt sp hA => token_word clS (clS.extract 30 clS.size) ⟨#[101, 110, 100, 99, 111, 100, 101, 115, 112, 97, 99, 101, 114, 97, 110, 103, 101]⟩ 29 30 17 bt sp P W (by decide) (by decide) (by decide) (by decide) rfl (by decide) (by decide) (by decide) (wordP (clS.extract 30 clS.size) 0) rfl (by decide) (by decide) (by decide) (by decide) hA
theorem tk4 (P : Nat) : Tok P clS 47 ⟨#[98, 101, 103, 105, 110, 98, 102, 99, 104, 97, 114]⟩ 59 := fun W bt sp hA => token_word clS (clS.extract 48 clS.size) ⟨#[98, 101, 103, 105, 110, 98, 102, 99, 104, 97, 114]⟩ 47 48 11 bt sp P W (by decide) (by decide) (by decide) (by decide) rfl (by decide) (by decide) (by decide) (wordP (clS.extract 48 clS.size) 0) rfl (by decide) (by decide) (by decide) (by decide) hA
theorem tk5 (P : Nat) : Tok P clS 59 ⟨#[60, 52, 49, 62]⟩ 64 := fun W bt sp hA => token_angle clS (clS.extract 60 clS.size) ⟨#[60, 52, 49, 62]⟩ 59 60 3 bt sp P W (by decide) (by decide) (by decide) (by decide) rfl (by decide) (by decide) (by decide) (by decide) (by decide) (by decide) hA
theorem tk6 (P : Nat) : Tok P clS 64 ⟨#[60, 48, 48, 52, 50, 62]⟩ 71 := fun W bt sp hA => token_angle clS (clS.extract 65 clS.size) ⟨#[60, 48, 48, 52, 50, 62]⟩ 64 65 5 bt sp P W (by decide) (by decide) (by decide) (by decide) rfl (by decide) (by decide) (by decide) (by decide) (by decide) (by decide) hA
theorem tk7 (P : Nat) : Tok P clS 71 ⟨#[101, 110, 100, 98, 102, 99, 104, 97, 114]⟩ 81 := fun W bt sp hA => token_word clS (clS.extract 72 clS.size) ⟨#[101, 110, 100, 98, 102, 99, 104, 97, 114]⟩ 71 72 9 bt sp P W (by decide) (by decide) (by decide) (by decide) rfl (by decide) (by decide) (by decide) (wordP (clS.extract 72 clS.size) 0) rfl (by decide) (by decide) (by decide) (by decide) hA
theorem tkEnd (P : Nat) (W : World) (bt : Int) (sp : Value) (hA : RdC W P clS 81 bt sp) : Calls Tryd.prog 138 #[.pointer (some ⟨P, 0, none⟩)] W fun e w' => e = .returned (.tuple #[.string ⟨#[]⟩, .nilIface]) ∧ RdC w' P clS clS.size bt sp ∧ KeepBut P W w' :=
  token_end clS 81 bt sp P W (by decide) (by decide) (by decide) hA
set_option maxHeartbeats 2000000 in
theorem program1 (P : Nat) (w : World) (hA : RdC w P clS 0 1 (.slice none 0 0)) :
    Calls Tryd.prog 122 #[.pointer (some ⟨P, 0, none⟩)] w fun e w' => e = .returned .nilIface ∧ (∃ h q, RdC w' P clS clS.size 1 (.slice (some ⟨h, 0, none⟩) 1 q) ∧ One w' P h 65 65 ⟨#[66]⟩) ∧ KeepBut P w w' := by
  have HA := hid hA
  clear hA
  go_enter Tryd.func122, Tryd.ntmps122
  go_wp2_with fail
  go_loopw [3] (fun _ wr => (RdC wr P clS 0 1 (.slice none 0 0) ∨ RdC wr P clS 47 1 (.slice none 0 0) ∨ (∃ h q, RdC wr P clS 81 1 (.slice (some ⟨h, 0, none⟩) 1 q) ∧ One wr P h 65 65 ⟨#[66]⟩)) ∧ KeepBut P w wr) (fun _ wr => far P wr)
  case atStart => exact ⟨.inl HA.out, KeepBut.refl _ _⟩
  case round =>
    obtain ⟨A0 | A0 | ⟨h, q, A0, O0⟩, K0⟩ := hrel
    · go_wp2_with (go_at_call 138; fail)
      go_at_call 138
      refine (tk0 P _ _ _ A0).mono ?_
      rintro e w1 ⟨rfl, A1, K1⟩
      have K1' := K0.trans K1
      go_wp2_with (go_at_call 139; fail)
      go_at_call 139
      refine (upSpace P clS ⟨#[101, 110, 100, 99, 111, 100, 101, 115, 112, 97, 99, 101, 114, 97, 110, 103, 101]⟩ ⟨#[60, 48, 48, 62]⟩ 19 24 29 47 _ (by decide) (by decide) (by simp only [ByteArray.toList_eq]; decide) (by simp only [ByteArray.toList_eq]; decide) (by simp only [ByteArray.toList_eq]; decide) (tk1 P) (tk3 P) (fun W h => space1 P clS ⟨#[60, 48, 48, 62]⟩ ⟨#[60, 70, 70, 62]⟩ 0 255 24 29 1 _ W (by decide) (by decide) (tk2 P) h) A1).mono ?_
      rintro e w2 ⟨rfl, A2, K2⟩
      go_wp2_with fail
      go_roundw
      case rel => exact ⟨.inr (.inl A2), K1'.trans K2⟩
      case measure =>
        have q1 := far_eq A0
        have q2 := far_eq A2
        simp only [q1, q2]; omega
    · go_wp2_with (go_at_call 138; fail)
      go_at_call 138
      refine (tk4 P _ _ _ A0).mono ?_
      rintro e w1 ⟨rfl, A1, K1⟩
      have K1' := K0.trans K1
      go_wp2_with (go_at_call 139; fail)
      go_at_call 139
      refine (upChar P clS ⟨#[101, 110, 100, 98, 102, 99, 104, 97, 114]⟩ ⟨#[60, 52, 49, 62]⟩ 65 65 ⟨#[66]⟩ 59 64 71 81 _ (by decide) (by decide) (by simp only [ByteArray.toList_eq]; decide) (by simp only [ByteArray.toList_eq]; decide) (by simp only [ByteArray.toList_eq]; decide) (tk5 P) (tk7 P) (fun W h => char1 P clS ⟨#[60, 52, 49, 62]⟩ ⟨#[60, 48, 48, 52, 50, 62]⟩ 65 66 64 71 W (by decide) (by decide) (by decide) (tk6 P) h) A1).mono ?_
      rintro e w2 ⟨rfl, hr2, K2⟩
      go_wp2_with fail
      go_roundw
      case rel => exact ⟨.inr (.inr hr2), K1'.trans K2⟩
      case measure =>
        have q1 := far_eq A0
        have q2 : far P w2 = 1000 - 81 := by
          obtain ⟨_, _, q, _⟩ := hr2; exact far_eq q
        simp only [q1, q2]; omega
    · go_wp2_with (go_at_call 138; fail)
      go_at_call 138
      refine (tkEnd P _ _ _ A0).mono ?_
      rintro e w1 ⟨rfl, A1, K1⟩
      go_wp2_with fail
      go_ret
      exact ⟨rfl, ⟨h, q, A1, O0.keep K1⟩, K0.trans K1⟩
end Go.Proofs.YtddoigjjgcefkaaDoor
