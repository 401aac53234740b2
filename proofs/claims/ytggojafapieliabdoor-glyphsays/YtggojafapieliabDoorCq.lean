/-
  Spans that are few; what is written of them.
-/
import Derived.Test.YtggojafapieliabDoorCh
namespace Go.Proofs.YtggojafapieliabDoor
open Go.RowKit
set_option maxRecDepth 100000
attribute [local go_sem ↓] Go.wp_at_zero Go.wp_at_succ

set_option maxHeartbeats 1000000 in
theorem light_sp (l : List Sp) (al : Option Addr) (cap : Nat) (w : World) (hl : l.length ≤ maxLen) (hA : SpAt w al l) :
    Calls Tryd.prog 13 #[.slice al l.length cap] w fun e w' => (e = .returned (.bool false) ∨ e = .returned (.bool true) ∧ ∀ x ∈ l, x.s.size ≤ 60) ∧ Below w.heap.size w w' := by
  unfold maxLen at hl
  by_cases h3 : 310 < l.length
  · have h3' : (310 : Int) < l.length := by omega
    go_enter Tryd.func13, Tryd.ntmps13
    go_wp2
    go_ret
    exact ⟨.inl rfl, Below.refl _ _⟩
  have h3' : ¬ (310 : Int) < l.length := by omega
  have HA := hid hA
  clear hA
  go_enter Tryd.func13, Tryd.ntmps13
  go_wp2_with fail
  go_loopw [3] (fun i wr => ∃ p : Nat, i = .int .i64 p ∧ p ≤ l.length ∧ Hid (∀ x ∈ l.take p, x.s.size ≤ 60) ∧ Below w.heap.size w wr) (fun i _ => l.length - (intOf i).toNat)
  case atStart => exact ⟨0, rfl, Nat.zero_le _, fun x hx => by simp at hx, Below.refl _ _⟩
  case round =>
    obtain ⟨p, rfl, hp, HP, hB⟩ := hrel
    by_cases hpl : p < l.length
    · have hpl' : (p : Int) < l.length := by omega
      have HT := hid (show l.take (p + 1) = l.take p ++ [l[p]] from List.take_succ_eq_append_getElem hpl)
      obtain ⟨b, off, rfl, hbl, g0, g1, g2, _, _, _⟩ := (HA.out.later hB) p l[p] (List.getElem?_eq_getElem hpl)
      generalize l[p] = x at *
      by_cases h6 : (60 : Int) < x.s.size
      · go_wp2_with fail
        go_ret
        exact ⟨.inl rfl, hB⟩
      · go_wp2_with fail
        go_roundw
        case rel =>
          refine ⟨p + 1, by go_num, by omega, hid fun y hy => ?_, hB⟩
          rw [HT.out] at hy
          rcases List.mem_append.1 hy with hy | hy
          · exact HP.out y hy
          · simp at hy; subst hy; omega
        case measure => simp [intOf]; omega
    · have hpl' : ¬ (p : Int) < l.length := by omega
      go_wp2_with fail
      go_ret
      have q := HP.out
      rw [List.take_of_length_le (by omega)] at q
      exact ⟨.inr ⟨rfl, q⟩, hB⟩
theorem write_ok (l : List Sp) (wide : Bool) (al : Option Addr) (cap : Nat) (w : World) (hl : l.length ≤ maxLen) (hA : SpAt w al l) (hT : Tb w) (hf : spFault l wide = 0) :
    Calls Tryd.prog 12 #[.slice al l.length cap, .bool wide] w fun e w' => e = .returned (.tuple #[.string ⟨(spsT wide l).toArray⟩, .nilIface]) ∧ Below w.heap.size w w' := by
  cases wide
  · exact write_ok_false l al cap w hl hA hT hf
  · exact write_ok_true l al cap w hl hA hT hf
end Go.Proofs.YtggojafapieliabDoor
