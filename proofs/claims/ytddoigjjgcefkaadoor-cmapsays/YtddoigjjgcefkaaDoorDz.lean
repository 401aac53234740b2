/-
  The law on codes as text, whole.
-/
import Derived.Test.YtddoigjjgcefkaaDoorDh
namespace Go.Proofs.YtddoigjjgcefkaaDoor
open Go.RowKit
set_option maxRecDepth 100000
attribute [local go_sem ↓] Go.wp_at_zero Go.wp_at_succ

theorem one_ok : spFault [⟨65, 65, ⟨#[66]⟩⟩] false = 0 := by decide
set_option maxHeartbeats 1000000 in
theorem parse1 (w : World) (hT : Tb w) : Calls Tryd.prog 87 #[.string clS] w fun e w' => (∃ h q, e = .returned (.tuple #[.slice (some ⟨h, 0, none⟩) 1 q, .bool false, .nilIface]) ∧ h < w'.heap.size ∧ w'.cell? ⟨h, 0, none⟩ = some (.int .i64 65) ∧ w'.cell? ⟨h, 1, none⟩ = some (.int .i64 65) ∧ w'.cell? ⟨h, 2, none⟩ = some (.string ⟨#[66]⟩)) ∧ Below w.heap.size w w' := by
  have HT := hid hT
  have hsz : clS.size = 81 := by decide
  have hsz' : (clS.size : Int) = 81 := by rw [hsz]; rfl
  clear hT
  go_enter Tryd.func87, Tryd.ntmps87
  go_wp2_with (go_at_call 122; fail)
  go_at_call 122
  refine (program1 w.heap.size _ (At.new w _ _ rfl)).mono ?_
  rintro e w1 ⟨rfl, ⟨h, q, A1, O1⟩, K1⟩
  have hB1 : Below w.heap.size w w1 := K1.below ((Below.refl _ w).alloc (Nat.le_refl _) _) (Nat.le_refl _)
  have r2 := A1.cell 2
  have r3 := A1.cell 3
  have z1 := A1.lt
  simp at r2 r3
  have hsp : SpAt w1 (some ⟨h, 0, none⟩) [⟨65, 65, ⟨#[66]⟩⟩] := fun i x hx => by
    match i, hx with
    | 0, hx =>
      simp at hx
      subst hx
      exact ⟨h, 0, rfl, O1.2.1, by simpa using O1.2.2.1, by simpa using O1.2.2.2.1, by simpa using O1.2.2.2.2, ⟨by decide, by decide⟩, ⟨by decide, by decide⟩, by unfold maxLen; decide⟩
    | i + 1, hx => simp at hx
  have hck := check_sp [⟨65, 65, ⟨#[66]⟩⟩] false (some ⟨h, 0, none⟩) q w1 (by unfold maxLen; simp) hsp (HT.out.below hB1)
  rw [one_ok, errN_0] at hck
  have HO := hid O1
  clear hsp K1 O1
  go_wp2_with (go_at_call 50; go_must (refine hck.mono ?_); rintro e w2 ⟨rfl, hb2⟩; have y3 := hb2.cell (p := ⟨w.heap.size, 3, none⟩) z1)
  go_ret3
  have o := HO.out
  refine ⟨⟨h, q, rfl, Nat.lt_of_lt_of_le o.2.1 hb2.size, (hb2.cell (p := ⟨h, 0, none⟩) o.2.1).trans o.2.2.1, (hb2.cell (p := ⟨h, 1, none⟩) o.2.1).trans o.2.2.2.1, (hb2.cell (p := ⟨h, 2, none⟩) o.2.1).trans o.2.2.2.2⟩, chn' hB1 hb2⟩
set_option maxHeartbeats 1000000 in
theorem maps_any (w : World) (hT : Tb w) : Calls Tryd.prog 46 #[] w fun e w' => e = .returned (.bool true) ∧ Below w.heap.size w w' := by
  have hp := parse1 w hT
  unfold clS at hp
  clear hT
  go_enter Tryd.func46, Tryd.ntmps46
  go_wp2_with (go_at_call 87; fail)
  go_at_call 87
  refine hp.mono ?_
  rintro e w1 ⟨⟨h, q, rfl, hl, c0, c1, c2⟩, hb1⟩
  clear hp
  go_wp2_with (go_at_call 9; refine (same_nil 0 _).mono ?_; rintro e ww ⟨rfl, rfl⟩)
  go_ret
  exact ⟨by first | rfl | (simp; done), by first | exact hb1 | exact chn' hb1 (by go_grown)⟩
theorem cmapSays_any (l : List Sp) (wide : Bool) (code : Int) (al : Option Addr) (cap : Nat) (w : World) (hl : l.length ≤ maxLen) (hA : SpAt w al l) (hT : Tb w) :
    Calls Tryd.prog 8 #[.slice al l.length cap, .bool wide, .int .i64 code] w fun e w' => e = .returned (.bool true) ∧ Below w.heap.size w w' :=
  cmapSays_of l wide code al cap w hl hA hT maps_any
end Go.Proofs.YtddoigjjgcefkaaDoor
