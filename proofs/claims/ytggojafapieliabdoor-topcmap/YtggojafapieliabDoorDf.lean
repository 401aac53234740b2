/-
  Reading a program: a span is put in.
-/
import Derived.Test.YtggojafapieliabDoorDe
import Derived.Deep.RegionHeld
namespace Go.Proofs.YtggojafapieliabDoor
open Go.RowKit
set_option maxRecDepth 100000
attribute [local go_sem ↓] Go.wp_at_zero Go.wp_at_succ

set_option maxHeartbeats 1000000 in
theorem find0 (f : Value) (x : Int) (w : World) :
    Calls Tryd.prog 95 #[.slice none 0 0, .int .i64 x, f] w fun e w' => e = .returned (.tuple #[.int .i64 0, .bool false]) ∧ w' = w := by
  go_enter Tryd.func95, Tryd.ntmps95
  go_wp2_with fail
  go_loopw [9, 10] (fun i j wq => i = .int .i64 0 ∧ j = .int .i64 0 ∧ wq = w) (fun _ _ _ => 0)
  case atStart => exact ⟨rfl, rfl, rfl⟩
  case round =>
    obtain ⟨rfl, rfl, rfl⟩ := hrel
    go_wp2_with fail
    go_ret2
    exact ⟨rfl, rfl⟩
set_option maxHeartbeats 1000000 in
theorem insert0 (g k : Nat) (a b : Int) (s : ByteArray) (w : World) (hA : At w g 36 #[.int .i64 a, .int .i64 b, .string s]) :
    Calls Tryd.prog 96 #[.slice none 0 0, .int .i64 0, .slice (some ⟨g, 0, none⟩) 1 k] w fun e w' => ∃ h q, e = .returned (.slice (some ⟨h, 0, none⟩) 1 q) ∧ w.heap.size ≤ h ∧ w'.cell? ⟨h, 0, none⟩ = some (.int .i64 a) ∧ w'.cell? ⟨h, 1, none⟩ = some (.int .i64 b) ∧ w'.cell? ⟨h, 2, none⟩ = some (.string s) ∧ h < w'.heap.size ∧ Below w.heap.size w w' := by
  have c0 := hA.cell 0
  have c1 := hA.cell 1
  have c2 := hA.cell 2
  have z0 := hA.lt
  simp at c0 c1 c2
  go_enter Tryd.func96, Tryd.ntmps96
  go_wp2_with fail
  go_ret
  refine ⟨w.heap.size, _, rfl, Nat.le_refl _, ?_, ?_, ?_, by simp, ((Below.refl _ w).alloc (Nat.le_refl _) _).drew⟩
  · exact (World.cell?_alloc_at (w := w) _ _ _ _ rfl).trans (by rw [Array.getElem?_append_left (by simp)]; rfl)
  · exact (World.cell?_alloc_at (w := w) _ _ _ _ rfl).trans (by rw [Array.getElem?_append_left (by simp)]; rfl)
  · exact (World.cell?_alloc_at (w := w) _ _ _ _ rfl).trans (by rw [Array.getElem?_append_left (by simp)]; rfl)
set_option maxHeartbeats 1000000 in
theorem add0 (P : Nat) (s t : ByteArray) (a : Nat) (bt x y : Int) (w : World) (hA : RdC w P s a bt (.slice none 0 0)) :
    Calls Tryd.prog 70 #[.pointer (some ⟨P, 0, none⟩), .int .i64 x, .int .i64 y, .string t] w fun e w' => e = .returned .nilIface ∧ ∃ h q, RdC w' P s a bt (.slice (some ⟨h, 0, none⟩) 1 q) ∧ h ≠ P ∧ w.heap.size ≤ h ∧ w'.cell? ⟨h, 0, none⟩ = some (.int .i64 x) ∧ w'.cell? ⟨h, 1, none⟩ = some (.int .i64 y) ∧ w'.cell? ⟨h, 2, none⟩ = some (.string t) ∧ h < w'.heap.size ∧ KeepBut P w w' := by
  have c3 := hA.cell 3
  have z0 := hA.lt
  simp at c3
  have HA := hid hA
  clear hA
  go_enter Tryd.func70, Tryd.ntmps70
  go_wp2_with (go_at_call 95; refine (find0 _ _ _).mono ?_; rintro e ww ⟨rfl, rfl⟩)
  refine (insert0 ww.heap.size 1 x y t _ (At.new ww _ _ rfl)).mono ?_
  rintro e w1 ⟨h, q, rfl, hh, k0, k1, k2, hl, hb⟩
  have A1 := (HA.out.alloc _).later hb
  have K1 : KeepBut P ww w1 := .of (chn' (by go_grown) hb)
  have hne : h ≠ P := fun e => by subst e; simp at hh; omega
  have hle : ww.heap.size ≤ h := by simp at hh; omega
  have f3 := A1.free 3
  have d3 := A1.cell 3
  have z1 := A1.lt
  simp at d3
  clear hb
  go_wp2_with fail
  go_ret
  refine ⟨rfl, h, q, ?_, hne, hle, ?_, ?_, ?_, by simpa using hl, K1.set 3 _⟩
  · unfold RdC At
    rw [setCell_eq_setRow w1 P 3 _ _ (0, 0) _ A1]
    exact setRow_heap w1 P _ _ _ _ A1
  · rw [World.cell?_setCell_far _ _ _ _ (fun e => hne e.symm)]; exact k0
  · rw [World.cell?_setCell_far _ _ _ _ (fun e => hne e.symm)]; exact k1
  · rw [World.cell?_setCell_far _ _ _ _ (fun e => hne e.symm)]; exact k2
end Go.Proofs.YtggojafapieliabDoor
