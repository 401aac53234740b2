/-
  Numbers of four digits to the base 16, further.
-/
import Derived.Test.YtggojafapieliabDoorGa
namespace Go.Proofs.YtggojafapieliabDoor
open Go.RowKit
set_option maxRecDepth 100000
attribute [local go_sem ↓] Go.wp_at_zero Go.wp_at_succ

set_option maxHeartbeats 1000000 in
theorem parseInt4i (s : ByteArray) (xs : List Nat) (w : World) (hs : s.data.toList = xs.map dgt) (hx : ∀ x ∈ xs, x < 16) (hl : xs.length = 4) :
    Calls Tryd.prog 84 #[.string s, .int .i64 16, .int .i64 32] w fun e w' => e = .returned (.tuple #[.int .i64 (hxN xs : Nat), .nilIface]) ∧ Below w.heap.size w w' := by
  have hp := parseUint4 s xs w hs hx hl
  have hsz : s.size = 4 := by rw [show s.size = s.data.toList.length by simp, hs, List.length_map, hl]
  have hie : s.toList.isEmpty = false := by cases hh : s.toList with
    | nil => have := (toListNil s).1 hh; omega
    | cons a l => rfl
  have hlt : hxN xs < 65536 := by have := hxN_take xs 4 (by omega) hx; rwa [List.take_of_length_le (by omega)] at this
  have h0 : 0 < s.size := by omega
  obtain ⟨x0, r, rfl⟩ : ∃ x0 r, xs = x0 :: r := by
    cases xs with
    | nil => cases hl
    | cons a r => exact ⟨a, r, rfl⟩
  have hb : s[0] = dgt x0 := by
    have : s = ⟨((x0 :: r).map dgt).toArray⟩ := by apply Go.WideShapes.bytes_inj; simpa using hs
    subst this
    rfl
  have hd : (∀ n : Fin 16, ((dgt n.1).toNat : Int) ≠ 43 ∧ ((dgt n.1).toNat : Int) ≠ 45) := by decide
  have hx0 := hx x0 (by simp)
  have hne := hd ⟨x0, hx0⟩
  have c1 : ((dgt x0).toNat : Int) ≠ 43 := hne.1
  have c2 : ((dgt x0).toNat : Int) ≠ 45 := hne.2
  have c3 : (((dgt x0).toNat : Int) == 43) = false := by simpa using c1
  have c4 : (((dgt x0).toNat : Int) == 45) = false := by simpa using c2
  rw [← hb] at c1 c2 c3 c4
  generalize hxN (x0 :: r) = N at *
  have d1 : decide ((2147483648 : Int) ≤ (N : Int)) = false := decide_eq_false (by omega)
  have h0' : (0 : Int) < s.size := by omega
  have HN := hid hlt
  clear hs hx hl hsz hb hd hx0 hne hlt
  go_enter Tryd.func84, Tryd.ntmps84
  go_wp2_with (go_at_call 102; go_must (refine hp.mono ?_); rintro e w1 ⟨rfl, hb1⟩)
  go_ret2
  refine ⟨?_, hb1⟩
  show Ending.returned (.tuple #[.int .i64 (wrap64 (N : Int)), .nilIface]) = _
  rw [show wrap64 (N : Int) = (N : Int) by have := HN.out; unfold wrap64; omega]
theorem parseInt4 (s : ByteArray) (xs : List Nat) (w : World) (hs : s.data.toList = xs.map dgt) (hx : ∀ x ∈ xs, x < 16) (hl : xs.length = 4) :
    Calls Tryd.prog 62 #[.string s, .int .i64 16, .int .i64 32] w fun e w' => e = .returned (.tuple #[.int .i64 (hxN xs : Nat), .nilIface]) ∧ Below w.heap.size w w' := by
  have hp := parseInt4i s xs w hs hx hl
  clear hs hx hl
  go_enter Tryd.func62, Tryd.ntmps62
  go_wp2_with (go_at_call 84; go_must (refine hp.mono ?_); rintro e w1 ⟨rfl, hb1⟩)
  go_ret2
  exact ⟨rfl, hb1⟩
end Go.Proofs.YtggojafapieliabDoor
