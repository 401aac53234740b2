/-
  Reading a program: codes of two bytes; units of any sign.
-/
import Derived.Test.YtggojafapieliabDoorEa
import Derived.Test.YtggojafapieliabDoorDe
import Derived.Laws.BitsLemmas
namespace Go.Proofs.YtggojafapieliabDoor
open Go.RowKit
set_option maxRecDepth 100000
attribute [local go_sem ↓] Go.wp_at_zero Go.wp_at_succ

theorem wraps_i64 (n : Int) (h₀ : 0 ≤ n) (h₁ : n < 2 ^ 31) : IntKind.i64.wrap n = n := by rw [IntKind.wrap_i64]; omega
theorem or64 {x y : Nat} (hx : x < 65536) (hy : y < 256) : bits .or .i64 ((x : Int) * 256) (y : Int) = (x : Int) * 256 + y :=
  bits_join .i64 31 (by decide) wraps_i64 8 _ _ (by omega) (by omega) (by omega) (by omega) (by omega) (by omega)
theorem or32 {x y : Nat} (hx : x < 256) (hy : y < 256) : bits .or .i32 ((x : Int) * 256) (y : Int) = (x : Int) * 256 + y :=
  bits_join .i32 31 (by decide) wraps_i32 8 _ _ (by omega) (by omega) (by omega) (by omega) (by omega) (by omega)
set_option maxHeartbeats 1000000 in
theorem space2 (P : Nat) (s t1 t2 : ByteArray) (c1 d1 c2 d2 : UInt8) (a b : Nat) (bt : Int) (sp : Value) (w : World) (h1 : t1.data.toList = strH [c1, d1]) (h2 : t2.data.toList = strH [c2, d2]) (ht : Tok P s a t2 b) (hA : RdC w P s a bt sp) :
    Calls Tryd.prog 45 #[.pointer (some ⟨P, 0, none⟩), .string t1] w fun e w' => e = .returned .nilIface ∧ RdC w' P s b 2 sp ∧ KeepBut P w w' := by
  have HT := hid ht
  have H1 := hid h1
  have H2 := hid h2
  have HA := hid hA
  clear ht h1 h2 hA
  go_enter Tryd.func45, Tryd.ntmps45
  go_wp2_with (go_at_call 67; fail)
  go_at_call 67
  refine (stringBytes_says t1 [c1, d1] _ H1.out (by simp)).mono ?_
  rintro e w1 ⟨v1, rfl, ho1, hb1⟩
  obtain ⟨al1, k1, rfl⟩ := own_len ho1
  have A1 := HA.out.later hb1
  have K1 : KeepBut P w w1 := .of hb1
  clear hb1 ho1
  go_wp2_with (go_at_call 43; fail)
  go_at_call 43
  refine (HT.out _ _ _ A1).mono ?_
  rintro e w2 ⟨rfl, A2, K2⟩
  have K2' := K1.trans K2
  clear K1 K2 A1
  go_wp2_with (go_at_call 67; fail)
  go_at_call 67
  refine (stringBytes_says t2 [c2, d2] _ H2.out (by simp)).mono ?_
  rintro e w3 ⟨v3, rfl, ho3, hb3⟩
  obtain ⟨al3, k3, rfl⟩ := own_len ho3
  have A3 := A2.later hb3
  have K3 := K2'.then hb3
  clear hb3 ho3 A2 K2'
  have f2 := A3.free 2
  have c2' := A3.cell 2
  have z3 := A3.lt
  simp at c2'
  go_wp2_with fail
  go_ret
  refine ⟨rfl, ?_, K3.set 2 _⟩
  have q : At (w3.setCell ⟨P, 2, none⟩ (.int .i64 2)) P 59 #[.string s, .int .i64 (b : Int), .int .i64 2, sp] := by
    unfold At
    rw [setCell_eq_setRow w3 P 2 _ _ (0, 0) _ A3]
    exact setRow_heap w3 P _ _ _ _ A3
  exact q
set_option maxHeartbeats 1000000 in
theorem code2 (P : Nat) (s t : ByteArray) (c d : UInt8) (a : Nat) (sp : Value) (w : World) (h : t.data.toList = strH [c, d]) (hA : RdC w P s a 2 sp) :
    Calls Tryd.prog 68 #[.pointer (some ⟨P, 0, none⟩), .string t, .nilIface] w fun e w' => e = .returned (.tuple #[.int .i64 ((c.toNat : Int) * 256 + d.toNat), .nilIface]) ∧ Below w.heap.size w w' := by
  have H1 := hid h
  have HA := hid hA
  have ho := or0 c
  have hc := c.toNat_lt
  have hd := d.toNat_lt
  have ho2 := or64 (x := c.toNat) (y := d.toNat) (by omega) (by omega)
  have hc' : (c.toNat : Int) < 256 := by omega
  clear h hA
  go_enter Tryd.func68, Tryd.ntmps68
  go_wp2_with (go_at_call 67; fail)
  go_at_call 67
  refine (stringBytes_says t [c, d] _ H1.out (by simp)).mono ?_
  rintro e w1 ⟨v1, rfl, ho1, hb1⟩
  obtain ⟨g, k1, rfl, _, hg, hcell⟩ := own_cell ho1 (by simp)
  have gc := hcell 0 c rfl
  have gd := hcell 1 d rfl
  have A1 := HA.out.later hb1
  have r2 := A1.cell 2
  have z1 := A1.lt
  simp at r2
  clear hcell ho1
  go_wp2_with fail
  go_loopw [9, 31] (fun n i wq => ((i = .int .i64 0 ∧ n = .int .i64 0) ∨ (i = .int .i64 1 ∧ n = .int .i64 (c.toNat : Int)) ∨ (i = .int .i64 2 ∧ n = .int .i64 ((c.toNat : Int) * 256 + d.toNat))) ∧ wq = w1) (fun _ i _ => 2 - (intOf i).toNat)
  case atStart => exact ⟨.inl ⟨rfl, rfl⟩, rfl⟩
  case round =>
    obtain ⟨⟨rfl, rfl⟩ | ⟨rfl, rfl⟩ | ⟨rfl, rfl⟩, rfl⟩ := hrel
    · go_wp2_with fail
      go_roundw
      case rel => exact ⟨.inr (.inl ⟨rfl, rfl⟩), by first | rfl | trivial⟩
      case measure => simp [intOf]
    · go_wp2_with fail
      go_roundw
      case rel => exact ⟨.inr (.inr ⟨rfl, rfl⟩), by first | rfl | trivial⟩
      case measure => simp [intOf]
    · go_wp2_with fail
      go_ret2
      exact ⟨rfl, hb1⟩
set_option maxHeartbeats 1000000 in
theorem unitAt (g o n k : Nat) (c d : UInt8) (w : World) (hn : 2 ≤ n) (h0 : w.cell? ⟨g, o, none⟩ = some (.int .u8 (c.toNat : Int))) (h1 : w.cell? ⟨g, o + 1, none⟩ = some (.int .u8 (d.toNat : Int))) :
    Calls Tryd.prog 121 #[.slice (some ⟨g, o, none⟩) n k] w fun e w' => e = .returned (.tuple #[.int .i32 ((c.toNat : Int) * 256 + d.toNat), .bool true]) ∧ Below w.heap.size w w' := by
  have hc := c.toNat_lt
  have hd := d.toNat_lt
  have ho := or32 (x := c.toNat) (y := d.toNat) (by omega) (by omega)
  have hn' : ¬ (n : Int) < 2 := by omega
  have hn0 : (0 : Int) < n := by omega
  have hn1 : (1 : Int) < n := by omega
  go_enter Tryd.func121, Tryd.ntmps121
  go_wp2_with fail
  go_region
  all_goals
    go_wp2_with fail
    go_ret2
    exact ⟨rfl, by first | exact Below.refl _ _ | exact (Below.refl _ _).drew⟩
end Go.Proofs.YtggojafapieliabDoor
