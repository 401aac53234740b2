/-
  Reading a program: codes and texts.
-/
import Derived.Test.YtggojafapieliabDoorDc
namespace Go.Proofs.YtggojafapieliabDoor
open Go.RowKit
set_option maxRecDepth 100000
attribute [local go_sem ↓] Go.wp_at_zero Go.wp_at_succ

theorem own_cell {w : World} {B : Nat} {v : Value} {xs : List UInt8} (h : Own8 w B v xs) (hx : xs ≠ []) : ∃ g c, v = .slice (some ⟨g, 0, none⟩) xs.length c ∧ xs.length ≤ c ∧ g < w.heap.size ∧ ∀ j y, xs[j]? = some y → w.cell? ⟨g, j, none⟩ = some (.int .u8 (y.toNat : Int)) := by
  have hc := fun g => World.ownsRow.cells h (g := g)
  obtain ⟨_, ⟨rfl, h2⟩ | ⟨g, cap, cur, rfl, h2, h3, h4, _⟩⟩ := h
  · exact absurd (List.eq_nil_of_length_eq_zero h2) hx
  · refine ⟨g, cap, rfl, h4, (Array.getElem?_eq_some_iff.1 h3).1, fun j y hj => ?_⟩
    have := hc g rfl j (byteV y) (by simp [hj])
    rw [Lib.add_plain, Nat.zero_add] at this
    exact this
theorem or0 (c : UInt8) : bits .or .i64 0 (c.toNat : Int) = (c.toNat : Int) := by
  have h : ∀ x : Fin 256, bits .or .i64 0 (x.1 : Int) = (x.1 : Int) := by decide
  exact h ⟨c.toNat, c.toNat_lt⟩
theorem or0r (c : UInt8) : bits .or .i32 0 (c.toNat : Int) = (c.toNat : Int) := by
  have h : ∀ x : Fin 256, bits .or .i32 0 (x.1 : Int) = (x.1 : Int) := by decide
  exact h ⟨c.toNat, c.toNat_lt⟩
set_option maxHeartbeats 1000000 in
theorem code1 (P : Nat) (s t : ByteArray) (c : UInt8) (a : Nat) (sp : Value) (w : World) (h : t.data.toList = strH [c]) (hA : RdC w P s a 1 sp) :
    Calls Tryd.prog 68 #[.pointer (some ⟨P, 0, none⟩), .string t, .nilIface] w fun e w' => e = .returned (.tuple #[.int .i64 (c.toNat : Int), .nilIface]) ∧ Below w.heap.size w w' := by
  have H1 := hid h
  have HA := hid hA
  have ho := or0 c
  have hc := c.toNat_lt
  have hc' : (c.toNat : Int) < 256 := by omega
  clear h hA
  go_enter Tryd.func68, Tryd.ntmps68
  go_wp2_with (go_at_call 67; fail)
  go_at_call 67
  refine (stringBytes_says t [c] _ H1.out (by simp)).mono ?_
  rintro e w1 ⟨v1, rfl, ho1, hb1⟩
  obtain ⟨g, k1, rfl, _, hg, hcell⟩ := own_cell ho1 (by simp)
  have gc := hcell 0 c rfl
  have A1 := HA.out.later hb1
  have r2 := A1.cell 2
  have z1 := A1.lt
  simp at r2
  clear hcell ho1
  go_wp2_with fail
  go_loopw [9, 31] (fun n i wq => ((i = .int .i64 0 ∧ n = .int .i64 0) ∨ (i = .int .i64 1 ∧ n = .int .i64 (c.toNat : Int))) ∧ wq = w1) (fun _ i _ => 1 - (intOf i).toNat)
  case atStart => exact ⟨.inl ⟨rfl, rfl⟩, rfl⟩
  case round =>
    obtain ⟨⟨rfl, rfl⟩ | ⟨rfl, rfl⟩, rfl⟩ := hrel
    · go_wp2_with fail
      go_roundw
      case rel => exact ⟨.inr ⟨rfl, rfl⟩, by first | rfl | trivial⟩
      case measure => simp [intOf]
    · go_wp2_with fail
      go_ret2
      exact ⟨rfl, hb1⟩
set_option maxHeartbeats 1000000 in
theorem unit2 (g k : Nat) (c : UInt8) (w : World) (h0 : w.cell? ⟨g, 0, none⟩ = some (.int .u8 0)) (h1 : w.cell? ⟨g, 1, none⟩ = some (.int .u8 (c.toNat : Int))) :
    Calls Tryd.prog 121 #[.slice (some ⟨g, 0, none⟩) 2 k] w fun e w' => e = .returned (.tuple #[.int .i32 (c.toNat : Int), .bool true]) ∧ Below w.heap.size w w' := by
  have ho := or0r c
  have hc := c.toNat_lt
  go_enter Tryd.func121, Tryd.ntmps121
  go_wp2_with fail
  go_region
  all_goals
    go_wp2_with fail
    go_ret2
    exact ⟨rfl, by first | exact Below.refl _ _ | exact (Below.refl _ _).drew⟩
set_option maxHeartbeats 1000000 in
theorem sign2 (g k : Nat) (c : UInt8) (w : World) (h0 : w.cell? ⟨g, 0, none⟩ = some (.int .u8 0)) (h1 : w.cell? ⟨g, 1, none⟩ = some (.int .u8 (c.toNat : Int))) :
    Calls Tryd.prog 109 #[.slice (some ⟨g, 0, none⟩) 2 k] w fun e w' => e = .returned (.tuple #[.int .i32 (c.toNat : Int), .int .i64 2]) ∧ Below w.heap.size w w' := by
  have hu := unit2 g k c w h0 h1
  have hc := c.toNat_lt
  have hc' : (c.toNat : Int) < 256 := by omega
  go_enter Tryd.func109, Tryd.ntmps109
  go_wp2_with (go_at_call 121; go_must (refine hu.mono ?_); rintro e w1 ⟨rfl, hb1⟩)
  all_goals first
    | (go_ret2; exact ⟨rfl, hb1⟩)
    | (exfalso; omega)
set_option maxHeartbeats 1000000 in
theorem signs2 (g k : Nat) (c : UInt8) (w : World) (hc7 : c.toNat < 128) (hk : 2 ≤ k) (hg : g < w.heap.size) (h0 : w.cell? ⟨g, 0, none⟩ = some (.int .u8 0)) (h1 : w.cell? ⟨g, 1, none⟩ = some (.int .u8 (c.toNat : Int))) :
    Calls Tryd.prog 92 #[.slice (some ⟨g, 0, none⟩) 2 k] w fun e w' => e = .returned (.tuple #[.string ⟨#[c]⟩, .nilIface]) ∧ Below w.heap.size w w' := by
  have hu := fun W (hB : Below w.heap.size w W) => sign2 g k c W ((hB.cell (p := ⟨g, 0, none⟩) hg).trans h0) ((hB.cell (p := ⟨g, 1, none⟩) hg).trans h1)
  have HU := hid hu
  clear hu h0 h1
  have hcz : (c.toNat : Int) < 128 := by omega
  have hk' : (2 : Int) ≤ (k : Int) := by omega
  go_enter Tryd.func92, Tryd.ntmps92
  go_wp2_with fail
  go_loopw [0, 4] (fun b v wr => ((b = .slice (some ⟨g, 0, none⟩) 2 k ∧ v = .slice none 0 0) ∨ ((∃ a q, b = .slice a 0 q) ∧ Own8 wr w.heap.size v [c])) ∧ Below w.heap.size w wr) (fun b _ _ => match b with | .slice _ n _ => n | _ => 0)
  case atStart => exact ⟨.inl ⟨rfl, rfl⟩, Below.refl _ _⟩
  case round =>
    obtain ⟨⟨rfl, rfl⟩ | ⟨⟨a, q, rfl⟩, ho⟩, hB⟩ := hrel
    · go_wp2_with (go_at_call 109; fail)
      go_at_call 109
      refine (HU.out _ hB).mono ?_
      rintro e w1 ⟨rfl, hb1⟩
      have hB1 := chn' hB hb1
      go_wp2_with (go_at_call 110; fail)
      go_at_call 110
      refine (Tryd.utf8_AppendRune_plain w.heap.size _ 0 [] (c.toNat : Int) (by omega) (by omega) w1 (World.ownsRow_nil _ _ _ _) (by omega) hB1.size).mono ?_
      rintro e w2 ⟨v2, rfl, ho2, o2, hg2⟩
      have hrc : Lib.runeCells (c.toNat : Int) = [byteV c] := by
        unfold Lib.runeCells
        rw [Lib.encodeRuneZ_one (by omega) (by omega)]; rfl
      rw [hrc] at ho2
      have hown : Own8 w2 w.heap.size v2 [c] := ho2
      have hB2 : Below w.heap.size w w2 := by
        have q : Below w.heap.size (w1.alloc o2) w2 := (Below.refl _ _).grown hg2 (by simp; have := hB1.size; omega) (fun q hq => by simp [Value.ownBlock] at hq)
        exact (hB1.alloc hB1.size o2).trans q
      clear ho2 hg2 hrc
      go_wp2_with fail
      go_roundw
      case rel => exact ⟨.inr ⟨⟨_, _, rfl⟩, hown⟩, hB2⟩
      case measure => simp
    · have hcv := own8_conv ho
      go_wp2_with fail
      go_ret2
      exact ⟨rfl, hB⟩
set_option maxHeartbeats 1000000 in
theorem text2 (t : ByteArray) (c : UInt8) (w : World) (hc7 : c.toNat < 128) (h : t.data.toList = strH [0, c]) :
    Calls Tryd.prog 69 #[.string t, .nilIface] w fun e w' => e = .returned (.tuple #[.string ⟨#[c]⟩, .nilIface]) ∧ Below w.heap.size w w' := by
  have H1 := hid h
  clear h
  go_enter Tryd.func69, Tryd.ntmps69
  go_wp2_with (go_at_call 67; fail)
  go_at_call 67
  refine (stringBytes_says t [0, c] _ H1.out (by simp)).mono ?_
  rintro e w1 ⟨v1, rfl, ho1, hb1⟩
  obtain ⟨g, k1, rfl, hk1, hg, hcell⟩ := own_cell ho1 (by simp)
  have hs := signs2 g k1 c w1 hc7 hk1 hg (hcell 0 0 rfl) (hcell 1 c rfl)
  clear hcell ho1
  go_wp2_with (go_at_call 92; go_must (refine hs.mono ?_); rintro e w2 ⟨rfl, hb2⟩)
  go_ret2
  exact ⟨rfl, chn' hb1 hb2⟩
end Go.Proofs.YtggojafapieliabDoor
