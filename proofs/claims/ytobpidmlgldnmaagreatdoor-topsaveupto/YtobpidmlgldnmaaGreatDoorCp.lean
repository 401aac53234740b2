/-
  Joined: Cc, Co, Cp.
-/
import Derived.Test.YtobpidmlgldnmaaGreatDoorShelf
import Derived.Test.YtobpidmlgldnmaaGreatDoorCb
import Derived.Test.YtobpidmlgldnmaaGreatDoorKb
import Derived.Test.YtobpidmlgldnmaaGreatDoorFa
import Derived.Deep.RegionWith
import Derived.Deep.CutRange
import Derived.Deep.CutBlock
import Derived.BigRegion
import Derived.Test.YtobpidmlgldnmaaGreatDoorVh
import Derived.Lib.LaidU8
import Derived.PinnedBridge

/-
  Spans in memory; what may be the text of one.
-/
namespace Go.Proofs.YtobpidmlgldnmaaGreatDoor
open Go.RowKit
set_option maxRecDepth 100000

/-- The tables of unicode/utf8 lie in memory. -/
def Tb (w : World) : Prop := Lib.Utf8Tabs 3 4 w
theorem Tb.below {w w' : World} (h : Tb w) (hb : Below w.heap.size w w') : Tb w' := Utf8Tabs_below h hb
/-- The cells of spans. -/
def SpAt (w : World) (al : Option Addr) (l : List Sp) : Prop :=
  ∀ i x, l[i]? = some x → ∃ b off, al = some ⟨b, off, none⟩ ∧ b < w.heap.size ∧ w.cell? ⟨b, off + i * 3, none⟩ = some (.int .i64 x.f) ∧ w.cell? ⟨b, off + i * 3 + 1, none⟩ = some (.int .i64 x.t) ∧ w.cell? ⟨b, off + i * 3 + 2, none⟩ = some (.string x.s) ∧
    (-9223372036854775808 ≤ x.f ∧ x.f ≤ 9223372036854775807) ∧ (-9223372036854775808 ≤ x.t ∧ x.t ≤ 9223372036854775807) ∧ x.s.size ≤ maxLen
theorem SpAt.later {w w' : World} {al : Option Addr} {l : List Sp} (h : SpAt w al l) (hB : Below w.heap.size w w') : SpAt w' al l := fun i x hx => by
  obtain ⟨b, off, e, hb, c0, c1, c2, r⟩ := h i x hx
  exact ⟨b, off, e, Nat.lt_of_lt_of_le hb hB.size, (hB.cell (p := ⟨b, off + i * 3, none⟩) hb).trans c0, (hB.cell (p := ⟨b, off + i * 3 + 1, none⟩) hb).trans c1, (hB.cell (p := ⟨b, off + i * 3 + 2, none⟩) hb).trans c2, r⟩
theorem chn' {w a b : World} (h : Below w.heap.size w a) (k : Below a.heap.size a b) : Below w.heap.size w b := h.trans (k.mono h.size)
theorem toListNil (s : ByteArray) : s.toList = [] ↔ s.size = 0 := by
  rw [ByteArray.toList_eq, ← List.length_eq_zero_iff]
  simp

end Go.Proofs.YtobpidmlgldnmaaGreatDoor

/-
  Spans that are read as an argument; the tables of unicode/utf8.
-/
namespace Go.Proofs.YtobpidmlgldnmaaGreatDoor
open Go.RowKit Go.WideShapes Go.ChangeShapes Go.Deep Go.Joins
set_option maxRecDepth 100000

theorem cellsSp : Tryz.prog.cellsOf 98 = 3 := by kernel_rfl
theorem list3 {α : Type} {cs : List α} (h : cs.length = 3) : ∃ c0 c1 c2, cs = [c0, c1, c2] := by
  match cs, h with
  | [c0, c1, c2], _ => exact ⟨c0, c1, c2, rfl⟩
theorem wf64 {n : Int} (h : (Lit.int .i64 n).wf = true) : -9223372036854775808 ≤ n ∧ n ≤ 9223372036854775807 := by
  have h' : (decide (IntKind.i64.min ≤ n) && decide (n ≤ IntKind.i64.max)) = true := h
  rw [show IntKind.i64.min = -9223372036854775808 by decide, show IntKind.i64.max = 9223372036854775807 by decide] at h'
  simpa using h'
theorem accept_eq : (Rows.laid_unicode_utf8_acceptRanges : DataW Unit) = Lib.acceptData := by kernel_rfl
theorem u8x : U8Extra Tryz.prog Tryz.lays260_ren := ⟨by kernel_rfl, by kernel_rfl, by kernel_rfl, by kernel_rfl, by kernel_rfl, by kernel_rfl, by kernel_rfl⟩
end Go.Proofs.YtobpidmlgldnmaaGreatDoor

/-
  A world in which the tables of unicode/utf8 lie as their initialisers lay them.
-/
namespace Go.Proofs.YtobpidmlgldnmaaGreatDoor
open Go.ChangeShapes Go.WideShapes Go.ChangeAt Go.RowKit
set_option maxRecDepth 100000

def TbR (_m : Int) (W : World) : Prop := Tb W
def acceptInts : List Int := (List.range 16).flatMap fun i => [(Lib.accLo i : Int), (Lib.accHi i : Int)]
end Go.Proofs.YtobpidmlgldnmaaGreatDoor
