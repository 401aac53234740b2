/-
  A world in which the listed tables and errors of the library lie as their initialisers lay them.
-/
import Derived.Test.YtggojafapieliabDoorFr
import Derived.Test.YtggojafapieliabDoorCp
namespace Go.Proofs.YtggojafapieliabDoor
open Go.ChangeShapes Go.WideShapes Go.ChangeAt Go.RowKit
set_option maxRecDepth 100000

theorem tbr7_of {W : World} (hL : laidMet Tryd.prog [("math/bits.deBruijn32tab", Rows.laid_math_bits_deBruijn32tab), ("math/bits.deBruijn64tab", Rows.laid_math_bits_deBruijn64tab), ("internal/strconv.uint64pow10", Rows.laid_internal_strconv_uint64pow10), ("unicode/utf8.acceptRanges", Rows.laid_unicode_utf8_acceptRanges), ("strconv.ErrRange", Rows.laid_strconv_ErrRange), ("strconv.ErrSyntax", Rows.laid_strconv_ErrSyntax), ("unicode/utf8.first", Rows.laid_unicode_utf8_first)] W) (_hsh : W.ShapedOpen Tryd.prog) : ∃ m, TbR m W := by
  obtain ⟨ps, hv, _, _⟩ := hL
  have h3 := Lib.LaidVars_reads hv "unicode/utf8.first" Rows.laid_unicode_utf8_first (by simp)
  have h4 := Lib.LaidVars_reads hv "unicode/utf8.acceptRanges" Rows.laid_unicode_utf8_acceptRanges (by simp)
  rw [accept_eq] at h4
  unfold Rows.laid_unicode_utf8_first at h3
  rw [Pinned.utf8First_eq] at h3
  exact ⟨0, utf8Tabs_of_reads Tryd.lays260 u8x h3 h4⟩
abbrev synS7 : ByteArray := { data := #[105, 110, 118, 97, 108, 105, 100, 32, 115, 121, 110, 116, 97, 120] }
abbrev rngS7 : ByteArray := { data := #[118, 97, 108, 117, 101, 32, 111, 117, 116, 32, 111, 102, 32, 114, 97, 110, 103, 101] }
/-- So many blocks has the settled world. -/
noncomputable def low7 : Nat := (World.holding Tryd.prog default ⟨#[], #[], []⟩).heap.size
def sentB7 (a : Nat) : Obj → Obj
  | .cells _ t frozen => .cells #[.iface 160 (.pointer (some ⟨a, 0, none⟩))] t frozen
  | o => o
/-- A world for the witness. -/
noncomputable def laidWorld7 (os : Os) : World :=
  { World.holding Tryd.prog os ⟨#[.cells #[.string synS7] 162, .cells #[.string rngS7] 162], #[], []⟩ with heap := ((((laidHeap (World.holding Tryd.prog os ⟨#[.cells #[.string synS7] 162, .cells #[.string rngS7] 162], #[], []⟩).heap).modify 2 (sentB7 low7)).modify 3 (sentB7 (low7 + 1))).modify 0 (laidBlock .u8 Lib.firstTab)).modify 1 (laidBlock .u8 acceptInts) }
end Go.Proofs.YtggojafapieliabDoor
