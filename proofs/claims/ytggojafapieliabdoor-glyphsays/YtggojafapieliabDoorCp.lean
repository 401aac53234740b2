/-
  A world in which the tables of unicode/utf8 lie as their initialisers lay them.
-/
import Derived.Test.YtggojafapieliabDoorFr
import Derived.Test.YtggojafapieliabDoorCo
namespace Go.Proofs.YtggojafapieliabDoor
open Go.ChangeShapes Go.WideShapes Go.ChangeAt Go.RowKit
set_option maxRecDepth 100000

def TbR (_m : Int) (W : World) : Prop := Tb W
theorem tbr_of {W : World} (hL : laidMet Tryd.prog [("unicode/utf8.acceptRanges", Rows.laid_unicode_utf8_acceptRanges), ("unicode/utf8.first", Rows.laid_unicode_utf8_first)] W) (_hsh : W.ShapedOpen Tryd.prog) : ∃ m, TbR m W := ⟨0, tb_of hL⟩
def acceptInts : List Int := (List.range 16).flatMap fun i => [(Lib.accLo i : Int), (Lib.accHi i : Int)]
noncomputable def laidWorldU (os : Os) : World :=
  { World.holding Tryd.prog os ⟨#[], #[], []⟩ with heap := ((World.holding Tryd.prog os ⟨#[], #[], []⟩).heap.modify 0 (laidBlock .u8 Lib.firstTab)).modify 1 (laidBlock .u8 acceptInts) }
end Go.Proofs.YtggojafapieliabDoor
