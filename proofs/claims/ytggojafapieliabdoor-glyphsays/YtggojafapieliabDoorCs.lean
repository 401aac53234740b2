/-
  Strings that are joined.
-/
import Derived.Test.YtggojafapieliabDoorRows
import Derived.WalkKit
namespace Go.Proofs.YtggojafapieliabDoor
open Go.RowKit
set_option maxRecDepth 100000
theorem addL {x y z : List UInt8} (hx : x.length ≤ 1000000) (hy : y.length ≤ 1000000) (hz : z = x ++ y) (w : World) : (Op.stringOp .add ⟨x.toArray⟩ ⟨y.toArray⟩).run Tryd.prog w = .ok (.string ⟨z.toArray⟩) w := by
  rw [hz]; exact run_string_add_lists w x y (by omega) (by omega)
theorem addB {a b c : ByteArray} (ha : a.size ≤ 1000000) (hb : b.size ≤ 1000000) (hc : c.data.toList = a.data.toList ++ b.data.toList) (w : World) : (Op.stringOp .add a b).run Tryd.prog w = .ok (.string c) w := by
  have q := addL (x := a.data.toList) (y := b.data.toList) (z := c.data.toList) (by simpa using ha) (by simpa using hb) hc w
  simpa using q
end Go.Proofs.YtggojafapieliabDoor
