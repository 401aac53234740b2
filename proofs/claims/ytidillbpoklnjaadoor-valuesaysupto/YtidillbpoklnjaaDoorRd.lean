/-
  What the row's list and the world's shape give: the table of powers of ten, and some number in the variable that a search asks.
-/
import Derived.Test.YtidillbpoklnjaaDoorFr
import Derived.Test.YtidillbpoklnjaaDoorFh
import Derived.Shelf.Vars
import Derived.Stop.LaidErr
namespace Go.Proofs.YtidillbpoklnjaaDoor
open Go.ChangeShapes Go.WideShapes Go.ChangeAt Go.RowKit
set_option maxRecDepth 100000

theorem gPowType : (Tryd.prog.globals[1]?).map (·.type) = some 140 := by kernel_rfl
theorem cellsPow : Tryd.prog.cellsOf 140 = 20 := by kernel_rfl
theorem cellsU64 : Tryd.prog.cellsOf 132 = 1 := by kernel_rfl
theorem rdy_of {W : World} (hL : laidMet Tryd.prog [("math/bits.deBruijn32tab", Rows.laid_math_bits_deBruijn32tab), ("math/bits.deBruijn64tab", Rows.laid_math_bits_deBruijn64tab), ("internal/strconv.uint64pow10", Rows.laid_internal_strconv_uint64pow10)] W) (hsh : W.ShapedOpen Tryd.prog) : ∃ m, Rdy m W := by
  obtain ⟨m, hm⟩ := cell_of_shapedOpen_int (P := Tryd.prog) (g := 0) (t := 3) (zero := #[.int .i64 0]) hsh (of_decide_eq_true (by kernel_rfl)) (by kernel_rfl) rfl (by kernel_rfl) (by kernel_rfl) Tryd.underlying3
  exact ⟨m, Lib.tabIs_of_head (rest := []) gPow gPowType Tryd.underlying140 Tryd.underlying132 cellsU64 cellsPow (laidMet.tail (laidMet.tail hL)), hm⟩
end Go.Proofs.YtidillbpoklnjaaDoor
