/-
  Two structs of numbers that are the same are not unequal.
-/
import Derived.Test.YtkechdflcmgciaaDoorFa
namespace Go.Proofs.YtkechdflcmgciaaDoor
open Go.RowKit
set_option maxRecDepth 100000
theorem stM : Tryd.prog.underlying 44 = some (.struct (Tryd.prog.fieldsOf 44)) := by kernel_rfl
theorem spM : Tryd.prog.stoodInHeld 44 = false := by kernel_rfl
theorem stP : Tryd.prog.underlying 55 = some (.struct (Tryd.prog.fieldsOf 55)) := by kernel_rfl
theorem spP : Tryd.prog.stoodInHeld 55 = false := by kernel_rfl
theorem stB : Tryd.prog.underlying 52 = some (.struct (Tryd.prog.fieldsOf 52)) := by kernel_rfl
theorem spB : Tryd.prog.stoodInHeld 52 = false := by kernel_rfl
theorem neqP (x y : Int) (w : World) : (binOp .neq 55 (.agg #[.int .i64 x, .int .i64 y]) (.agg #[.int .i64 x, .int .i64 y])).run Tryd.prog w = .ok (.bool false) w := by
  rw [run_neq_struct, run_equalIn_agg w _ _ _ _ stP spP]
  simp [Op.eqFields, Program.fieldsOf, Tryd.underlying55, go_sem]
theorem neqB (x y u v : Int) (w : World) : (binOp .neq 52 (.agg #[.int .i64 x, .int .i64 y, .int .i64 u, .int .i64 v]) (.agg #[.int .i64 x, .int .i64 y, .int .i64 u, .int .i64 v])).run Tryd.prog w = .ok (.bool false) w := by
  rw [run_neq_struct, run_equalIn_agg w _ _ _ _ stB spB]
  simp [Op.eqFields, Program.fieldsOf, Tryd.underlying52, go_sem]
theorem neqM (a b c d e f : Int) (w : World) : (binOp .neq 44 (.agg #[.int .i64 a, .int .i64 b, .int .i64 c, .int .i64 d, .int .i64 e, .int .i64 f]) (.agg #[.int .i64 a, .int .i64 b, .int .i64 c, .int .i64 d, .int .i64 e, .int .i64 f])).run Tryd.prog w = .ok (.bool false) w := by
  rw [run_neq_struct, run_equalIn_agg w _ _ _ _ stM spM]
  simp [Op.eqFields, Program.fieldsOf, Tryd.underlying44, go_sem]
end Go.Proofs.YtkechdflcmgciaaDoor
