/-
  The law MatrixSays at any two matrices and any list of points.
-/
import Derived.Test.YtkechdflcmgciaaDoorMf
import Derived.Test.YtkechdflcmgciaaDoorMi
namespace Go.Proofs.YtkechdflcmgciaaDoor
open Go.RowKit
theorem matrixSays_any (m : Int) (a b c d e f A B C D E F : Int) (ao : Option Addr) (n cp : Nat) (w : World) (hr : Rdy m w) (hx : n ≤ maxLen)
    (hp : 1 ≤ n → ∃ b off ps, ao = some ⟨b, off, none⟩ ∧ ps.length = n ∧ PtsAt w b off ps) :
    Calls Tryd.prog 5 #[.agg #[.int .i64 a, .int .i64 b, .int .i64 c, .int .i64 d, .int .i64 e, .int .i64 f], .agg #[.int .i64 A, .int .i64 B, .int .i64 C, .int .i64 D, .int .i64 E, .int .i64 F], .slice ao n cp] w fun e w' => e = .returned (.bool true) ∧ Below w.heap.size w w' := by
  by_cases h50 : 50 < n
  · exact matrixSays_long m a b c d e f A B C D E F ao n cp w hr h50 hx
  by_cases h0 : n = 0
  · subst h0; exact matrixSays_zero m a b c d e f A B C D E F ao cp w hr
  · obtain ⟨bk, off, ps, rfl, hl, hpt⟩ := hp (by omega)
    exact matrixSays_pos m a b c d e f A B C D E F bk off n cp ps w hr hl (by omega) (by omega) hpt
end Go.Proofs.YtkechdflcmgciaaDoor
