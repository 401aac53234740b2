/-
  Contracts of the small functions of the law, of the document's answer and of package fix: what each call hands back, for every number; the world stays as it was.
-/
import Derived.Test.YtggojafapieliabDoorRows
import Derived.Test.YtggojafapieliabDoorPl
import Derived.WalkKit
import Derived.WalkSpells
import Derived.WalkLawsBesides
import Derived.Handy
namespace Go.Proofs.YtggojafapieliabDoor
open Go.RowKit
set_option maxRecDepth 100000

/-- An error of package api, as a value. -/
def errV (k : Int) : Value := .iface 57 (.int .i64 k)
theorem hid {p : Prop} (h : p) : Hid p := h
theorem ret_int {k : IntKind} {a b : Int} (h : a = b) : Ending.returned (.int k a) = .returned (.int k b) := by rw [h]
theorem ret_two {k : IntKind} {a b : Int} {v : Value} (h : a = b) : Ending.returned (.tuple #[.int k a, v]) = .returned (.tuple #[.int k b, v]) := by rw [h]
theorem ret_bool {a b : Bool} (h : a = b) : Ending.returned (.bool a) = .returned (.bool b) := by rw [h]
theorem assertErr (v : Value) (w : World) : (Instr.typeAssert (.iface 57 v) 25 57 true).run Tryd.prog w = .ok (.tuple #[v, .bool true]) w := by kernel_rfl

set_option maxHeartbeats 400000 in
theorem same_nil (f : Int) (w : World) :
    Calls Tryd.prog 10 #[.nilIface, .int .i64 f] w fun e w' => e = .returned (.bool (f == 0)) ∧ w' = w := by
  go_enter Tryd.func10, Tryd.ntmps10
  go_wp2
  go_ret
  exact ⟨rfl, rfl⟩

set_option maxHeartbeats 400000 in
theorem same_err (k f : Int) (w : World) :
    Calls Tryd.prog 10 #[errV k, .int .i64 f] w fun e w' => e = .returned (.bool (decide (0 < f) && k == f)) ∧ w' = w := by
  have ha := assertErr
  unfold errV
  by_cases h : 0 < f
  all_goals
    go_enter Tryd.func10, Tryd.ntmps10
    go_wp2
    go_ret
    exact ⟨ret_bool (by rw [Bool.eq_iff_iff]; simp; try omega), rfl⟩

/-- An error by its number: 0: none. -/
def errN (k : Int) : Value := if k = 0 then .nilIface else errV k
theorem errN_0 : errN 0 = .nilIface := rfl
theorem errN_1 : errN 1 = errV 1 := rfl
theorem errN_pos {k : Int} (h : k ≠ 0) : errN k = errV k := by simp [errN, h]

theorem same_any (k f : Int) (w : World) (hk : 0 ≤ k) :
    Calls Tryd.prog 10 #[errN k, .int .i64 f] w fun e w' => e = .returned (.bool (k == f)) ∧ w' = w := by
  by_cases h : k = 0
  · subst h; rw [errN_0]
    refine (same_nil f w).mono ?_
    rintro e w' ⟨rfl, rfl⟩
    exact ⟨ret_bool (by rw [Bool.eq_iff_iff]; simp; omega), rfl⟩
  · rw [errN_pos h]
    refine (same_err k f w).mono ?_
    rintro e w' ⟨rfl, rfl⟩
    exact ⟨ret_bool (by rw [Bool.eq_iff_iff]; simp; omega), rfl⟩

end Go.Proofs.YtggojafapieliabDoor
