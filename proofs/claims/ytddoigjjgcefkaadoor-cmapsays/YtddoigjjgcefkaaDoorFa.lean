/-
  Contracts of the small functions of the law, of the document's answer and of package fix: what each call hands back, for every number; the world stays as it was.
-/
import Derived.Test.YtddoigjjgcefkaaDoorRows
import Derived.Test.YtddoigjjgcefkaaDoorPl
import Derived.WalkKit
import Derived.WalkSpells
import Derived.WalkLawsBesides
import Derived.Handy
namespace Go.Proofs.YtddoigjjgcefkaaDoor
open Go.RowKit
set_option maxRecDepth 100000

/-- An error of package api, as a value. -/
def errV (k : Int) : Value := .iface 23 (.int .i64 k)
theorem hid {p : Prop} (h : p) : Hid p := h
theorem ret_int {k : IntKind} {a b : Int} (h : a = b) : Ending.returned (.int k a) = .returned (.int k b) := by rw [h]
theorem ret_two {k : IntKind} {a b : Int} {v : Value} (h : a = b) : Ending.returned (.tuple #[.int k a, v]) = .returned (.tuple #[.int k b, v]) := by rw [h]
theorem ret_bool {a b : Bool} (h : a = b) : Ending.returned (.bool a) = .returned (.bool b) := by rw [h]
theorem assertErr (v : Value) (w : World) : (Instr.typeAssert (.iface 23 v) 27 23 true).run Tryd.prog w = .ok (.tuple #[v, .bool true]) w := by kernel_rfl

set_option maxHeartbeats 400000 in
theorem same_nil (f : Int) (w : World) :
    Calls Tryd.prog 9 #[.nilIface, .int .i64 f] w fun e w' => e = .returned (.bool (f == 0)) ∧ w' = w := by
  go_enter Tryd.func9, Tryd.ntmps9
  go_wp2
  go_ret
  exact ⟨rfl, rfl⟩

set_option maxHeartbeats 400000 in
theorem same_err (k f : Int) (w : World) :
    Calls Tryd.prog 9 #[errV k, .int .i64 f] w fun e w' => e = .returned (.bool (decide (0 < f) && k == f)) ∧ w' = w := by
  have ha := assertErr
  unfold errV
  by_cases h : 0 < f
  all_goals
    go_enter Tryd.func9, Tryd.ntmps9
    go_wp2
    go_ret
    exact ⟨ret_bool (by rw [Bool.eq_iff_iff]; simp; try omega), rfl⟩

set_option maxHeartbeats 400000 in
theorem check_ok (n : Int) (w : World) (h1 : -1000000000 ≤ n) (h2 : n ≤ 1000000000) :
    Calls Tryd.prog 15 #[.int .i64 n] w fun e w' => e = .returned .nilIface ∧ w' = w := by
  go_enter Tryd.func15, Tryd.ntmps15
  go_wp2
  go_ret
  exact ⟨rfl, rfl⟩

set_option maxHeartbeats 400000 in
theorem check_bad (n : Int) (w : World) (h : n < -1000000000 ∨ 1000000000 < n) :
    Calls Tryd.prog 15 #[.int .i64 n] w fun e w' => e = .returned (errV 1) ∧ w' = w := by
  by_cases h1 : n < -1000000000
  · go_enter Tryd.func15, Tryd.ntmps15
    go_wp2
    go_ret
    exact ⟨rfl, rfl⟩
  · have h2 : 1000000000 < n := by omega
    go_enter Tryd.func15, Tryd.ntmps15
    go_wp2
    go_ret
    exact ⟨rfl, rfl⟩

set_option maxHeartbeats 400000 in
theorem fault_ok (n : Int) (w : World) (h1 : -1000000000 ≤ n) (h2 : n ≤ 1000000000) :
    Calls Tryd.prog 13 #[.int .i64 n] w fun e w' => e = .returned (.int .i64 0) ∧ w' = w := by
  go_enter Tryd.func13, Tryd.ntmps13
  go_wp2
  go_ret
  exact ⟨rfl, rfl⟩

set_option maxHeartbeats 400000 in
theorem fault_bad (n : Int) (w : World) (h : n < -1000000000 ∨ 1000000000 < n) :
    Calls Tryd.prog 13 #[.int .i64 n] w fun e w' => e = .returned (.int .i64 1) ∧ w' = w := by
  by_cases h1 : n < -1000000000
  · go_enter Tryd.func13, Tryd.ntmps13
    go_wp2
    go_ret
    exact ⟨rfl, rfl⟩
  · have h2 : 1000000000 < n := by omega
    go_enter Tryd.func13, Tryd.ntmps13
    go_wp2
    go_ret
    exact ⟨rfl, rfl⟩

set_option maxHeartbeats 400000 in
theorem number_ok (n : Int) (w : World) (h1 : -1000000000 ≤ n) (h2 : n ≤ 1000000000) :
    Calls Tryd.prog 60 #[.int .i64 n] w fun e w' => e = .returned (.tuple #[.int .i64 n, .nilIface]) ∧ w' = w := by
  go_enter Tryd.func60, Tryd.ntmps60
  go_wp2
  go_ret2
  exact ⟨rfl, rfl⟩

set_option maxHeartbeats 400000 in
theorem number_bad (n : Int) (w : World) (h : n < -1000000000 ∨ 1000000000 < n) :
    Calls Tryd.prog 60 #[.int .i64 n] w fun e w' => e = .returned (.tuple #[.int .i64 0, errV 1]) ∧ w' = w := by
  by_cases h1 : n < -1000000000
  · go_enter Tryd.func60, Tryd.ntmps60
    go_wp2
    go_ret2
    exact ⟨rfl, rfl⟩
  · have h2 : 1000000000 < n := by omega
    go_enter Tryd.func60, Tryd.ntmps60
    go_wp2
    go_ret2
    exact ⟨rfl, rfl⟩

set_option maxHeartbeats 400000 in
theorem down_any (n : Int) (w : World) (h1 : -9223372036854775808 ≤ n) (h2 : n ≤ 9223372036854775807) :
    Calls Tryd.prog 101 #[.int .i64 n] w fun e w' => e = .returned (.int .i64 (n / 1000)) ∧ w' = w := by
  go_enter Tryd.func101, Tryd.ntmps101
  go_wp2
  all_goals go_ret
  · exact ⟨ret_int (down_neg n h1 h2 ‹_›), rfl⟩
  · exact ⟨ret_int (down_pos n ‹_›), rfl⟩

set_option maxHeartbeats 400000 in
theorem floor_any (n : Int) (w : World) (h1 : -9223372036854774000 ≤ n) (h2 : n ≤ 9223372036854775807) :
    Calls Tryd.prog 59 #[.int .i64 n] w fun e w' => e = .returned (.int .i64 (n / 1000)) ∧ w' = w := by
  go_enter Tryd.func59, Tryd.ntmps59
  go_wp2
  all_goals go_ret
  · exact ⟨ret_int (floor_neg n h1 h2 ‹_›), rfl⟩
  · exact ⟨ret_int (floor_pos n h1 h2 ‹_›), rfl⟩



/-- An error by its number: 0: none. -/
def errN (k : Int) : Value := if k = 0 then .nilIface else errV k
theorem errN_0 : errN 0 = .nilIface := rfl
theorem errN_1 : errN 1 = errV 1 := rfl
theorem errN_pos {k : Int} (h : k ≠ 0) : errN k = errV k := by simp [errN, h]

theorem same_any (k f : Int) (w : World) (hk : 0 ≤ k) :
    Calls Tryd.prog 9 #[errN k, .int .i64 f] w fun e w' => e = .returned (.bool (k == f)) ∧ w' = w := by
  by_cases h : k = 0
  · subst h; rw [errN_0]
    refine (same_nil f w).mono ?_
    rintro e w' ⟨rfl, rfl⟩
    exact ⟨ret_bool (by rw [Bool.eq_iff_iff]; simp; omega), rfl⟩
  · rw [errN_pos h]
    refine (same_err k f w).mono ?_
    rintro e w' ⟨rfl, rfl⟩
    exact ⟨ret_bool (by rw [Bool.eq_iff_iff]; simp; omega), rfl⟩

theorem check_any (n : Int) (w : World) :
    Calls Tryd.prog 15 #[.int .i64 n] w fun e w' => e = .returned (errN (flt n)) ∧ w' = w := by
  cases h : okF n
  · rw [flt_bad h, errN_1]; exact check_bad n w (okF_not.1 h)
  · rw [flt_ok h, errN_0]; exact check_ok n w (okF_iff.1 h).1 (okF_iff.1 h).2

theorem fault_any (n : Int) (w : World) :
    Calls Tryd.prog 13 #[.int .i64 n] w fun e w' => e = .returned (.int .i64 (flt n)) ∧ w' = w := by
  cases h : okF n
  · rw [flt_bad h]; exact fault_bad n w (okF_not.1 h)
  · rw [flt_ok h]; exact fault_ok n w (okF_iff.1 h).1 (okF_iff.1 h).2

set_option maxHeartbeats 400000 in
theorem together_ok (a x c y e : Int) (w : World) (ha : okF a = true) (hx : okF x = true) (hc : okF c = true) (hy : okF y = true) (ho : okF ((a * x + c * y) / 1000 + e) = true) :
    Calls Tryd.prog 58 #[.int .i64 a, .int .i64 x, .int .i64 c, .int .i64 y, .int .i64 e] w fun r w' => r = .returned (.tuple #[.int .i64 ((a * x + c * y) / 1000 + e), .nilIface]) ∧ w' = w := by
  rw [okF_iff] at *
  have m1 := mul_in ha.1 ha.2 hx.1 hx.2
  have m2 := mul_in hc.1 hc.2 hy.1 hy.2
  go_enter Tryd.func58, Tryd.ntmps58
  go_wp2_with (first
    | (go_at_call 101; refine (down_any _ _ (by omega) (by omega)).mono ?_; rintro r w' ⟨rfl, rfl⟩)
    | (go_at_call 60; refine (number_ok _ _ (by omega) (by omega)).mono ?_; rintro r w' ⟨rfl, rfl⟩))
  go_ret2
  exact ⟨rfl, rfl⟩

set_option maxHeartbeats 400000 in
theorem together_bad (a x c y e : Int) (w : World) (ha : okF a = true) (hx : okF x = true) (hc : okF c = true) (hy : okF y = true) (he : okF e = true) (ho : okF ((a * x + c * y) / 1000 + e) = false) :
    Calls Tryd.prog 58 #[.int .i64 a, .int .i64 x, .int .i64 c, .int .i64 y, .int .i64 e] w fun r w' => r = .returned (.tuple #[.int .i64 0, errV 1]) ∧ w' = w := by
  rw [okF_iff] at ha hx hc hy he
  rw [okF_not] at ho
  have m1 := mul_in ha.1 ha.2 hx.1 hx.2
  have m2 := mul_in hc.1 hc.2 hy.1 hy.2
  obtain ⟨he1, he2⟩ := he
  go_enter Tryd.func58, Tryd.ntmps58
  go_wp2_with (first
    | (go_at_call 101; refine (down_any _ _ (by omega) (by omega)).mono ?_; rintro r w' ⟨rfl, rfl⟩)
    | (go_at_call 60; refine (number_bad _ _ (by omega)).mono ?_; rintro r w' ⟨rfl, rfl⟩))
  go_ret2
  exact ⟨rfl, rfl⟩

theorem together_any (a x c y e : Int) (w : World) (ha : okF a = true) (hx : okF x = true) (hc : okF c = true) (hy : okF y = true) (he : okF e = true) :
    Calls Tryd.prog 58 #[.int .i64 a, .int .i64 x, .int .i64 c, .int .i64 y, .int .i64 e] w fun r w' => r = .returned (.tuple #[.int .i64 (linN a x c y e), errN (linE a x c y e)]) ∧ w' = w := by
  cases ho : okF ((a * x + c * y) / 1000 + e)
  · obtain ⟨q1, q2⟩ := lin_bad (a := a) (x := x) (c := c) (y := y) (e := e) (by simp [ho])
    rw [q1, q2, errN_1]; exact together_bad a x c y e w ha hx hc hy he ho
  · obtain ⟨q1, q2⟩ := lin_ok ha hx hc hy he ho
    rw [q1, q2, errN_0]; exact together_ok a x c y e w ha hx hc hy ho

set_option maxHeartbeats 400000 in
theorem line_any (a x c y e : Int) (w : World) :
    Calls Tryd.prog 65 #[.int .i64 a, .int .i64 x, .int .i64 c, .int .i64 y, .int .i64 e] w fun r w' => r = .returned (.tuple #[.int .i64 (linN a x c y e), .int .i64 (linE a x c y e)]) ∧ w' = w := by
  have fa := flt_01 a
  have fx := flt_01 x
  have fc := flt_01 c
  have fy := flt_01 y
  have fe := flt_01 e
  by_cases hs : 0 < flt a + flt x + flt c + flt y + flt e
  · have hb : okF a = false ∨ okF x = false ∨ okF c = false ∨ okF y = false ∨ okF e = false := by
      cases h1 : okF a <;> cases h2 : okF x <;> cases h3 : okF c <;> cases h4 : okF y <;> cases h5 : okF e <;> simp_all [flt]
    obtain ⟨q1, q2⟩ := lin_bad (a := a) (x := x) (c := c) (y := y) (e := e) (by rcases hb with h | h | h | h | h <;> simp [h])
    rw [q1, q2]
    clear hb q1 q2
    go_enter Tryd.func65, Tryd.ntmps65
    go_wp2_with (go_at_call 13; refine (fault_any _ _).mono ?_; rintro r w' ⟨rfl, rfl⟩)
    go_ret2
    exact ⟨rfl, rfl⟩
  · have ha := flt_zero.1 (show flt a = 0 by omega)
    have hx := flt_zero.1 (show flt x = 0 by omega)
    have hc := flt_zero.1 (show flt c = 0 by omega)
    have hy := flt_zero.1 (show flt y = 0 by omega)
    have he := flt_zero.1 (show flt e = 0 by omega)
    have a1 := okF_iff.1 ha
    have x1 := okF_iff.1 hx
    have c1 := okF_iff.1 hc
    have y1 := okF_iff.1 hy
    have e1 := okF_iff.1 he
    have m1 := mul_in a1.1 a1.2 x1.1 x1.2
    have m2 := mul_in c1.1 c1.2 y1.1 y1.2
    have hn : ¬ 0 < flt a + flt x + flt c + flt y + flt e := hs
    have ff := flt_01 ((a * x + c * y) / 1000 + e)
    by_cases ho : 0 < flt ((a * x + c * y) / 1000 + e)
    · have ho' : okF ((a * x + c * y) / 1000 + e) = false := by
        cases h : okF ((a * x + c * y) / 1000 + e)
        · rfl
        · rw [flt_ok h] at ho; omega
      obtain ⟨q1, q2⟩ := lin_bad (a := a) (x := x) (c := c) (y := y) (e := e) (by simp [ho'])
      rw [q1, q2]
      clear q1 q2 ho' ha hx hc hy he
      go_enter Tryd.func65, Tryd.ntmps65
      go_wp2_with (first
        | (go_at_call 13; refine (fault_any _ _).mono ?_; rintro r w' ⟨rfl, rfl⟩)
        | (go_at_call 59; refine (floor_any _ _ (by omega) (by omega)).mono ?_; rintro r w' ⟨rfl, rfl⟩))
      go_ret2
      exact ⟨rfl, rfl⟩
    · obtain ⟨q1, q2⟩ := lin_ok ha hx hc hy he (flt_zero.1 (by omega))
      rw [q1, q2]
      clear q1 q2 ha hx hc hy he
      go_enter Tryd.func65, Tryd.ntmps65
      go_wp2_with (first
        | (go_at_call 13; refine (fault_any _ _).mono ?_; rintro r w' ⟨rfl, rfl⟩)
        | (go_at_call 59; refine (floor_any _ _ (by omega) (by omega)).mono ?_; rintro r w' ⟨rfl, rfl⟩))
      go_ret2
      exact ⟨rfl, rfl⟩
end Go.Proofs.YtddoigjjgcefkaaDoor
