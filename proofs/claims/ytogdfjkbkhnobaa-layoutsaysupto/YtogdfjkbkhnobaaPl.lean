/-
  Plain facts on numbers, no program: Go's division by a thousand that is rounded down; products of numbers stay in their range.
-/
import Derived.RowKit
import Derived.IntWalk
namespace Go.Proofs.Ytogdfjkbkhnobaa
open Go.RowKit

theorem td_nonneg {n k : Int} (h : 0 ≤ n) : n.tdiv k = n / k := Int.tdiv_eq_ediv_of_nonneg h
theorem td_neg {n k : Int} : n.tdiv k = -((-n).tdiv k) := by rw [Int.neg_tdiv]; omega
theorem tm_nonneg {n k : Int} (h : 0 ≤ n) : n.tmod k = n % k := Int.tmod_eq_emod_of_nonneg h
theorem tm_neg {n k : Int} : n.tmod k = -((-n).tmod k) := by rw [Int.neg_tmod]; omega

theorem down_neg (n : Int) (h : -9223372036854775808 ≤ n) (h2 : n ≤ 9223372036854775807) (hm : n.tmod 1000 < 0) : wrap64 (n.tdiv 1000 - 1) = n / 1000 := by
  by_cases hn : 0 ≤ n
  · rw [tm_nonneg hn] at hm; omega
  · rw [tm_neg, tm_nonneg (by omega)] at hm
    rw [td_neg, td_nonneg (by omega)]; unfold wrap64; omega
theorem down_pos (n : Int) (hm : 0 ≤ n.tmod 1000) : n.tdiv 1000 = n / 1000 := by
  by_cases hn : 0 ≤ n
  · exact td_nonneg hn
  · rw [tm_neg, tm_nonneg (by omega)] at hm
    rw [td_neg, td_nonneg (by omega)]; omega
theorem floor_neg (n : Int) (h : -9223372036854774000 ≤ n) (h2 : n ≤ 9223372036854775807) (hm : n.tmod 1000 < 0) : wrap64 ((wrap64 (n - wrap64 (n.tmod 1000 + 1000))).tdiv 1000) = n / 1000 := by
  by_cases hn : 0 ≤ n
  · rw [tm_nonneg hn] at hm; omega
  · rw [tm_neg, tm_nonneg (by omega)] at hm
    rw [tm_neg, tm_nonneg (n := -n) (by omega)]
    have e1 : wrap64 (-(-n % 1000) + 1000) = -(-n % 1000) + 1000 := by unfold wrap64; omega
    rw [e1]
    have e2 : wrap64 (n - (-(-n % 1000) + 1000)) = n - (-(-n % 1000) + 1000) := by unfold wrap64; omega
    rw [e2, td_neg, td_nonneg (by omega)]
    unfold wrap64; omega
theorem floor_pos (n : Int) (h : -9223372036854774000 ≤ n) (h2 : n ≤ 9223372036854775807) (hm : 0 ≤ n.tmod 1000) : wrap64 ((wrap64 (n - n.tmod 1000)).tdiv 1000) = n / 1000 := by
  by_cases hn : 0 ≤ n
  · rw [tm_nonneg hn]
    have e2 : wrap64 (n - n % 1000) = n - n % 1000 := by unfold wrap64; omega
    rw [e2, td_nonneg (by omega)]; unfold wrap64; omega
  · rw [tm_neg, tm_nonneg (by omega)] at hm
    rw [tm_neg, tm_nonneg (n := -n) (by omega)]
    have e2 : wrap64 (n - -(-n % 1000)) = n - -(-n % 1000) := by unfold wrap64; omega
    rw [e2, td_neg, td_nonneg (by omega)]; unfold wrap64; omega

/-- A number of thousandths. -/
def okF (n : Int) : Bool := decide (-1000000000 ≤ n) && decide (n ≤ 1000000000)
theorem okF_iff {n : Int} : okF n = true ↔ -1000000000 ≤ n ∧ n ≤ 1000000000 := by simp [okF]
theorem okF_not {n : Int} : okF n = false ↔ n < -1000000000 ∨ 1000000000 < n := by
  rw [← Bool.not_eq_true, okF_iff]; omega
theorem mul_in {a b : Int} (ha1 : -1000000000 ≤ a) (ha2 : a ≤ 1000000000) (hb1 : -1000000000 ≤ b) (hb2 : b ≤ 1000000000) : -1000000000000000000 ≤ a * b ∧ a * b ≤ 1000000000000000000 := by
  have h : (a * b).natAbs ≤ 1000000000 * 1000000000 := by
    rw [Int.natAbs_mul]; exact Nat.mul_le_mul (by omega) (by omega)
  omega
/-- The number of the error of what is no number: 1; else 0. -/
def flt (n : Int) : Int := if okF n then 0 else 1
theorem flt_ok {n : Int} (h : okF n = true) : flt n = 0 := by simp [flt, h]
theorem flt_bad {n : Int} (h : okF n = false) : flt n = 1 := by simp [flt, h]
theorem flt_01 (n : Int) : 0 ≤ flt n ∧ flt n ≤ 1 := by unfold flt; split <;> omega
theorem flt_zero {n : Int} : flt n = 0 ↔ okF n = true := by unfold flt; split <;> simp_all
theorem flt_small {n : Int} (h1 : -1000000000 ≤ n) (h2 : n ≤ 1000000000) : flt n = 0 := flt_ok (okF_iff.2 ⟨h1, h2⟩)
/-- 'a times x and c times y, rounded down, and e': the number of its error, and it. -/
def linE (a x c y e : Int) : Int := if okF a && okF x && okF c && okF y && okF e && okF ((a * x + c * y) / 1000 + e) then 0 else 1
def linN (a x c y e : Int) : Int := if okF a && okF x && okF c && okF y && okF e && okF ((a * x + c * y) / 1000 + e) then (a * x + c * y) / 1000 + e else 0
theorem lin_ok {a x c y e : Int} (ha : okF a = true) (hx : okF x = true) (hc : okF c = true) (hy : okF y = true) (he : okF e = true) (ho : okF ((a * x + c * y) / 1000 + e) = true) : linE a x c y e = 0 ∧ linN a x c y e = (a * x + c * y) / 1000 + e := by
  simp [linE, linN, ha, hx, hc, hy, he, ho]
theorem lin_bad {a x c y e : Int} (h : okF a = false ∨ okF x = false ∨ okF c = false ∨ okF y = false ∨ okF e = false ∨ okF ((a * x + c * y) / 1000 + e) = false) : linE a x c y e = 1 ∧ linN a x c y e = 0 := by
  rcases h with h | h | h | h | h | h <;> simp [linE, linN, h]
theorem linE_01 (a x c y e : Int) : 0 ≤ linE a x c y e ∧ linE a x c y e ≤ 1 := by unfold linE; split <;> omega
theorem linN_bd (a x c y e : Int) : -1000000000 ≤ linN a x c y e ∧ linN a x c y e ≤ 1000000000 := by
  unfold linN; split
  · rename_i h; simp only [Bool.and_eq_true] at h; exact okF_iff.1 h.2
  · omega
/-- Sums. -/
def addE (a b : Int) : Int := if okF a && okF b && okF (a + b) then 0 else 1
def addN (a b : Int) : Int := if okF a && okF b && okF (a + b) then a + b else 0
theorem add_ok {a b : Int} (ha : okF a = true) (hb : okF b = true) (ho : okF (a + b) = true) : addE a b = 0 ∧ addN a b = a + b := by simp [addE, addN, ha, hb, ho]
theorem add_bad {a b : Int} (h : okF a = false ∨ okF b = false ∨ okF (a + b) = false) : addE a b = 1 ∧ addN a b = 0 := by
  rcases h with h | h | h <;> simp [addE, addN, h]
end Go.Proofs.Ytogdfjkbkhnobaa
