/-
  Lines of a page: glyphs are put into lines (layout.lines, its first loop: under way).
-/
import Derived.Test.YtogdfjkbkhnobaaSl
namespace Go.Proofs.Ytogdfjkbkhnobaa
open Go.Shelf Go.RowKit Go.Lib Go.Sort
set_option maxRecDepth 1000000

theorem OwnI.inAt {w : World} {B : Nat} {v : Value} {zs : List Int} (h : OwnI w B v zs) : ∃ a c, v = .slice a zs.length c ∧ InAt w a zs := by
  have hc := fun g => World.ownsRow.cells h (g := g)
  obtain ⟨_, ⟨rfl, h2⟩ | ⟨g, cap, cur, rfl, h2, h3, _⟩⟩ := h
  · have e : zs = [] := List.eq_nil_of_length_eq_zero h2
    subst e
    exact ⟨none, 0, rfl, fun j y hj => by simp at hj⟩
  · refine ⟨some ⟨g, 0, none⟩, cap, rfl, fun j y hj => ⟨g, 0, rfl, (Array.getElem?_eq_some_iff.1 h3).1, ?_⟩⟩
    have := hc g rfl j (.int .i64 y) (by simp [hj])
    rw [Lib.add_plain] at this
    exact this
theorem pushR_last (R : List (List Int)) (z : Int) (h : 0 < R.length) : (pushR R z)[R.length - 1]? = some ((R[R.length - 1]?.getD []) ++ [z]) := by
  unfold pushR
  rw [List.getElem?_set_self (by omega)]
theorem lnsP_last (L : List Gy) (zs : List Int) (p : Nat) (hp : 0 < p) : ∃ y ys, (lnsP L zs p)[(lnsP L zs p).length - 1]? = some (y :: ys) := by
  obtain ⟨q, rfl⟩ : ∃ q, p = q + 1 := ⟨p - 1, by omega⟩
  have h0 := lnsP_pos L zs (q + 1) (by omega)
  rw [lnsP, pushR_len] at h0
  rw [lnsP, pushR_len, pushR_last _ _ h0]
  have e : ∀ (r : List Int) (z : Int), ∃ y ys, (some (r ++ [z]) : Option (List Int)) = some (y :: ys) := fun r z => by
    cases r with
    | nil => exact ⟨z, [], rfl⟩
    | cons y ys => exact ⟨y, ys ++ [z], rfl⟩
  exact e _ _
/-- Where the last row's header lies, and its first number. -/
theorem Own2.last {w : World} {B k : Nat} {v : Value} {R : List (List Int)} {vs : List Value} {y : Int} {ys : List Int} (h : Own2 w B v R vs) (hk : R.length = k + 1) (hy : R[k]? = some (y :: ys)) : ∃ g cap gu cu, v = .slice (some ⟨g, 0, none⟩) (k + 1) cap ∧ w.cell? ⟨g, k, none⟩ = some (.slice (some ⟨gu, 0, none⟩) (ys.length + 1) cu) ∧ w.cell? ⟨gu, 0, none⟩ = some (.int .i64 y) ∧ g < w.heap.size ∧ gu < w.heap.size := by
  obtain ⟨u, zs, hu, hz, hOu⟩ := h.at (show k < R.length by omega)
  rw [hy] at hz
  injection hz with hz
  subst hz
  obtain ⟨_, ⟨_, h0⟩ | ⟨gu, cu, cur2, eu, _, hu2, _, _, _, hu6⟩⟩ := hOu
  · simp at h0
  obtain ⟨_, ⟨_, h0⟩ | ⟨g, cap, cur, e, h2, h3, h4, h5, h6, h7⟩⟩ := h.own
  · omega
  rw [hk] at e h7
  have hA : At w g 26 cur := h3
  have hA2 : At w gu 3 cur2 := hu2
  refine ⟨g, cap, gu, cu, e, ?_, ?_, hA.lt, hA2.lt⟩
  · rw [hA.cell]
    rw [← h7, Nat.mul_one, List.getElem?_take_of_lt (by omega)] at hu
    rw [eu] at hu
    simpa using hu
  · rw [hA2.cell]
    have e0 : (cur2.toList.take ((y :: ys).length * 1))[0]? = some (.int .i64 y) := by rw [hu6]; rfl
    rw [List.getElem?_take_of_lt (by simp)] at e0
    simpa using e0
end Go.Proofs.Ytogdfjkbkhnobaa
