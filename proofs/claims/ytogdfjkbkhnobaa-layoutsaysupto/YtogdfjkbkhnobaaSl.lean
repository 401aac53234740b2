/-
  Lines of a page, plainly; the order of a line (layout.lines: under way).
-/
import Derived.Test.YtogdfjkbkhnobaaSk
namespace Go.Proofs.Ytogdfjkbkhnobaa
open Go.Shelf Go.RowKit Go.Lib Go.Sort
set_option maxRecDepth 1000000

/-- Does a glyph begin a line? -/
def newL (L : List Gy) (R : List (List Int)) (z : Int) : Bool := decide (R.length = 0) || !lvl (gyA L (((R[R.length - 1]?.getD [])[0]?).getD 0)) (gyA L z)
/-- The lines of the first p, not yet in order. -/
def lnsP (L : List Gy) (zs : List Int) : Nat → List (List Int)
  | 0 => []
  | p + 1 => pushR (if newL L (lnsP L zs p) (zs[p]?.getD 0) then lnsP L zs p ++ [[]] else lnsP L zs p) (zs[p]?.getD 0)
theorem lnsP_pos (L : List Gy) (zs : List Int) : ∀ p, 0 < p → 0 < (lnsP L zs p).length
  | 0, h => by omega
  | 1, _ => by simp [lnsP, newL, pushR_len]
  | p + 2, _ => by
    have := lnsP_pos L zs (p + 1) (by omega)
    rw [lnsP, pushR_len]
    split
    · rw [List.length_append]; omega
    · exact this
theorem lnsP_len (L : List Gy) (zs : List Int) : ∀ p, (lnsP L zs p).length ≤ p
  | 0 => by simp [lnsP]
  | p + 1 => by
    have := lnsP_len L zs p
    rw [lnsP, pushR_len]
    split
    · rw [List.length_append]; simpa using this
    · omega
theorem lnsP_row (L : List Gy) (zs : List Int) : ∀ p, ∀ r ∈ lnsP L zs p, r.length ≤ p
  | 0, r, h => by simp [lnsP] at h
  | p + 1, r, h => by
    rw [lnsP] at h
    refine pushR_row (n := p) (fun r hr => ?_) r h
    split at hr
    · rcases List.mem_append.1 hr with q | q
      · exact lnsP_row L zs p r q
      · rw [List.mem_singleton] at q; subst q; simp
    · exact lnsP_row L zs p r hr
/-- From left to right; of the same place from above; of the same height as they stood. -/
def LtX (L : List Gy) : Int → Int → Prop := Lt (fun z => (gyA L z).ax) (LtY L)
theorem Lt.asym {key : Int → Int} {tie : Int → Int → Prop} (ht : TieOk tie) {x y : Int} (h : Lt key tie x y) : ¬ Lt key tie y x := by
  rcases h with h | ⟨h, h'⟩ <;> rintro (k | ⟨k, k'⟩)
  · omega
  · omega
  · omega
  · exact ht.asym _ _ h' k'
theorem tieY (L : List Gy) : TieOk (LtY L) := ⟨fun _ _ h => Lt.asym tieI h, fun _ _ _ h k => Lt.trans tieI h k⟩
theorem tieX (L : List Gy) : TieOk (LtX L) := ⟨fun _ _ h => Lt.asym (tieY L) h, fun _ _ _ h k => Lt.trans (tieY L) h k⟩
/-- Two lists of the same, each in a strict order, are one. -/
theorem sorted_unique {R : Int → Int → Prop} (asym : ∀ x y, R x y → ¬ R y x) : ∀ {l k : List Int}, l.Perm k → l.Pairwise R → k.Pairwise R → l = k
  | [], k, p, _, _ => (List.nil_perm.1 p).symm
  | x :: l, [], p, _, _ => by have := p.length_eq; simp at this
  | x :: l, y :: k, p, h1, h2 => by
    have e : x = y := by
      by_cases e : x = y
      · exact e
      · have hx : x ∈ k := by have := p.mem_iff.1 (List.mem_cons_self (a := x) (l := l)); rcases List.mem_cons.1 this with q | q; exact absurd q e; exact q
        have hy : y ∈ l := by have := p.mem_iff.2 (List.mem_cons_self (a := y) (l := k)); rcases List.mem_cons.1 this with q | q; exact absurd q.symm e; exact q
        exact absurd ((List.pairwise_cons.1 h1).1 y hy) (asym _ _ ((List.pairwise_cons.1 h2).1 x hx))
    subst e
    rw [sorted_unique asym ((List.perm_cons x).1 p) (List.pairwise_cons.1 h1).2 (List.pairwise_cons.1 h2).2]
end Go.Proofs.Ytogdfjkbkhnobaa
