/-
  Joined: Vc4, Vaa, Vd3.
-/
import Derived.Test.YtobpidmlgldnmaaGreatDoorVc3
import Derived.Test.YtobpidmlgldnmaaGreatDoorVy
import Derived.Deep.AppendLies
import Derived.Deep.LoopGhost
import Derived.WalkSmall
import Derived.Deep.RegionHeld3
import Derived.Laws.EntriesVeiled

/-
  Copying: the two lists of one place.
-/
namespace Go.Proofs.YtobpidmlgldnmaaGreatDoor
open Go.RowKit
set_option maxRecDepth 100000

theorem Tree.setCell {w : World} {b g i : Nat} {v : Value} (h : Tree w b) : Tree (w.setCell ⟨g, i, none⟩ v) b := by
  obtain ⟨cs, t, h1, h2⟩ := h
  by_cases e : b = g
  · subst e
    exact ⟨cs.setIfInBounds i v, t, by simp [World.setCell, Array.getElem?_modify, h1], h2⟩
  · exact ⟨cs, t, (Below.heap_setCell _ _ _ _ (by simpa using e)).trans h1, h2⟩
theorem Tree.grown {w w' : World} {b : Nat} (h : Tree w b) (hg : w.grownBy w' none) : Tree w' b := by
  have hl := h.lt
  obtain ⟨cs, t, h1, h2⟩ := h
  exact ⟨cs, t, (hg.block b hl (by simp)).trans h1, h2⟩
theorem Shape.setCell {w : World} {b g i n : Nat} {t : TypeId} {v : Value} (h : Shape w b t n) : Shape (w.setCell ⟨g, i, none⟩ v) b t n := by
  obtain ⟨cs, h1, h2⟩ := h
  by_cases e : b = g
  · subst e
    exact ⟨cs.setIfInBounds i v, by simp [World.setCell, Array.getElem?_modify, h1], by simpa using h2⟩
  · exact ⟨cs, (Below.heap_setCell _ _ _ _ (by simpa using e)).trans h1, h2⟩
theorem Shape.grown {w w' : World} {b n : Nat} {t : TypeId} (h : Shape w b t n) (hg : w.grownBy w' none) : Shape w' b t n := by
  obtain ⟨cs, h1, h2⟩ := h
  exact ⟨cs, (hg.block b (Array.getElem?_eq_some_iff.1 h1).1 (by simp)).trans h1, h2⟩
theorem rep_len {d : Nat} {w : World} {v : V} {c : List Value} (h : RepN d w v c) : c.length = 5 := by
  obtain ⟨e, rfl⟩ := h.inv
  obtain ⟨_, _, _, _, rfl, _⟩ := h
  rfl
end Go.Proofs.YtobpidmlgldnmaaGreatDoor

/-
  The program's own answer to 'are two the same': pairs that are still to be looked at.
-/
namespace Go.Proofs.YtobpidmlgldnmaaGreatDoor
open Go.RowKit
set_option maxRecDepth 100000
attribute [local go_sem ↓] Go.wp_at_zero Go.wp_at_succ

/-- Two that are held against each other, and where they lie. -/
structure PP where
  b : Nat
  o : Nat
  x : V
  b' : Nat
  o' : Nat
  y : V
def PP.cells (q : PP) : List Value := [.pointer (some ⟨q.b, q.o, none⟩), .pointer (some ⟨q.b', q.o', none⟩)]
def PP.ok (d : Nat) (w : World) (q : PP) : Prop := q.b < w.heap.size ∧ q.b' < w.heap.size ∧ (∃ c, CellsAt w q.b q.o c ∧ RepN d w q.x c) ∧ ∃ c, CellsAt w q.b' q.o' c ∧ RepN d w q.y c
end Go.Proofs.YtobpidmlgldnmaaGreatDoor

/-
  What a dictionary has by a name: the program's answer, and the document's.
-/
namespace Go.Proofs.YtobpidmlgldnmaaGreatDoor
open Go.RowKit
set_option maxRecDepth 100000

def V.zero : V := ⟨0, 0, ⟨#[]⟩, [], []⟩
/-- What the first field of a name has. -/
def getF (name : ByteArray) : List (ByteArray × V) → Option V
  | [] => none
  | q :: l => if q.1.toList == name.toList then some q.2 else getF name l
theorem getF_some {name : ByteArray} : ∀ {f : List (ByteArray × V)} {i : Nat} {q : ByteArray × V}, f[i]? = some q → (q.1.toList == name.toList) = true → (∀ (j : Nat) (s : ByteArray × V), j < i → f[j]? = some s → (s.1.toList == name.toList) = false) → getF name f = some q.2
  | [], i, q, h, _, _ => by simp at h
  | p :: l, 0, q, h, hq, _ => by simp at h; subst h; rw [getF, hq]; rfl
  | p :: l, i + 1, q, h, hq, hj => by
    rw [getF, hj 0 p (by omega) rfl]
    exact getF_some (by simpa using h) hq (fun j s hlt hs => hj (j + 1) s (by omega) (by simpa using hs))
theorem rep_ones {d : Nat} {w : World} {v : V} {c : List Value} (h : RepN d w v c) : c.toArray.all (·.oneCell') = true := by
  obtain ⟨e, rfl⟩ := h.inv
  obtain ⟨_, _, _, _, rfl, _⟩ := h
  simp [Value.oneCell']
end Go.Proofs.YtobpidmlgldnmaaGreatDoor
