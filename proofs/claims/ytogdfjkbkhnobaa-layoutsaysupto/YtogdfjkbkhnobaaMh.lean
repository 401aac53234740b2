/-
  A block of cells that a call made, through later worlds.
-/
import Derived.Test.YtogdfjkbkhnobaaFa
import Derived.Laws.Rows
import Derived.Laws.Tables
namespace Go.Proofs.Ytogdfjkbkhnobaa
open Go.RowKit
/-- A block of cells, written out, in a world. -/
structure Holds (w : World) (b : Nat) (cs : Array Value) : Prop where
  lt : b < w.heap.size
  cell : ∀ o, w.cell? ⟨b, o, none⟩ = cs[o]?
  free : ∀ o, w.frozen? ⟨b, o, none⟩ = false
theorem Holds.later {w w' : World} {b : Nat} {cs : Array Value} (h : Holds w b cs) (hb : Below w.heap.size w w') : Holds w' b cs :=
  ⟨Nat.lt_of_lt_of_le h.lt hb.size, fun o => (hb.cell (p := ⟨b, o, none⟩) h.lt).trans (h.cell o), fun o => (hb.frozen (p := ⟨b, o, none⟩) h.lt).trans (h.free o)⟩
theorem Holds.alloc {w : World} {b : Nat} {cs : Array Value} (h : Holds w b cs) (o : Obj) : Holds (w.alloc o) b cs := h.later ((Below.refl _ _).alloc (Nat.le_refl _) o)
theorem Holds.new (w : World) (cs : Array Value) (t : TypeId) : Holds (w.alloc (.cells cs t)) w.heap.size cs :=
  ⟨by simp, fun o => World.cell?_alloc_new .., fun o => World.frozen?_alloc_new _ _ _ _⟩
theorem Holds.at {w : World} {b b' : Nat} {cs : Array Value} (h : Holds w b cs) (e : b' = b) : Holds w b' cs := by subst e; exact h

theorem Holds.other {w : World} {b b' o : Nat} {cs : Array Value} {v : Value} (h : Holds w b cs) (hne : b ≠ b') : Holds (w.setCell ⟨b', o, none⟩ v) b cs :=
  ⟨by simpa [World.setCell] using h.lt, fun q => by rw [World.cell?_setCell_other _ _ _ _ (by simp)]; exact h.cell q, fun q => by rw [World.frozen?_setCell]; exact h.free q⟩
theorem Holds.set {w : World} {b o : Nat} {cs : Array Value} {v : Value} (h : Holds w b cs) (ho : o < cs.size) : Holds (w.setCell ⟨b, o, none⟩ v) b (cs.set o v ho) := by
  refine ⟨by simpa [World.setCell] using h.lt, fun q => ?_, fun q => by rw [World.frozen?_setCell]; exact h.free q⟩
  by_cases e : q = o
  · subst e
    have hc := h.cell q
    rw [Array.getElem?_eq_getElem ho] at hc
    rw [World.cell?_setCell_same _ _ _ hc]; simp
  · rw [World.cell?_setCell_other _ _ _ _ (by simp), h.cell q, Array.getElem?_set_ne _ (by omega)]
theorem Holds.set2 {w : World} {b : Nat} {p q x y : Value} (h : Holds w b #[p, q]) : Holds ((w.setCell ⟨b, 0, none⟩ x).setCell ⟨b, 1, none⟩ y) b #[x, y] :=
  (h.set (v := x) (by simp : 0 < #[p, q].size)).set (v := y) (by simp)
theorem below_undrew {w w' : World} (h : Below w.drew.heap.size w.drew w') : Below w.heap.size w w' := (Below.refl _ w).drew.trans h
/-- A block that a call made: its cells, and that none is marked. -/
def At (w : World) (b : Nat) (t : TypeId) (cs : Array Value) : Prop := w.heap[b]? = some (.cells cs t (0, 0))
theorem At.lt {w : World} {b : Nat} {t : TypeId} {cs : Array Value} (h : At w b t cs) : b < w.heap.size := by
  unfold At at h; exact (Array.getElem?_eq_some_iff.1 h).1
theorem At.later {w w' : World} {b : Nat} {t : TypeId} {cs : Array Value} (h : At w b t cs) (hb : Below w.heap.size w w') : At w' b t cs := (hb.block b h.lt).trans h
theorem At.alloc {w : World} {b : Nat} {t : TypeId} {cs : Array Value} (h : At w b t cs) (o : Obj) : At (w.alloc o) b t cs := h.later ((Below.refl _ _).alloc (Nat.le_refl _) o)
theorem At.drew {w : World} {b : Nat} {t : TypeId} {cs : Array Value} (h : At w b t cs) : At w.drew b t cs := h
theorem At.new (w : World) (cs : Array Value) (t : TypeId) {b : Nat} (e : b = w.heap.size) : At (w.alloc (.cells cs t)) b t cs := by subst e; exact heap_alloc_new w _
theorem At.cell {w : World} {b : Nat} {t : TypeId} {cs : Array Value} (h : At w b t cs) (o : Nat) : w.cell? ⟨b, o, none⟩ = cs[o]? := cell_of_row w b o cs t (0, 0) h
theorem At.free {w : World} {b : Nat} {t : TypeId} {cs : Array Value} (h : At w b t cs) (o : Nat) : w.frozen? ⟨b, o, none⟩ = false := frozen_of_row w b o cs t h
theorem At.setRow {w : World} {b : Nat} {t : TypeId} {cs : Array Value} (h : At w b t cs) (ds : Array Value) : At (w.setRow b ds) b t ds := by
  unfold At at *; simp [World.setRow, Array.getElem?_modify, h]
theorem below_setRow {B : Nat} {a w : World} (h : Below B a w) {b : Nat} (hb : B ≤ b) (ds : Array Value) : Below B a (w.setRow b ds) :=
  h.trans ⟨rfl, rfl, rfl, by simp [World.setRow], fun k hk => by simp only [World.setRow, Array.getElem?_modify]; rw [if_neg (by omega)]⟩
theorem ones6 (a b c d e f : Int) : (#[.int .i64 a, .int .i64 b, .int .i64 c, .int .i64 d, .int .i64 e, .int .i64 f] : Array Value).all (·.oneCell') = true := by simp [Value.oneCell']
end Go.Proofs.Ytogdfjkbkhnobaa
