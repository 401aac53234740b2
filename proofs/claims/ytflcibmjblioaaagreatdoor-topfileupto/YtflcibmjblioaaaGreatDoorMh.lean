/-
  Joined: Fh, Rd, Mh.
-/
import Derived.Test.YtflcibmjblioaaaGreatDoorFe
import Derived.Test.YtflcibmjblioaaaGreatDoorPq
import Derived.Lib.SmallJoins
import Derived.Test.YtflcibmjblioaaaGreatDoorFa
import Derived.Shelf.Vars
import Derived.Stop.LaidErr
import Derived.Laws.Rows
import Derived.Laws.Tables

/-
  Contracts of texts and of reading, with what later calls need: the table of powers, and the word that a search asks for, still stand.
-/
namespace Go.Proofs.YtflcibmjblioaaaGreatDoor
open Go.RowKit
set_option maxRecDepth 100000

theorem gPow : Tryz.prog.globalNamed "internal/strconv.uint64pow10" = some 3 := by kernel_rfl
/-- What the calls lean on: the table of powers of ten, and a number in the variable that a search asks. -/
def Rdy (m : Int) (w : World) : Prop := Tab w ∧ w.cell? ⟨0, 0, none⟩ = some (.int .i64 m)
theorem Rdy.below {m : Int} {w w' : World} (h : Rdy m w) (hb : Below w.heap.size w w') : Rdy m w' :=
  ⟨Joins.tab_stays gPow h.1 hb (Nat.le_refl _), cell_later hb h.2⟩
theorem bel_drewN (w : World) (n : Nat) : Below w.heap.size w (w.drewN n) := below_drewN (Below.refl _ _) n

def txtB (n : Int) : ByteArray := ⟨(if okF n then fixTxt n else []).toArray⟩
theorem txtB_ok {n : Int} (h : okF n = true) : txtB n = ⟨(fixTxt n).toArray⟩ := by unfold txtB; rw [h]; rfl
theorem txtB_bad {n : Int} (h : okF n = false) : txtB n = ⟨#[]⟩ := by unfold txtB; rw [h]; rfl

theorem text_any (m n : Int) (w : World) (hr : Rdy m w) :
    Calls Tryz.prog 105 #[.int .i64 n] w fun e w' => e = .returned (.tuple #[.string (txtB n), errN (flt n)]) ∧ Below w.heap.size w w' ∧ Rdy m w' := by
  cases h : okF n
  · rw [txtB_bad h, flt_bad h, errN_1]
    refine (text_bad n w h).mono ?_
    rintro e w' ⟨rfl, rfl⟩
    exact ⟨rfl, Below.refl _ _, hr⟩
  · rw [txtB_ok h, flt_ok h, errN_0]
    refine (text_ok n w hr.1 h).mono ?_
    rintro e w' ⟨rfl, hb⟩
    exact ⟨rfl, hb, hr.below hb⟩
theorem parse_rdy (m : Int) (s : ByteArray) (w : World) (hr : Rdy m w) (hs : s.size ≤ 100000) :
    Calls Tryz.prog 151 #[.string s] w fun e w' => e = .returned (.tuple #[.int .i64 (parseN s.data.toList), errN (parseE s.data.toList)]) ∧ Below w.heap.size w w' ∧ Rdy m w' := by
  refine (parse_any s w hs m hr.2).mono ?_
  rintro e w' ⟨rfl, n, rfl⟩
  exact ⟨rfl, bel_drewN w n, hr.below (bel_drewN w n)⟩
theorem fixTxt_len (n : Int) (h : okF n = true) : (fixTxt n).length ≤ 40 := by
  have h' := okF_iff.1 h
  by_cases hn : 0 ≤ n
  · obtain ⟨u, rfl⟩ : ∃ u : Nat, n = u := ⟨n.toNat, by omega⟩
    rw [fixTxt_nonneg]; have := body_len u (by omega); omega
  · obtain ⟨u, rfl⟩ : ∃ u : Nat, n = -(u : Int) := ⟨n.natAbs, by omega⟩
    rw [fixTxt_neg u (by omega)]; have := body_len u (by omega); simp only [List.length_cons]; omega
end Go.Proofs.YtflcibmjblioaaaGreatDoor

/-
  What the row's list and the world's shape give: the table of powers of ten, and some number in the variable that a search asks.
-/
namespace Go.Proofs.YtflcibmjblioaaaGreatDoor
open Go.ChangeShapes Go.WideShapes Go.ChangeAt Go.RowKit
set_option maxRecDepth 100000

theorem gPowType : (Tryz.prog.globals[3]?).map (·.type) = some 218 := by kernel_rfl
theorem cellsPow : Tryz.prog.cellsOf 218 = 20 := by kernel_rfl
theorem cellsU64 : Tryz.prog.cellsOf 177 = 1 := by kernel_rfl
end Go.Proofs.YtflcibmjblioaaaGreatDoor

/-
  A block of cells that a call made, through later worlds.
-/
namespace Go.Proofs.YtflcibmjblioaaaGreatDoor
open Go.RowKit
/-- A block of cells, written out, in a world. -/
structure Holds (w : World) (b : Nat) (cs : Array Value) : Prop where
  lt : b < w.heap.size
  cell : ∀ o, w.cell? ⟨b, o, none⟩ = cs[o]?
  free : ∀ o, w.frozen? ⟨b, o, none⟩ = false
theorem Holds.later {w w' : World} {b : Nat} {cs : Array Value} (h : Holds w b cs) (hb : Below w.heap.size w w') : Holds w' b cs :=
  ⟨Nat.lt_of_lt_of_le h.lt hb.size, fun o => (hb.cell (p := ⟨b, o, none⟩) h.lt).trans (h.cell o), fun o => (hb.frozen (p := ⟨b, o, none⟩) h.lt).trans (h.free o)⟩
theorem Holds.alloc {w : World} {b : Nat} {cs : Array Value} (h : Holds w b cs) (o : Obj) : Holds (w.alloc o) b cs := h.later ((Below.refl _ _).alloc (Nat.le_refl _) o)
theorem Holds.new (w : World) (cs : Array Value) (t : TypeId) : Holds (w.alloc (.cells cs t)) w.heap.size cs :=
  ⟨by simp, fun o => World.cell?_alloc_new .., fun o => World.frozen?_alloc_new _ _ _ _⟩
theorem Holds.at {w : World} {b b' : Nat} {cs : Array Value} (h : Holds w b cs) (e : b' = b) : Holds w b' cs := by subst e; exact h

theorem Holds.other {w : World} {b b' o : Nat} {cs : Array Value} {v : Value} (h : Holds w b cs) (hne : b ≠ b') : Holds (w.setCell ⟨b', o, none⟩ v) b cs :=
  ⟨by simpa [World.setCell] using h.lt, fun q => by rw [World.cell?_setCell_other _ _ _ _ (by simp)]; exact h.cell q, fun q => by rw [World.frozen?_setCell]; exact h.free q⟩
theorem Holds.set {w : World} {b o : Nat} {cs : Array Value} {v : Value} (h : Holds w b cs) (ho : o < cs.size) : Holds (w.setCell ⟨b, o, none⟩ v) b (cs.set o v ho) := by
  refine ⟨by simpa [World.setCell] using h.lt, fun q => ?_, fun q => by rw [World.frozen?_setCell]; exact h.free q⟩
  by_cases e : q = o
  · subst e
    have hc := h.cell q
    rw [Array.getElem?_eq_getElem ho] at hc
    rw [World.cell?_setCell_same _ _ _ hc]; simp
  · rw [World.cell?_setCell_other _ _ _ _ (by simp), h.cell q, Array.getElem?_set_ne _ (by omega)]
theorem below_undrew {w w' : World} (h : Below w.drew.heap.size w.drew w') : Below w.heap.size w w' := (Below.refl _ w).drew.trans h
/-- A block that a call made: its cells, and that none is marked. -/
def At (w : World) (b : Nat) (t : TypeId) (cs : Array Value) : Prop := w.heap[b]? = some (.cells cs t (0, 0))
theorem At.lt {w : World} {b : Nat} {t : TypeId} {cs : Array Value} (h : At w b t cs) : b < w.heap.size := by
  unfold At at h; exact (Array.getElem?_eq_some_iff.1 h).1
theorem At.later {w w' : World} {b : Nat} {t : TypeId} {cs : Array Value} (h : At w b t cs) (hb : Below w.heap.size w w') : At w' b t cs := (hb.block b h.lt).trans h
theorem At.alloc {w : World} {b : Nat} {t : TypeId} {cs : Array Value} (h : At w b t cs) (o : Obj) : At (w.alloc o) b t cs := h.later ((Below.refl _ _).alloc (Nat.le_refl _) o)
theorem At.drew {w : World} {b : Nat} {t : TypeId} {cs : Array Value} (h : At w b t cs) : At w.drew b t cs := h
theorem At.new (w : World) (cs : Array Value) (t : TypeId) {b : Nat} (e : b = w.heap.size) : At (w.alloc (.cells cs t)) b t cs := by subst e; exact heap_alloc_new w _
theorem At.cell {w : World} {b : Nat} {t : TypeId} {cs : Array Value} (h : At w b t cs) (o : Nat) : w.cell? ⟨b, o, none⟩ = cs[o]? := cell_of_row w b o cs t (0, 0) h
theorem At.free {w : World} {b : Nat} {t : TypeId} {cs : Array Value} (h : At w b t cs) (o : Nat) : w.frozen? ⟨b, o, none⟩ = false := frozen_of_row w b o cs t h
theorem At.setRow {w : World} {b : Nat} {t : TypeId} {cs : Array Value} (h : At w b t cs) (ds : Array Value) : At (w.setRow b ds) b t ds := by
  unfold At at *; simp [World.setRow, Array.getElem?_modify, h]
theorem below_setRow {B : Nat} {a w : World} (h : Below B a w) {b : Nat} (hb : B ≤ b) (ds : Array Value) : Below B a (w.setRow b ds) :=
  h.trans ⟨rfl, rfl, rfl, by simp [World.setRow], fun k hk => by simp only [World.setRow, Array.getElem?_modify]; rw [if_neg (by omega)]⟩
end Go.Proofs.YtflcibmjblioaaaGreatDoor
