/-
  Values in memory: a tree, and the cells that hold it; what is read as an argument is one.
-/
import Derived.Test.YtggojafapieliabDoorRows
import Derived.WalkKit
import Derived.ProofKit
import Derived.Deep.Slices
import Derived.Lib.SmallJoins
namespace Go.Proofs.YtggojafapieliabDoor
open Go.RowKit Go.WideShapes Go.ChangeShapes Go.Deep Go.Joins
set_option maxRecDepth 100000

/-- A value of package api, as a tree. -/
structure V where
  k : Int
  n : Int
  s : ByteArray
  l : List V
  f : List (ByteArray × V)

def CellsAt (w : World) (b off : Nat) (cs : List Value) : Prop := ∀ i c, cs[i]? = some c → w.cell? ⟨b, off + i, none⟩ = some c
/-- The cells cs hold the tree v, which is less than d deep. -/
def RepN : Nat → World → V → List Value → Prop
  | 0, _, _, _ => False
  | d + 1, w, v, cs => ∃ (al af : Option Addr) (cl cf : Nat),
      cs = [.int .i64 v.k, .int .i64 v.n, .string v.s, .slice al v.l.length cl, .slice af v.f.length cf] ∧ (v.s.size ≤ maxLen ∧ v.l.length ≤ maxLen ∧ v.f.length ≤ maxLen) ∧
      (∀ i x, v.l[i]? = some x → ∃ b off c, al = some ⟨b, off, none⟩ ∧ b < w.heap.size ∧ CellsAt w b (off + i * 5) c ∧ RepN d w x c) ∧
      (∀ i q, v.f[i]? = some q → ∃ b off c, af = some ⟨b, off, none⟩ ∧ b < w.heap.size ∧ q.1.size ≤ maxLen ∧ w.cell? ⟨b, off + i * 6, none⟩ = some (.string q.1) ∧ CellsAt w b (off + i * 6 + 1) c ∧ RepN d w q.2 c)

/-- How much there is in a tree: letters and values. -/
def bulkN : Nat → V → Nat
  | 0, _ => 0
  | d + 1, v => 1 + v.s.size + (v.l.map (bulkN d)).sum + (v.f.map fun q => 1 + q.1.size + bulkN d q.2).sum

theorem CellsAt.later {w w' : World} {b off : Nat} {cs : List Value} (h : CellsAt w b off cs) (hb : b < w.heap.size) (hB : Below w.heap.size w w') : CellsAt w' b off cs :=
  fun i c hc => (hB.cell (p := ⟨b, off + i, none⟩) hb).trans (h i c hc)
theorem RepN.later : ∀ {d : Nat} {w w' : World} {v : V} {cs : List Value}, RepN d w v cs → Below w.heap.size w w' → RepN d w' v cs
  | 0, _, _, _, _, h, _ => h.elim
  | d + 1, w, w', v, cs, h, hB => by
    obtain ⟨al, af, cl, cf, h1, h2, h3, h4⟩ := h
    refine ⟨al, af, cl, cf, h1, h2, fun i x hx => ?_, fun i q hq => ?_⟩
    · obtain ⟨b, off, c, e, hb, hc, hr⟩ := h3 i x hx
      exact ⟨b, off, c, e, Nat.lt_of_lt_of_le hb hB.size, hc.later hb hB, hr.later hB⟩
    · obtain ⟨b, off, c, e, hb, hs, hn, hc, hr⟩ := h4 i q hq
      exact ⟨b, off, c, e, Nat.lt_of_lt_of_le hb hB.size, hs, (hB.cell (p := ⟨b, off + i * 6, none⟩) hb).trans hn, hc.later hb hB, hr.later hB⟩
theorem RepN.mono : ∀ {d d' : Nat} {w : World} {v : V} {cs : List Value}, RepN d w v cs → d ≤ d' → RepN d' w v cs
  | 0, _, _, _, _, h, _ => h.elim
  | d + 1, 0, _, _, _, _, hd => by omega
  | d + 1, d' + 1, w, v, cs, h, hd => by
    obtain ⟨al, af, cl, cf, h1, h2, h3, h4⟩ := h
    refine ⟨al, af, cl, cf, h1, h2, fun i x hx => ?_, fun i q hq => ?_⟩
    · obtain ⟨b, off, c, e, hb, hc, hr⟩ := h3 i x hx
      exact ⟨b, off, c, e, hb, hc, hr.mono (by omega)⟩
    · obtain ⟨b, off, c, e, hb, hs, hn, hc, hr⟩ := h4 i q hq
      exact ⟨b, off, c, e, hb, hs, hn, hc, hr.mono (by omega)⟩

theorem bulk_eq : ∀ {d d' : Nat} {w : World} {v : V} {cs : List Value}, RepN d w v cs → d ≤ d' → bulkN d' v = bulkN d v
  | 0, _, _, _, _, h, _ => h.elim
  | d + 1, 0, _, _, _, _, hd => by omega
  | d + 1, d' + 1, w, v, cs, h, hd => by
    obtain ⟨al, af, cl, cf, h1, h2, h3, h4⟩ := h
    have e1 : v.l.map (bulkN d') = v.l.map (bulkN d) := List.map_congr_left fun x hx => by
      obtain ⟨i, hi⟩ := List.getElem?_of_mem hx
      obtain ⟨b, off, c, e, hb, hc, hr⟩ := h3 i x hi
      exact bulk_eq hr (by omega)
    have e2 : (v.f.map fun q => 1 + q.1.size + bulkN d' q.2) = v.f.map fun q => 1 + q.1.size + bulkN d q.2 := List.map_congr_left fun q hq => by
      obtain ⟨i, hi⟩ := List.getElem?_of_mem hq
      obtain ⟨b, off, c, e, hb, hs, hn, hc, hr⟩ := h4 i q hi
      rw [bulk_eq hr (show d ≤ d' by omega)]
    rw [bulkN, bulkN, e1, e2]
theorem sum_le {α : Type} {H : Type} (g : α → Nat) : ∀ (l : List α) (ds : List (DataW H)), l.length = ds.length → (∀ (i : Nat) (a : α) (d : DataW H), l[i]? = some a → ds[i]? = some d → g a ≤ Rows.uptoBulk d) → (l.map g).sum ≤ Rows.uptoBulkAll ds
  | [], [], _, _ => by simp [Rows.uptoBulkAll]
  | a :: l, d :: ds, hl, h => by
    have h0 := h 0 a d rfl rfl
    have ih := sum_le g l ds (by simpa using hl) (fun i a d h1 h2 => h (i + 1) a d (by simpa using h1) (by simpa using h2))
    simp only [List.map_cons, List.sum_cons, Rows.uptoBulkAll]; omega
  | [], _ :: _, hl, _ => by simp at hl
  | _ :: _, [], hl, _ => by simp at hl

theorem cellsInt : Tryd.prog.cellsOf 3 = 1 := by kernel_rfl
theorem cellsStr : Tryd.prog.cellsOf 9 = 1 := by kernel_rfl
theorem list5 {α : Type} {cs : List α} (h : cs.length = 5) : ∃ c0 c1 c2 c3 c4, cs = [c0, c1, c2, c3, c4] := by
  match cs, h with
  | [c0, c1, c2, c3, c4], _ => exact ⟨c0, c1, c2, c3, c4, rfl⟩
theorem list6 {α : Type} {cs : List α} (h : cs.length = 6) : ∃ c0 c1 c2 c3 c4 c5, cs = [c0, c1, c2, c3, c4, c5] := by
  match cs, h with
  | [c0, c1, c2, c3, c4, c5], _ => exact ⟨c0, c1, c2, c3, c4, c5, rfl⟩

section
variable {H : Type} {enc : TypeId × Value → H} {W : World}
/-- The first element's cells tell that the address is a plain one. -/
theorem plain_of_first {a : Addr} {n : Nat} {cs : List Value} (h : W.cells? 0 (a.add (0 * n)) n = some cs) (hn : 0 < n) : ∃ b off, a = ⟨b, off, none⟩ ∧ b < W.heap.size := by
  obtain ⟨_, hl, hc⟩ := World.cells?_some h
  obtain ⟨b, off, spot⟩ := a
  have h0 : W.cell? ⟨b, off, spot⟩ = some (cs[0]'(by omega)) := by
    have := hc 0 hn
    rw [List.getElem?_eq_getElem (by omega)] at this
    simpa [Addr.add] using this
  have hspot : spot = none := World.cell?_spot h0
  subst hspot
  exact ⟨b, off, rfl, block_lt_of_cell h0⟩
/-- Cells of an element, plainly addressed. -/
theorem cells_at {b off o n : Nat} {cs : List Value} (h : W.cells? 0 ((⟨b, off, none⟩ : Addr).add o) n = some cs) : cs.length = n ∧ CellsAt W b (off + o) cs := by
  obtain ⟨_, hl, hc⟩ := World.cells?_some h
  refine ⟨hl, fun i c hi => ?_⟩
  have hi' : i < n := by have := (List.getElem?_eq_some_iff.1 hi).1; omega
  have := hc i hi'
  rw [Go.WideShapes.add_plain, Go.WideShapes.add_plain] at this
  rw [this, hi]

/-- A list that is read: its elements, one by one. -/
theorem trod_list {t e : TypeId} {n m : Nat} {c : Value} {x : DataW H × List MemPlace} (ht : Tryd.prog.underlying t = some (.slice e)) (hc : Tryd.prog.cellsOf e = m) (hm : 0 < m) (h : DataW.trod enc Tryd.prog W 0 (fun _ => true) true n t [c] = some x) :
    ∃ a len cap, ∃ es : List (DataW H × List MemPlace), c = .slice a len cap ∧ len ≤ maxLen ∧ es.length = len ∧ Rows.uptoBulkAll (es.map (·.1)) + 1 ≤ Rows.uptoBulk x.1 ∧ ∀ i y, es[i]? = some y → ∃ b off cs, a = some ⟨b, off, none⟩ ∧ b < W.heap.size ∧ cs.length = m ∧ CellsAt W b (off + i * m) cs ∧ DataW.trod enc Tryd.prog W 0 (fun _ => true) true (n - 1) e cs = some y := by
  rcases DataW.trod_slice ht h with ⟨h0, hx0⟩ | ⟨a, len, cap, elems, rest, k, rfl, h0, hx0, _, hl, hmx, hel, hget, _⟩
  · simp at h0
    exact ⟨none, 0, 0, [], h0, by unfold maxLen; omega, rfl, by rw [hx0]; simp [Rows.uptoBulkAll, Rows.uptoBulk], fun i y hi => by simp at hi⟩
  · simp at h0
    refine ⟨some a, len, cap, elems, h0, Nat.le_trans hl hmx, hel, by rw [hx0]; simp only [Rows.uptoBulk]; omega, fun i y hi => ?_⟩
    have one : ∀ j y, elems[j]? = some y → ∃ cs, W.cells? 0 (a.add (j * m)) m = some cs ∧ DataW.trod enc Tryd.prog W 0 (fun _ => true) true k e cs = some y := fun j y hj => by
      have g := hget j (by have := (List.getElem?_eq_some_iff.1 hj).1; omega)
      rw [hj, hc] at g
      obtain ⟨cs, g1, g2⟩ := Option.bind_eq_some_iff.1 g
      exact ⟨cs, g1, g2⟩
    have hpos : 0 < elems.length := by have := (List.getElem?_eq_some_iff.1 hi).1; omega
    obtain ⟨cs0, z0, _⟩ := one 0 _ (List.getElem?_eq_getElem hpos)
    obtain ⟨b, off, rfl, hb⟩ := plain_of_first z0 hm
    obtain ⟨cs, z1, z2⟩ := one i y hi
    obtain ⟨l1, l2⟩ := cells_at z1
    exact ⟨b, off, cs, rfl, hb, l1, l2, by simpa using z2⟩

end
end Go.Proofs.YtggojafapieliabDoor
