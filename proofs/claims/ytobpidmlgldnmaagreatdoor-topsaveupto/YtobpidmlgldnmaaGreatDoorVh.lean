/-
  Joined: Va, Vs, Vh.
-/
import Derived.Test.YtobpidmlgldnmaaGreatDoorRows
import Derived.WalkKit
import Derived.ProofKit
import Derived.Deep.Slices
import Derived.Lib.SmallJoins
import Derived.Test.YtobpidmlgldnmaaGreatDoorKb
import Derived.Deep.RegionWith
import Derived.Deep.CutRange
import Derived.Deep.CutBlock
import Derived.BigRegion

/-
  Values in memory: a tree, and the cells that hold it; what is read as an argument is one.
-/
namespace Go.Proofs.YtobpidmlgldnmaaGreatDoor
open Go.RowKit Go.WideShapes Go.ChangeShapes Go.Deep Go.Joins
set_option maxRecDepth 100000

/-- A value of package api, as a tree. -/
structure V where
  k : Int
  n : Int
  s : ByteArray
  l : List V
  f : List (ByteArray × V)

def CellsAt (w : World) (b off : Nat) (cs : List Value) : Prop := ∀ i c, cs[i]? = some c → w.cell? ⟨b, off + i, none⟩ = some c
/-- The cells cs hold the tree v, which is less than d deep. -/
def RepN : Nat → World → V → List Value → Prop
  | 0, _, _, _ => False
  | d + 1, w, v, cs => ∃ (al af : Option Addr) (cl cf : Nat),
      cs = [.int .i64 v.k, .int .i64 v.n, .string v.s, .slice al v.l.length cl, .slice af v.f.length cf] ∧ (v.s.size ≤ maxLen ∧ v.l.length ≤ maxLen ∧ v.f.length ≤ maxLen) ∧
      (∀ i x, v.l[i]? = some x → ∃ b off c, al = some ⟨b, off, none⟩ ∧ b < w.heap.size ∧ CellsAt w b (off + i * 5) c ∧ RepN d w x c) ∧
      (∀ i q, v.f[i]? = some q → ∃ b off c, af = some ⟨b, off, none⟩ ∧ b < w.heap.size ∧ q.1.size ≤ maxLen ∧ w.cell? ⟨b, off + i * 6, none⟩ = some (.string q.1) ∧ CellsAt w b (off + i * 6 + 1) c ∧ RepN d w q.2 c)

theorem CellsAt.later {w w' : World} {b off : Nat} {cs : List Value} (h : CellsAt w b off cs) (hb : b < w.heap.size) (hB : Below w.heap.size w w') : CellsAt w' b off cs :=
  fun i c hc => (hB.cell (p := ⟨b, off + i, none⟩) hb).trans (h i c hc)
theorem RepN.later : ∀ {d : Nat} {w w' : World} {v : V} {cs : List Value}, RepN d w v cs → Below w.heap.size w w' → RepN d w' v cs
  | 0, _, _, _, _, h, _ => h.elim
  | d + 1, w, w', v, cs, h, hB => by
    obtain ⟨al, af, cl, cf, h1, h2, h3, h4⟩ := h
    refine ⟨al, af, cl, cf, h1, h2, fun i x hx => ?_, fun i q hq => ?_⟩
    · obtain ⟨b, off, c, e, hb, hc, hr⟩ := h3 i x hx
      exact ⟨b, off, c, e, Nat.lt_of_lt_of_le hb hB.size, hc.later hb hB, hr.later hB⟩
    · obtain ⟨b, off, c, e, hb, hs, hn, hc, hr⟩ := h4 i q hq
      exact ⟨b, off, c, e, Nat.lt_of_lt_of_le hb hB.size, hs, (hB.cell (p := ⟨b, off + i * 6, none⟩) hb).trans hn, hc.later hb hB, hr.later hB⟩
theorem RepN.mono : ∀ {d d' : Nat} {w : World} {v : V} {cs : List Value}, RepN d w v cs → d ≤ d' → RepN d' w v cs
  | 0, _, _, _, _, h, _ => h.elim
  | d + 1, 0, _, _, _, _, hd => by omega
  | d + 1, d' + 1, w, v, cs, h, hd => by
    obtain ⟨al, af, cl, cf, h1, h2, h3, h4⟩ := h
    refine ⟨al, af, cl, cf, h1, h2, fun i x hx => ?_, fun i q hq => ?_⟩
    · obtain ⟨b, off, c, e, hb, hc, hr⟩ := h3 i x hx
      exact ⟨b, off, c, e, hb, hc, hr.mono (by omega)⟩
    · obtain ⟨b, off, c, e, hb, hs, hn, hc, hr⟩ := h4 i q hq
      exact ⟨b, off, c, e, hb, hs, hn, hc, hr.mono (by omega)⟩

theorem cellsStr : Tryz.prog.cellsOf 9 = 1 := by kernel_rfl
section
variable {H : Type} {enc : TypeId × Value → H} {W : World}
/-- The first element's cells tell that the address is a plain one. -/
theorem plain_of_first {a : Addr} {n : Nat} {cs : List Value} (h : W.cells? 0 (a.add (0 * n)) n = some cs) (hn : 0 < n) : ∃ b off, a = ⟨b, off, none⟩ ∧ b < W.heap.size := by
  obtain ⟨_, hl, hc⟩ := World.cells?_some h
  obtain ⟨b, off, spot⟩ := a
  have h0 : W.cell? ⟨b, off, spot⟩ = some (cs[0]'(by omega)) := by
    have := hc 0 hn
    rw [List.getElem?_eq_getElem (by omega)] at this
    simpa [Addr.add] using this
  have hspot : spot = none := World.cell?_spot h0
  subst hspot
  exact ⟨b, off, rfl, block_lt_of_cell h0⟩
/-- Cells of an element, plainly addressed. -/
theorem cells_at {b off o n : Nat} {cs : List Value} (h : W.cells? 0 ((⟨b, off, none⟩ : Addr).add o) n = some cs) : cs.length = n ∧ CellsAt W b (off + o) cs := by
  obtain ⟨_, hl, hc⟩ := World.cells?_some h
  refine ⟨hl, fun i c hi => ?_⟩
  have hi' : i < n := by have := (List.getElem?_eq_some_iff.1 hi).1; omega
  have := hc i hi'
  rw [Go.WideShapes.add_plain, Go.WideShapes.add_plain] at this
  rw [this, hi]

/-- A list that is read: its elements, one by one. -/
theorem trod_list {t e : TypeId} {n m : Nat} {c : Value} {x : DataW H × List MemPlace} (ht : Tryz.prog.underlying t = some (.slice e)) (hc : Tryz.prog.cellsOf e = m) (hm : 0 < m) (h : DataW.trod enc Tryz.prog W 0 (fun _ => true) true n t [c] = some x) :
    ∃ a len cap, ∃ es : List (DataW H × List MemPlace), c = .slice a len cap ∧ len ≤ maxLen ∧ es.length = len ∧ Rows.uptoBulkAll (es.map (·.1)) + 1 ≤ Rows.uptoBulk x.1 ∧ ∀ i y, es[i]? = some y → ∃ b off cs, a = some ⟨b, off, none⟩ ∧ b < W.heap.size ∧ cs.length = m ∧ CellsAt W b (off + i * m) cs ∧ DataW.trod enc Tryz.prog W 0 (fun _ => true) true (n - 1) e cs = some y := by
  rcases DataW.trod_slice ht h with ⟨h0, hx0⟩ | ⟨a, len, cap, elems, rest, k, rfl, h0, hx0, _, hl, hmx, hel, hget, _⟩
  · simp at h0
    exact ⟨none, 0, 0, [], h0, by unfold maxLen; omega, rfl, by rw [hx0]; simp [Rows.uptoBulkAll, Rows.uptoBulk], fun i y hi => by simp at hi⟩
  · simp at h0
    refine ⟨some a, len, cap, elems, h0, Nat.le_trans hl hmx, hel, by rw [hx0]; simp only [Rows.uptoBulk]; omega, fun i y hi => ?_⟩
    have one : ∀ j y, elems[j]? = some y → ∃ cs, W.cells? 0 (a.add (j * m)) m = some cs ∧ DataW.trod enc Tryz.prog W 0 (fun _ => true) true k e cs = some y := fun j y hj => by
      have g := hget j (by have := (List.getElem?_eq_some_iff.1 hj).1; omega)
      rw [hj, hc] at g
      obtain ⟨cs, g1, g2⟩ := Option.bind_eq_some_iff.1 g
      exact ⟨cs, g1, g2⟩
    have hpos : 0 < elems.length := by have := (List.getElem?_eq_some_iff.1 hi).1; omega
    obtain ⟨cs0, z0, _⟩ := one 0 _ (List.getElem?_eq_getElem hpos)
    obtain ⟨b, off, rfl, hb⟩ := plain_of_first z0 hm
    obtain ⟨cs, z1, z2⟩ := one i y hi
    obtain ⟨l1, l2⟩ := cells_at z1
    exact ⟨b, off, cs, rfl, hb, l1, l2, by simpa using z2⟩

end
end Go.Proofs.YtobpidmlgldnmaaGreatDoor

/-
  Plain functions over values as trees: how many, how deep, how much, whether it may be.
-/
namespace Go.Proofs.YtobpidmlgldnmaaGreatDoor
open Go.RowKit
set_option maxRecDepth 100000

mutual
def V.cnt : V → Nat
  | ⟨_, _, _, l, f⟩ => 1 + cntL l + cntF f
def cntL : List V → Nat
  | [] => 0
  | x :: l => V.cnt x + cntL l
def cntF : List (ByteArray × V) → Nat
  | [] => 0
  | q :: l => cntP q + cntF l
def cntP : ByteArray × V → Nat
  | (_, x) => V.cnt x
end
mutual
def V.dep : V → Nat
  | ⟨_, _, _, l, f⟩ => 1 + max (depL l) (depF f)
def depL : List V → Nat
  | [] => 0
  | x :: l => max (V.dep x) (depL l)
def depF : List (ByteArray × V) → Nat
  | [] => 0
  | q :: l => max (depP q) (depF l)
def depP : ByteArray × V → Nat
  | (_, x) => V.dep x
end
mutual
def V.bulk : V → Nat
  | ⟨_, _, s, l, f⟩ => 1 + s.size + bulkL l + bulkF f
def bulkL : List V → Nat
  | [] => 0
  | x :: l => V.bulk x + bulkL l
def bulkF : List (ByteArray × V) → Nat
  | [] => 0
  | q :: l => bulkP q + bulkF l
def bulkP : ByteArray × V → Nat
  | (n, x) => 1 + n.size + V.bulk x
end
theorem cnt_eq (v : V) : v.cnt = 1 + cntL v.l + cntF v.f := by cases v; rw [V.cnt]
theorem dep_eq (v : V) : v.dep = 1 + max (depL v.l) (depF v.f) := by cases v; rw [V.dep]
theorem bulk_eq' (v : V) : v.bulk = 1 + v.s.size + bulkL v.l + bulkF v.f := by cases v; rw [V.bulk]
theorem cntF_cons (q : ByteArray × V) (l) : cntF (q :: l) = q.2.cnt + cntF l := by cases q; rw [cntF, cntP]
theorem depF_cons (q : ByteArray × V) (l) : depF (q :: l) = max q.2.dep (depF l) := by cases q; rw [depF, depP]
theorem bulkF_cons (q : ByteArray × V) (l) : bulkF (q :: l) = 1 + q.1.size + q.2.bulk + bulkF l := by cases q; rw [bulkF, bulkP]
theorem bulkL_mem : ∀ (l : List V) (x : V), x ∈ l → x.bulk ≤ bulkL l
  | y :: l, x, h => by
    rw [bulkL]
    rcases List.mem_cons.1 h with rfl | h
    · omega
    · have := bulkL_mem l x h; omega
theorem bulkF_mem : ∀ (l : List (ByteArray × V)) (q : ByteArray × V), q ∈ l → 1 + q.1.size + q.2.bulk ≤ bulkF l
  | y :: l, x, h => by
    rw [bulkF_cons]
    rcases List.mem_cons.1 h with rfl | h
    · omega
    · have := bulkF_mem l x h; omega
/-- Whatever holds of all that is in a tree holds of it, step by step. -/
theorem V.ind {P : V → Prop} (h : ∀ v : V, (∀ x ∈ v.l, P x) → (∀ q ∈ v.f, P q.2) → P v) (v : V) : P v := by
  have key : ∀ n (v : V), v.bulk ≤ n → P v := by
    intro n
    induction n with
    | zero => intro v hv; rw [bulk_eq'] at hv; omega
    | succ n ih =>
      intro v hv
      rw [bulk_eq'] at hv
      exact h v (fun x hx => ih x (by have := bulkL_mem _ _ hx; omega)) (fun q hq => ih q.2 (by have := bulkF_mem _ _ hq; omega))
  exact key _ v (Nat.le_refl _)
theorem depL_le : ∀ (l : List V), (∀ x ∈ l, x.dep ≤ x.cnt) → depL l ≤ cntL l
  | [], _ => by simp [depL]
  | y :: l, h => by
    have := depL_le l (fun x hx => h x (by simp [hx]))
    have := h y (by simp)
    rw [depL, cntL]; omega
theorem depF_le : ∀ (l : List (ByteArray × V)), (∀ q ∈ l, q.2.dep ≤ q.2.cnt) → depF l ≤ cntF l
  | [], _ => by simp [depF]
  | y :: l, h => by
    have := depF_le l (fun x hx => h x (by simp [hx]))
    have := h y (by simp)
    rw [depF_cons, cntF_cons]; omega
theorem dep_le_cnt (v : V) : v.dep ≤ v.cnt := by
  induction v using V.ind with
  | h v hl hf =>
    have a := depL_le v.l hl
    have b := depF_le v.f hf
    rw [cnt_eq, dep_eq]; omega
end Go.Proofs.YtobpidmlgldnmaaGreatDoor

/-
  Aids for contracts over values: the cells of one, the block in which a call keeps one.
-/
namespace Go.Proofs.YtobpidmlgldnmaaGreatDoor
open Go.RowKit
set_option maxRecDepth 100000

theorem RepN.inv {d : Nat} {w : World} {v : V} {cs : List Value} (h : RepN d w v cs) : ∃ e, d = e + 1 := by
  cases d with
  | zero => exact h.elim
  | succ e => exact ⟨e, rfl⟩
/-- The cells of a value, one by one. -/
theorem rep_cells {d : Nat} {w : World} {v : V} {cs : List Value} {b o : Nat} (h : RepN d w v cs) (hc : CellsAt w b o cs) :
    ∃ k n s al ll cl af lf cf, cs = [.int .i64 k, .int .i64 n, .string s, .slice al ll cl, .slice af lf cf] ∧ w.cell? ⟨b, o, none⟩ = some (.int .i64 k) ∧ w.cell? ⟨b, o + 1, none⟩ = some (.int .i64 n) ∧ w.cell? ⟨b, o + 2, none⟩ = some (.string s) ∧ w.cell? ⟨b, o + 3, none⟩ = some (.slice al ll cl) ∧ w.cell? ⟨b, o + 4, none⟩ = some (.slice af lf cf) := by
  obtain ⟨e, rfl⟩ := h.inv
  obtain ⟨al, af, cl, cf, rfl, _⟩ := h
  exact ⟨_, _, _, _, _, _, _, _, _, rfl, hc 0 _ rfl, hc 1 _ rfl, hc 2 _ rfl, hc 3 _ rfl, hc 4 _ rfl⟩
/-- The answer to a question. -/
def AnsB (e : Ending) (P : Prop) : Prop := (e = .returned (.bool true) ∧ P) ∨ (e = .returned (.bool false) ∧ ¬ P)
theorem AnsB.yes {P : Prop} {r : Bool} (h : P) (hr : r = true := by rfl) : AnsB (.returned (.bool r)) P := by subst hr; exact .inl ⟨rfl, h⟩
theorem AnsB.no {P : Prop} {r : Bool} (h : ¬ P) (hr : r = false := by rfl) : AnsB (.returned (.bool r)) P := by subst hr; exact .inr ⟨rfl, h⟩
theorem AnsB.of {P : Prop} {r : Bool} (h : r = true ↔ P) : AnsB (.returned (.bool r)) P := by
  cases r
  · exact .inr ⟨rfl, fun hp => by have := h.2 hp; cases this⟩
  · exact .inl ⟨rfl, h.1 rfl⟩
theorem AnsB.bool {P : Prop} {e : Ending} (h : AnsB e P) : ∃ r : Bool, e = .returned (.bool r) ∧ (r = true ↔ P) := by
  rcases h with ⟨h, hp⟩ | ⟨h, hp⟩
  · exact ⟨true, h, iff_of_true rfl hp⟩
  · exact ⟨false, h, iff_of_false (by simp) hp⟩
end Go.Proofs.YtobpidmlgldnmaaGreatDoor
