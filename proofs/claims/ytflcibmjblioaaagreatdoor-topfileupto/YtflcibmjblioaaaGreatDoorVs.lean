/-
  Joined: Aq, Va, Vs.
-/
import Derived.Test.YtflcibmjblioaaaGreatDoorAp
import Derived.Test.YtflcibmjblioaaaGreatDoorRc
import Derived.Laws.OwnMore
import Derived.OneCell
import Derived.Test.YtflcibmjblioaaaGreatDoorRows
import Derived.WalkKit
import Derived.ProofKit
import Derived.Deep.Slices
import Derived.Lib.SmallJoins

/-
  Bytes and texts: small laws that many walks share.
-/
namespace Go.Proofs.YtflcibmjblioaaaGreatDoor
open Go.RowKit
set_option maxRecDepth 100000

def strLen : Value → Nat
  | .string t => t.size
  | _ => 0
theorem ext_list (t : ByteArray) (i j : Nat) : (t.extract i j).data.toList = (t.data.toList.drop i).take (j - i) := by
  rw [ByteArray.data_extract, Array.toList_extract, List.extract_eq_take_drop]
theorem ext_tail (t : ByteArray) (i : Nat) : (t.extract i t.size).data.toList = t.data.toList.drop i := by
  rw [ext_list, List.take_of_length_le (by simp)]
theorem ext_size (t : ByteArray) (i j : Nat) (hj : j ≤ t.size) : (t.extract i j).size = j - i := by
  rw [ByteArray.size_extract]; omega
theorem ba_len (t : ByteArray) : t.data.toList.length = t.size := by simp
theorem drop_all (s : ByteArray) (k : Nat) (h : s.size ≤ k) : s.data.toList.drop k = [] := List.drop_of_length_le (by simpa using h)
theorem beq_u8 (a b : UInt8) : ((a.toNat : Int) == (b.toNat : Int)) = (a == b) := by
  rw [Bool.eq_iff_iff, beq_iff_eq, beq_iff_eq]
  exact ⟨fun h => UInt8.toNat_inj.1 (by omega), fun h => by rw [h]⟩
theorem below_drewN {B : Nat} {a w : World} (h : Below B a w) (n : Nat) : Below B a (w.drewN n) := by
  induction n with
  | zero => exact h
  | succ n ih => exact ih.drew
theorem cons_of {t : ByteArray} (h : 0 < t.size) : ∃ r, t.data.toList = t[0] :: r := by
  refine ⟨t.data.toList.drop 1, ?_⟩
  rw [show t.data.toList = t.data.toList.drop 0 from rfl, List.drop_eq_getElem_cons (i := 0) (by simpa using h)]; rfl
theorem ba_nil {t : ByteArray} (h : t.size = 0) : t.data.toList = [] := List.eq_nil_of_length_eq_zero (by rw [ba_len]; exact h)
theorem own8_slice {w : World} {B : Nat} {v : Value} {xs : List UInt8} (h : Own8 w B v xs) : ∃ a c, v = .slice a xs.length c := by
  obtain ⟨_, ⟨rfl, h⟩ | ⟨g, cap, cur, rfl, _⟩⟩ := h
  · exact ⟨none, 0, by rw [show xs.length = 0 from h.symm ▸ rfl]⟩
  · exact ⟨_, _, rfl⟩
theorem hexTk_step (s : ByteArray) (k : Nat) (p : Option Nat) (b : List UInt8) (h : k < s.size) : hexTk (s.data.toList.drop k) p b k =
    if s[k] == 62 then (0, b ++ pend p, k + 1)
    else if isBl s[k] then hexTk (s.data.toList.drop (k + 1)) p b (k + 1)
    else if hexV s[k] < 0 then (4, [], 0)
    else match p with
      | some x => hexTk (s.data.toList.drop (k + 1)) none (b ++ [UInt8.ofNat (16 * x + (hexV s[k]).toNat)]) (k + 1)
      | none => hexTk (s.data.toList.drop (k + 1)) (some (hexV s[k]).toNat) b (k + 1) := by
  rw [List.drop_eq_getElem_cons (by simpa using h)]; rfl
theorem hexTk_end (s : ByteArray) (p : Option Nat) (b : List UInt8) (k : Nat) : hexTk (s.data.toList.drop s.size) p b k = (5, [], 0) := by
  rw [List.drop_of_length_le (by simp)]; rfl
theorem set_last {α : Type} (xs : List α) (x y : α) : (xs ++ [x]).set xs.length y = xs ++ [y] := by simp
/-- The last byte of a row is written anew. -/
theorem own8_last {w : World} {B : Nat} {v : Value} {xs : List UInt8} {x : UInt8} (h : Own8 w B v (xs ++ [x])) :
    ∃ g c, v = .slice (some ⟨g, 0, none⟩) (xs.length + 1) c ∧ B ≤ g ∧ g < w.heap.size ∧ w.cell? ⟨g, xs.length, none⟩ = some (.int .u8 (x.toNat : Int)) ∧ w.frozen? ⟨g, xs.length, none⟩ = false ∧ ∀ y : UInt8, Own8 (w.setCell ⟨g, xs.length, none⟩ (.int .u8 (y.toNat : Int))) B v (xs ++ [y]) := by
  have hl : (xs ++ [x]).length = xs.length + 1 := by simp
  unfold Own8 at h
  rw [hl] at h
  obtain ⟨g, c, rfl, _⟩ := bytes_of_own (d := xs ++ [x]) h (by omega)
  have hlt := World.ownsRow.lt h g rfl
  refine ⟨g, c, rfl, hlt.1, hlt.2, ?_, World.ownsRow.frozenAt h _, fun y => ?_⟩
  · rw [World.ownsRow.cellAt h _ (by omega)]
    simp [byteV]
  · have q := (World.ownsRow.stored h xs.length (.int .u8 (y.toNat : Int))).1
    unfold Own8
    rw [List.map_append, List.map_cons, List.map_nil] at q
    rw [show xs.length = (xs.map byteV).length by simp, set_last] at q
    rw [show (xs ++ [y]).length = xs.length + 1 by simp, List.map_append]
    simpa [byteV] using q
theorem or_nib (x d : Nat) (hx : x < 16) (hd : d < 16) : bits .or .u8 ((UInt8.ofNat (16 * x)).toNat : Int) (d : Int) = ((UInt8.ofNat (16 * x + d)).toNat : Int) := by
  have h : ∀ a b : Fin 16, bits .or .u8 ((UInt8.ofNat (16 * a.1)).toNat : Int) (b.1 : Int) = ((UInt8.ofNat (16 * a.1 + b.1)).toNat : Int) := by decide +kernel
  exact h ⟨x, hx⟩ ⟨d, hd⟩
def pbool (p : Option Nat) : Bool := p.isSome
theorem Own8.other {w : World} {B : Nat} {v : Value} {xs : List UInt8} (h : Own8 w B v xs) {b : Nat} {t : TypeId} {cs : Array Value} (hA : At w b t cs) (ht : t ≠ 5) (o : Nat) (u : Value) : Own8 (w.setCell ⟨b, o, none⟩ u) B v xs := by
  refine ownsRow_setCell_other h (fun e => ?_) u
  obtain ⟨c, fz, hc⟩ := own8_kind h b e
  have h2 := hA.symm.trans hc
  cases h2
  exact ht rfl
theorem Kept8.setNew {B : Nat} {a w : World} (h : Kept8 B a w) {b : Nat} (hb : a.heap.size ≤ b) (hB : B ≤ b) (o : Nat) (u : Value) : Kept8 B a (w.setCell ⟨b, o, none⟩ u) := by
  refine ⟨h.below.setCell (p := ⟨b, o, none⟩) hB u, fun k x hk hn hx => ?_⟩
  have h1 := h.others k x hk hn hx
  have hlt : k < a.heap.size := (Array.getElem?_eq_some_iff.1 hk).1
  rw [Below.heap_setCell _ _ _ _ (fun e => by
    have e' : b = k := by first | exact e | exact e.symm
    omega)]
  exact h1
end Go.Proofs.YtflcibmjblioaaaGreatDoor

/-
  Values in memory: a tree, and the cells that hold it; what is read as an argument is one.
-/
namespace Go.Proofs.YtflcibmjblioaaaGreatDoor
open Go.RowKit Go.WideShapes Go.ChangeShapes Go.Deep Go.Joins
set_option maxRecDepth 100000

/-- A value of package api, as a tree. -/
structure V where
  k : Int
  n : Int
  s : ByteArray
  l : List V
  f : List (ByteArray × V)

def CellsAt (w : World) (b off : Nat) (cs : List Value) : Prop := ∀ i c, cs[i]? = some c → w.cell? ⟨b, off + i, none⟩ = some c
/-- The cells cs hold the tree v, which is less than d deep. -/
def RepN : Nat → World → V → List Value → Prop
  | 0, _, _, _ => False
  | d + 1, w, v, cs => ∃ (al af : Option Addr) (cl cf : Nat),
      cs = [.int .i64 v.k, .int .i64 v.n, .string v.s, .slice al v.l.length cl, .slice af v.f.length cf] ∧ (v.s.size ≤ maxLen ∧ v.l.length ≤ maxLen ∧ v.f.length ≤ maxLen) ∧
      (∀ i x, v.l[i]? = some x → ∃ b off c, al = some ⟨b, off, none⟩ ∧ b < w.heap.size ∧ CellsAt w b (off + i * 5) c ∧ RepN d w x c) ∧
      (∀ i q, v.f[i]? = some q → ∃ b off c, af = some ⟨b, off, none⟩ ∧ b < w.heap.size ∧ q.1.size ≤ maxLen ∧ w.cell? ⟨b, off + i * 6, none⟩ = some (.string q.1) ∧ CellsAt w b (off + i * 6 + 1) c ∧ RepN d w q.2 c)

/-- How much there is in a tree: letters and values. -/
def bulkN : Nat → V → Nat
  | 0, _ => 0
  | d + 1, v => 1 + v.s.size + (v.l.map (bulkN d)).sum + (v.f.map fun q => 1 + q.1.size + bulkN d q.2).sum

theorem CellsAt.later {w w' : World} {b off : Nat} {cs : List Value} (h : CellsAt w b off cs) (hb : b < w.heap.size) (hB : Below w.heap.size w w') : CellsAt w' b off cs :=
  fun i c hc => (hB.cell (p := ⟨b, off + i, none⟩) hb).trans (h i c hc)
theorem RepN.later : ∀ {d : Nat} {w w' : World} {v : V} {cs : List Value}, RepN d w v cs → Below w.heap.size w w' → RepN d w' v cs
  | 0, _, _, _, _, h, _ => h.elim
  | d + 1, w, w', v, cs, h, hB => by
    obtain ⟨al, af, cl, cf, h1, h2, h3, h4⟩ := h
    refine ⟨al, af, cl, cf, h1, h2, fun i x hx => ?_, fun i q hq => ?_⟩
    · obtain ⟨b, off, c, e, hb, hc, hr⟩ := h3 i x hx
      exact ⟨b, off, c, e, Nat.lt_of_lt_of_le hb hB.size, hc.later hb hB, hr.later hB⟩
    · obtain ⟨b, off, c, e, hb, hs, hn, hc, hr⟩ := h4 i q hq
      exact ⟨b, off, c, e, Nat.lt_of_lt_of_le hb hB.size, hs, (hB.cell (p := ⟨b, off + i * 6, none⟩) hb).trans hn, hc.later hb hB, hr.later hB⟩
theorem RepN.mono : ∀ {d d' : Nat} {w : World} {v : V} {cs : List Value}, RepN d w v cs → d ≤ d' → RepN d' w v cs
  | 0, _, _, _, _, h, _ => h.elim
  | d + 1, 0, _, _, _, _, hd => by omega
  | d + 1, d' + 1, w, v, cs, h, hd => by
    obtain ⟨al, af, cl, cf, h1, h2, h3, h4⟩ := h
    refine ⟨al, af, cl, cf, h1, h2, fun i x hx => ?_, fun i q hq => ?_⟩
    · obtain ⟨b, off, c, e, hb, hc, hr⟩ := h3 i x hx
      exact ⟨b, off, c, e, hb, hc, hr.mono (by omega)⟩
    · obtain ⟨b, off, c, e, hb, hs, hn, hc, hr⟩ := h4 i q hq
      exact ⟨b, off, c, e, hb, hs, hn, hc, hr.mono (by omega)⟩

theorem bulk_eq : ∀ {d d' : Nat} {w : World} {v : V} {cs : List Value}, RepN d w v cs → d ≤ d' → bulkN d' v = bulkN d v
  | 0, _, _, _, _, h, _ => h.elim
  | d + 1, 0, _, _, _, _, hd => by omega
  | d + 1, d' + 1, w, v, cs, h, hd => by
    obtain ⟨al, af, cl, cf, h1, h2, h3, h4⟩ := h
    have e1 : v.l.map (bulkN d') = v.l.map (bulkN d) := List.map_congr_left fun x hx => by
      obtain ⟨i, hi⟩ := List.getElem?_of_mem hx
      obtain ⟨b, off, c, e, hb, hc, hr⟩ := h3 i x hi
      exact bulk_eq hr (by omega)
    have e2 : (v.f.map fun q => 1 + q.1.size + bulkN d' q.2) = v.f.map fun q => 1 + q.1.size + bulkN d q.2 := List.map_congr_left fun q hq => by
      obtain ⟨i, hi⟩ := List.getElem?_of_mem hq
      obtain ⟨b, off, c, e, hb, hs, hn, hc, hr⟩ := h4 i q hi
      rw [bulk_eq hr (show d ≤ d' by omega)]
    rw [bulkN, bulkN, e1, e2]
theorem sum_le {α : Type} {H : Type} (g : α → Nat) : ∀ (l : List α) (ds : List (DataW H)), l.length = ds.length → (∀ (i : Nat) (a : α) (d : DataW H), l[i]? = some a → ds[i]? = some d → g a ≤ Rows.uptoBulk d) → (l.map g).sum ≤ Rows.uptoBulkAll ds
  | [], [], _, _ => by simp [Rows.uptoBulkAll]
  | a :: l, d :: ds, hl, h => by
    have h0 := h 0 a d rfl rfl
    have ih := sum_le g l ds (by simpa using hl) (fun i a d h1 h2 => h (i + 1) a d (by simpa using h1) (by simpa using h2))
    simp only [List.map_cons, List.sum_cons, Rows.uptoBulkAll]; omega
  | [], _ :: _, hl, _ => by simp at hl
  | _ :: _, [], hl, _ => by simp at hl

theorem cellsV : Tryz.prog.cellsOf 40 = 5 := by kernel_rfl
theorem cellsF : Tryz.prog.cellsOf 74 = 6 := by kernel_rfl
theorem cellsStr : Tryz.prog.cellsOf 9 = 1 := by kernel_rfl
theorem list5 {α : Type} {cs : List α} (h : cs.length = 5) : ∃ c0 c1 c2 c3 c4, cs = [c0, c1, c2, c3, c4] := by
  match cs, h with
  | [c0, c1, c2, c3, c4], _ => exact ⟨c0, c1, c2, c3, c4, rfl⟩
theorem list6 {α : Type} {cs : List α} (h : cs.length = 6) : ∃ c0 c1 c2 c3 c4 c5, cs = [c0, c1, c2, c3, c4, c5] := by
  match cs, h with
  | [c0, c1, c2, c3, c4, c5], _ => exact ⟨c0, c1, c2, c3, c4, c5, rfl⟩

section
variable {H : Type} {enc : TypeId × Value → H} {W : World}
/-- The first element's cells tell that the address is a plain one. -/
theorem plain_of_first {a : Addr} {n : Nat} {cs : List Value} (h : W.cells? 0 (a.add (0 * n)) n = some cs) (hn : 0 < n) : ∃ b off, a = ⟨b, off, none⟩ ∧ b < W.heap.size := by
  obtain ⟨_, hl, hc⟩ := World.cells?_some h
  obtain ⟨b, off, spot⟩ := a
  have h0 : W.cell? ⟨b, off, spot⟩ = some (cs[0]'(by omega)) := by
    have := hc 0 hn
    rw [List.getElem?_eq_getElem (by omega)] at this
    simpa [Addr.add] using this
  have hspot : spot = none := World.cell?_spot h0
  subst hspot
  exact ⟨b, off, rfl, block_lt_of_cell h0⟩
/-- Cells of an element, plainly addressed. -/
theorem cells_at {b off o n : Nat} {cs : List Value} (h : W.cells? 0 ((⟨b, off, none⟩ : Addr).add o) n = some cs) : cs.length = n ∧ CellsAt W b (off + o) cs := by
  obtain ⟨_, hl, hc⟩ := World.cells?_some h
  refine ⟨hl, fun i c hi => ?_⟩
  have hi' : i < n := by have := (List.getElem?_eq_some_iff.1 hi).1; omega
  have := hc i hi'
  rw [Go.WideShapes.add_plain, Go.WideShapes.add_plain] at this
  rw [this, hi]

/-- A list that is read: its elements, one by one. -/
theorem trod_list {t e : TypeId} {n m : Nat} {c : Value} {x : DataW H × List MemPlace} (ht : Tryz.prog.underlying t = some (.slice e)) (hc : Tryz.prog.cellsOf e = m) (hm : 0 < m) (h : DataW.trod enc Tryz.prog W 0 (fun _ => true) true n t [c] = some x) :
    ∃ a len cap, ∃ es : List (DataW H × List MemPlace), c = .slice a len cap ∧ len ≤ maxLen ∧ es.length = len ∧ Rows.uptoBulkAll (es.map (·.1)) + 1 ≤ Rows.uptoBulk x.1 ∧ ∀ i y, es[i]? = some y → ∃ b off cs, a = some ⟨b, off, none⟩ ∧ b < W.heap.size ∧ cs.length = m ∧ CellsAt W b (off + i * m) cs ∧ DataW.trod enc Tryz.prog W 0 (fun _ => true) true (n - 1) e cs = some y := by
  rcases DataW.trod_slice ht h with ⟨h0, hx0⟩ | ⟨a, len, cap, elems, rest, k, rfl, h0, hx0, _, hl, hmx, hel, hget, _⟩
  · simp at h0
    exact ⟨none, 0, 0, [], h0, by unfold maxLen; omega, rfl, by rw [hx0]; simp [Rows.uptoBulkAll, Rows.uptoBulk], fun i y hi => by simp at hi⟩
  · simp at h0
    refine ⟨some a, len, cap, elems, h0, Nat.le_trans hl hmx, hel, by rw [hx0]; simp only [Rows.uptoBulk]; omega, fun i y hi => ?_⟩
    have one : ∀ j y, elems[j]? = some y → ∃ cs, W.cells? 0 (a.add (j * m)) m = some cs ∧ DataW.trod enc Tryz.prog W 0 (fun _ => true) true k e cs = some y := fun j y hj => by
      have g := hget j (by have := (List.getElem?_eq_some_iff.1 hj).1; omega)
      rw [hj, hc] at g
      obtain ⟨cs, g1, g2⟩ := Option.bind_eq_some_iff.1 g
      exact ⟨cs, g1, g2⟩
    have hpos : 0 < elems.length := by have := (List.getElem?_eq_some_iff.1 hi).1; omega
    obtain ⟨cs0, z0, _⟩ := one 0 _ (List.getElem?_eq_getElem hpos)
    obtain ⟨b, off, rfl, hb⟩ := plain_of_first z0 hm
    obtain ⟨cs, z1, z2⟩ := one i y hi
    obtain ⟨l1, l2⟩ := cells_at z1
    exact ⟨b, off, cs, rfl, hb, l1, l2, by simpa using z2⟩

theorem trod_value (fuel : Nat) : ∀ (cs : List Value) (x : DataW H × List MemPlace), DataW.trod enc Tryz.prog W 0 (fun _ => true) true fuel 40 cs = some x → ∃ v, RepN fuel W v cs ∧ bulkN fuel v ≤ Rows.uptoBulk x.1 := by
  induction fuel using Nat.strongRecOn with
  | ind fuel ih =>
    intro cs x h
    obtain ⟨xs, n, rfl, hxx, hl, hlen, hx⟩ := DataW.trod_struct Tryz.underlying40 h
    obtain ⟨c0, c1, c2, c3, c4, rfl⟩ := list5 (hl.trans cellsV)
    have hxl : xs.length = 5 := hlen
    have get : ∀ i, i < 5 → ∃ y, xs[i]? = some y := fun i hi => ⟨xs[i]'(by omega), List.getElem?_eq_getElem _⟩
    have g0 := hx 0 _ rfl
    have g1 := hx 1 _ rfl
    have g2 := hx 2 _ rfl
    have g3 := hx 3 _ rfl
    have g4 := hx 4 _ rfl
    obtain ⟨y0, e0⟩ := get 0 (by omega)
    obtain ⟨y1, e1⟩ := get 1 (by omega)
    obtain ⟨y2, e2⟩ := get 2 (by omega)
    obtain ⟨y3, e3⟩ := get 3 (by omega)
    obtain ⟨y4, e4⟩ := get 4 (by omega)
    have g0' : DataW.trod enc Tryz.prog W 0 (fun _ => true) true n 3 [c0] = some y0 := g0.trans e0
    have g1' : DataW.trod enc Tryz.prog W 0 (fun _ => true) true n 3 [c1] = some y1 := g1.trans e1
    have g2' : DataW.trod enc Tryz.prog W 0 (fun _ => true) true n 9 [c2] = some y2 := g2.trans e2
    have g3' : DataW.trod enc Tryz.prog W 0 (fun _ => true) true n 37 [c3] = some y3 := g3.trans e3
    have g4' : DataW.trod enc Tryz.prog W 0 (fun _ => true) true n 38 [c4] = some y4 := g4.trans e4
    obtain ⟨k0, q0, p0, _⟩ := DataW.trod_int Tryz.underlying3 g0'
    obtain ⟨n0, q1, p1, _⟩ := DataW.trod_int Tryz.underlying3 g1'
    obtain ⟨s0, q2, p2, hs⟩ := DataW.trod_string Tryz.underlying9 g2'
    obtain ⟨al, ll, cl, esL, q3, hll, hlenL, hbL, hL⟩ := trod_list Tryz.underlying37 cellsV (by omega) g3'
    obtain ⟨af, lf, cf, esF, q4, hlf, hlenF, hbF, hF⟩ := trod_list Tryz.underlying38 cellsF (by omega) g4'
    simp only [List.cons.injEq, and_true] at q0 q1 q2
    subst q0 q1 q2 q3 q4
    have hL2 : ∀ i : Nat, ∃ x : V, ∀ y, esL[i]? = some y → (∃ b off c, al = some ⟨b, off, none⟩ ∧ b < W.heap.size ∧ CellsAt W b (off + i * 5) c ∧ RepN n W x c) ∧ bulkN n x ≤ Rows.uptoBulk y.1 := fun i => by
      cases hi : esL[i]? with
      | none => exact ⟨⟨0, 0, ByteArray.empty, [], []⟩, fun y h => by cases h⟩
      | some y =>
        obtain ⟨b, off, c, z1, z2, z3, z4, z5⟩ := hL i y hi
        obtain ⟨x, hx, hbx⟩ := ih (n - 1) (by omega) c y z5
        refine ⟨x, fun y' h => ?_⟩
        cases h
        exact ⟨⟨b, off, c, z1, z2, z4, hx.mono (by omega)⟩, by rw [bulk_eq hx (by omega)]; exact hbx⟩
    have hF2 : ∀ i : Nat, ∃ q : ByteArray × V, ∀ y, esF[i]? = some y → (∃ b off c, af = some ⟨b, off, none⟩ ∧ b < W.heap.size ∧ q.1.size ≤ maxLen ∧ W.cell? ⟨b, off + i * 6, none⟩ = some (.string q.1) ∧ CellsAt W b (off + i * 6 + 1) c ∧ RepN n W q.2 c) ∧ 1 + q.1.size + bulkN n q.2 ≤ Rows.uptoBulk y.1 := fun i => by
      cases hi : esF[i]? with
      | none => exact ⟨(ByteArray.empty, ⟨0, 0, ByteArray.empty, [], []⟩), fun y h => by cases h⟩
      | some y =>
        obtain ⟨b, off, c, z1, z2, z3, z4, z5⟩ := hF i y hi
        obtain ⟨xs', n', hn', hxx, hl', hlen', hx'⟩ := DataW.trod_struct Tryz.underlying74 z5
        obtain ⟨f0, v0, v1, v2, v3, v4, rfl⟩ := list6 z3
        have hxl' : xs'.length = 2 := hlen'
        obtain ⟨w0, w1, rfl⟩ : ∃ w0 w1, xs' = [w0, w1] := by
          match xs', hxl' with
          | [w0, w1], _ => exact ⟨w0, w1, rfl⟩
        have u0' : DataW.trod enc Tryz.prog W 0 (fun _ => true) true n' 9 [f0] = some w0 := hx' 0 _ rfl
        have u1' : DataW.trod enc Tryz.prog W 0 (fun _ => true) true n' 40 [v0, v1, v2, v3, v4] = some w1 := hx' 1 _ rfl
        obtain ⟨nm, r0, r1, hnm⟩ := DataW.trod_string Tryz.underlying9 u0'
        simp only [List.cons.injEq, and_true] at r0
        subst r0
        obtain ⟨x, hx, hbx⟩ := ih n' (by omega) _ _ u1'
        refine ⟨(nm, x), fun y' h => ?_⟩
        cases h
        refine ⟨⟨b, off, [v0, v1, v2, v3, v4], z1, z2, hnm, z4 0 _ rfl, fun j cc hj => ?_, hx.mono (by omega)⟩, ?_⟩
        · have := z4 (j + 1) cc (by simpa using hj)
          rw [show off + i * 6 + 1 + j = off + i * 6 + (j + 1) by omega]; exact this
        · rw [bulk_eq hx (by omega), hxx]
          simp only [List.map_cons, List.map_nil, Rows.uptoBulk, Rows.uptoBulkAll, r1]
          have : nm.data.toList.length = nm.size := by simp
          omega
    obtain ⟨gL, hgL⟩ := Classical.axiomOfChoice hL2
    obtain ⟨gF, hgF⟩ := Classical.axiomOfChoice hF2
    have rng : ∀ {α : Type} (g : Nat → α) (m i : Nat) (a : α), ((List.range m).map g)[i]? = some a → i < m ∧ a = g i := fun g m i a h => by
      simp only [List.getElem?_map, Option.map_eq_some_iff] at h
      obtain ⟨j, hj, rfl⟩ := h
      have hi := (List.getElem?_eq_some_iff.1 hj).1
      simp at hi
      have : j = i := by simpa [List.getElem?_range hi] using hj.symm
      subst this
      exact ⟨hi, rfl⟩
    refine ⟨⟨k0, n0, s0, (List.range ll).map gL, (List.range lf).map gF⟩, ⟨al, af, cl, cf, by simp, ⟨hs, by simpa using hll, by simpa using hlf⟩, fun i x hx => ?_, fun i q hq => ?_⟩, ?_⟩
    · obtain ⟨hi, rfl⟩ := rng gL ll i x hx
      exact (hgL i _ (List.getElem?_eq_getElem (by omega))).1
    · obtain ⟨hi, rfl⟩ := rng gF lf i q hq
      exact (hgF i _ (List.getElem?_eq_getElem (by omega))).1
    · have sL := sum_le (bulkN n) ((List.range ll).map gL) (esL.map (·.1)) (by simp [hlenL]) (fun i a d h1 h2 => by
        obtain ⟨hi, rfl⟩ := rng gL ll i a h1
        simp only [List.getElem?_map, Option.map_eq_some_iff] at h2
        obtain ⟨y, hy, rfl⟩ := h2
        exact (hgL i y hy).2)
      have sF := sum_le (fun q : ByteArray × V => 1 + q.1.size + bulkN n q.2) ((List.range lf).map gF) (esF.map (·.1)) (by simp [hlenF]) (fun i a d h1 h2 => by
        obtain ⟨hi, rfl⟩ := rng gF lf i a h1
        simp only [List.getElem?_map, Option.map_eq_some_iff] at h2
        obtain ⟨y, hy, rfl⟩ := h2
        exact (hgF i y hy).2)
      obtain ⟨u0, u1, u2, u3, u4, rfl⟩ := list5 hxl
      cases e0; cases e1; cases e2; cases e3; cases e4
      rw [hxx]
      simp only [List.map_cons, List.map_nil, Rows.uptoBulk, Rows.uptoBulkAll, p0, p1, p2, bulkN]
      have : s0.data.toList.length = s0.size := by simp
      omega
end
end Go.Proofs.YtflcibmjblioaaaGreatDoor

/-
  Plain functions over values as trees: how many, how deep, how much, whether it may be.
-/
namespace Go.Proofs.YtflcibmjblioaaaGreatDoor
open Go.RowKit
set_option maxRecDepth 100000

mutual
def V.cnt : V → Nat
  | ⟨_, _, _, l, f⟩ => 1 + cntL l + cntF f
def cntL : List V → Nat
  | [] => 0
  | x :: l => V.cnt x + cntL l
def cntF : List (ByteArray × V) → Nat
  | [] => 0
  | q :: l => cntP q + cntF l
def cntP : ByteArray × V → Nat
  | (_, x) => V.cnt x
end
mutual
def V.dep : V → Nat
  | ⟨_, _, _, l, f⟩ => 1 + max (depL l) (depF f)
def depL : List V → Nat
  | [] => 0
  | x :: l => max (V.dep x) (depL l)
def depF : List (ByteArray × V) → Nat
  | [] => 0
  | q :: l => max (depP q) (depF l)
def depP : ByteArray × V → Nat
  | (_, x) => V.dep x
end
mutual
def V.bulk : V → Nat
  | ⟨_, _, s, l, f⟩ => 1 + s.size + bulkL l + bulkF f
def bulkL : List V → Nat
  | [] => 0
  | x :: l => V.bulk x + bulkL l
def bulkF : List (ByteArray × V) → Nat
  | [] => 0
  | q :: l => bulkP q + bulkF l
def bulkP : ByteArray × V → Nat
  | (n, x) => 1 + n.size + V.bulk x
end
theorem cnt_eq (v : V) : v.cnt = 1 + cntL v.l + cntF v.f := by cases v; rw [V.cnt]
theorem dep_eq (v : V) : v.dep = 1 + max (depL v.l) (depF v.f) := by cases v; rw [V.dep]
theorem bulk_eq' (v : V) : v.bulk = 1 + v.s.size + bulkL v.l + bulkF v.f := by cases v; rw [V.bulk]
theorem cntF_cons (q : ByteArray × V) (l) : cntF (q :: l) = q.2.cnt + cntF l := by cases q; rw [cntF, cntP]
theorem depF_cons (q : ByteArray × V) (l) : depF (q :: l) = max q.2.dep (depF l) := by cases q; rw [depF, depP]
theorem bulkF_cons (q : ByteArray × V) (l) : bulkF (q :: l) = 1 + q.1.size + q.2.bulk + bulkF l := by cases q; rw [bulkF, bulkP]
theorem cntL_take : ∀ (l : List V) (j : Nat) (x : V), l[j]? = some x → cntL (l.take (j + 1)) = cntL (l.take j) + x.cnt
  | [], j, x, h => by simp at h
  | y :: l, 0, x, h => by simp at h; subst h; simp [cntL]
  | y :: l, j + 1, x, h => by
    have := cntL_take l j x (by simpa using h)
    rw [List.take_succ_cons, List.take_succ_cons, cntL, cntL, this]; omega
theorem cntF_take : ∀ (l : List (ByteArray × V)) (j : Nat) (q : ByteArray × V), l[j]? = some q → cntF (l.take (j + 1)) = cntF (l.take j) + q.2.cnt
  | [], j, x, h => by simp at h
  | y :: l, 0, x, h => by simp at h; subst h; simp [cntF_cons, cntF]
  | y :: l, j + 1, x, h => by
    have := cntF_take l j x (by simpa using h)
    rw [List.take_succ_cons, List.take_succ_cons, cntF_cons, cntF_cons, this]; omega
theorem cntL_take_le : ∀ (l : List V) (j : Nat), cntL (l.take j) ≤ cntL l
  | [], j => by simp
  | y :: l, 0 => by simp [cntL]
  | y :: l, j + 1 => by have := cntL_take_le l j; rw [List.take_succ_cons, cntL, cntL]; omega
theorem cntF_take_le : ∀ (l : List (ByteArray × V)) (j : Nat), cntF (l.take j) ≤ cntF l
  | [], j => by simp
  | y :: l, 0 => by simp [cntF]
  | y :: l, j + 1 => by have := cntF_take_le l j; rw [List.take_succ_cons, cntF_cons, cntF_cons]; omega
theorem bulkL_mem : ∀ (l : List V) (x : V), x ∈ l → x.bulk ≤ bulkL l
  | y :: l, x, h => by
    rw [bulkL]
    rcases List.mem_cons.1 h with rfl | h
    · omega
    · have := bulkL_mem l x h; omega
theorem bulkF_mem : ∀ (l : List (ByteArray × V)) (q : ByteArray × V), q ∈ l → 1 + q.1.size + q.2.bulk ≤ bulkF l
  | y :: l, x, h => by
    rw [bulkF_cons]
    rcases List.mem_cons.1 h with rfl | h
    · omega
    · have := bulkF_mem l x h; omega
/-- Whatever holds of all that is in a tree holds of it, step by step. -/
theorem V.ind {P : V → Prop} (h : ∀ v : V, (∀ x ∈ v.l, P x) → (∀ q ∈ v.f, P q.2) → P v) (v : V) : P v := by
  have key : ∀ n (v : V), v.bulk ≤ n → P v := by
    intro n
    induction n with
    | zero => intro v hv; rw [bulk_eq'] at hv; omega
    | succ n ih =>
      intro v hv
      rw [bulk_eq'] at hv
      exact h v (fun x hx => ih x (by have := bulkL_mem _ _ hx; omega)) (fun q hq => ih q.2 (by have := bulkF_mem _ _ hq; omega))
  exact key _ v (Nat.le_refl _)
theorem cntL_le_bulk : ∀ (l : List V), (∀ x ∈ l, x.cnt ≤ x.bulk) → cntL l ≤ bulkL l
  | [], _ => by simp [cntL]
  | y :: l, h => by
    have := cntL_le_bulk l (fun x hx => h x (by simp [hx]))
    have := h y (by simp)
    rw [cntL, bulkL]; omega
theorem cntF_le_bulk : ∀ (l : List (ByteArray × V)), (∀ q ∈ l, q.2.cnt ≤ q.2.bulk) → cntF l ≤ bulkF l
  | [], _ => by simp [cntF]
  | y :: l, h => by
    have := cntF_le_bulk l (fun x hx => h x (by simp [hx]))
    have := h y (by simp)
    rw [cntF_cons, bulkF_cons]; omega
theorem cnt_le_bulk (v : V) : v.cnt ≤ v.bulk := by
  induction v using V.ind with
  | h v hl hf =>
    have a := cntL_le_bulk v.l hl
    have b := cntF_le_bulk v.f hf
    rw [cnt_eq, bulk_eq']; omega
theorem depL_le : ∀ (l : List V), (∀ x ∈ l, x.dep ≤ x.cnt) → depL l ≤ cntL l
  | [], _ => by simp [depL]
  | y :: l, h => by
    have := depL_le l (fun x hx => h x (by simp [hx]))
    have := h y (by simp)
    rw [depL, cntL]; omega
theorem depF_le : ∀ (l : List (ByteArray × V)), (∀ q ∈ l, q.2.dep ≤ q.2.cnt) → depF l ≤ cntF l
  | [], _ => by simp [depF]
  | y :: l, h => by
    have := depF_le l (fun x hx => h x (by simp [hx]))
    have := h y (by simp)
    rw [depF_cons, cntF_cons]; omega
theorem dep_le_cnt (v : V) : v.dep ≤ v.cnt := by
  induction v using V.ind with
  | h v hl hf =>
    have a := depL_le v.l hl
    have b := depF_le v.f hf
    rw [cnt_eq, dep_eq]; omega
theorem bulkN_eq : ∀ {d : Nat} {w : World} {v : V} {cs : List Value}, RepN d w v cs → bulkN d v = v.bulk
  | 0, _, _, _, h => h.elim
  | d + 1, w, v, cs, h => by
    obtain ⟨al, af, cl, cf, h1, h2, h3, h4⟩ := h
    have e1 : ∀ l : List V, (∀ x ∈ l, bulkN d x = x.bulk) → (l.map (bulkN d)).sum = bulkL l := fun l => by
      induction l with
      | nil => intro _; rfl
      | cons y l ih => intro h; rw [List.map_cons, List.sum_cons, bulkL, ih (fun x hx => h x (by simp [hx])), h y (by simp)]
    have e2 : ∀ l : List (ByteArray × V), (∀ q ∈ l, bulkN d q.2 = q.2.bulk) → (l.map fun q => 1 + q.1.size + bulkN d q.2).sum = bulkF l := fun l => by
      induction l with
      | nil => intro _; rfl
      | cons y l ih => intro h; rw [List.map_cons, List.sum_cons, bulkF_cons, ih (fun x hx => h x (by simp [hx])), h y (by simp)]
    have q1 : ∀ x ∈ v.l, bulkN d x = x.bulk := fun x hx => by
      obtain ⟨i, hi⟩ := List.getElem?_of_mem hx
      obtain ⟨b, off, c, e, hb, hc, hr⟩ := h3 i x hi
      exact bulkN_eq hr
    have q2 : ∀ q ∈ v.f, bulkN d q.2 = q.2.bulk := fun q hq => by
      obtain ⟨i, hi⟩ := List.getElem?_of_mem hq
      obtain ⟨b, off, c, e, hb, hs, hn, hc, hr⟩ := h4 i q hi
      exact bulkN_eq hr
    rw [bulkN, bulk_eq', e1 v.l q1, e2 v.f q2]
end Go.Proofs.YtflcibmjblioaaaGreatDoor
