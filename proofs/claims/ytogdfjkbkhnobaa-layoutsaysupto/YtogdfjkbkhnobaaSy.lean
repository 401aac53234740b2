/-
  Glyphs that are read as an argument; what every law of this seat shares.
-/
import Derived.Test.YtogdfjkbkhnobaaSx
import Derived.Deep.Slices
import Derived.WalkKit
import Derived.ProofKit
import Derived.OpenShut
import Derived.JoinedCond
import Derived.Deep.DeepHandedRow
import Derived.Lib.SmallJoins
import Derived.Lib.LaidTab
namespace Go.Proofs.Ytogdfjkbkhnobaa
open Go.RowKit Go.WideShapes Go.ChangeShapes Go.ChangeAt Go.Deep Go.Joins
set_option maxRecDepth 100000

theorem own : ownKnob Try.prog.godebug = none := by kernel_rfl
theorem laidOut : laidOutB Try.prog = true := by kernel_rfl

theorem trodAll_below {H : Type} {enc : TypeId × Value → H} {P : Program} (hl : laidOutB P = true) {W W' : World} (hb : Below W.heap.size W W') :
    ∀ {ts : List TypeId} {vs : List Value} {ds : List (DataW H)} {ps : List MemPlace}, (∀ t ∈ ts, P.readableRec t = true ∧ t < P.types.size) →
      DataW.TrodAll enc P W 0 (fun _ => true) true ts vs ds ps → (∀ x ∈ ps, x.block < W.heap.size) → DataW.TrodAll enc P W' 0 (fun b => decide (b < W.heap.size)) true ts vs ds ps
  | [], _, _, _, _, h, _ => by
    obtain ⟨rfl, rfl, rfl⟩ := trodAll_nil h
    exact trodAll_mk0
  | t :: ts, _, _, _, ht, h, hlt => by
    obtain ⟨v, vs, d, ds, p, q, rfl, rfl, rfl, h0, r⟩ := trodAll_cons h
    have h1 := ht t (by simp)
    exact trodAll_cons_mk (Below.trod hl h1.1 h1.2 h0 hb (fun x hx => hlt x (by simp [hx]))) (trodAll_below hl hb (fun u hu => ht u (by simp [hu])) r (fun x hx => hlt x (by simp [hx])))

/-- A call that handed back true, and below what was there all is as it was: the specification 'true, each argument as it read'. -/
theorem post_law {H : Type} {enc : TypeId × Value → H} {f : Func} {s : ChangeSpec} {W W' : World} {args : Array Value} {ds gs : List (DataW H)} {before : List MemPlace}
    (hW : DataW.Whole enc Try.prog f.params.toList s.vars false W args.toList ds gs before) (hv : s.vars = []) (hb : Below W.heap.size W W')
    (ht : ∀ t ∈ f.params.toList, Try.prog.readableRec t = true ∧ t < Try.prog.types.size) (hr : f.resultTypes = #[4])
    (hfn : s.fn H (ds ++ gs) = { results := [.lit (.bool true)], args := ds }) :
    s.post enc Try.prog f false true false false W args (.bool true) W' := by
  have hW' := hW
  obtain ⟨p, q, hA, hV, rfl, hfz, hnd⟩ := hW
  rw [hv] at hV
  obtain ⟨rfl, rfl⟩ := trodVars_none hV
  refine ⟨ds, [], p ++ [], [], p, [], hW', ?_, ?_, ?_, hb.frame _, fun h => by cases h⟩
  · rw [hfn, hr]; exact trodAll_cons_mk (shut_bool Try.underlying4 _) trodAll_mk0
  · rw [hfn]; exact trodAll_below laidOut hb ht hA (fun x hx => hW'.lt x (by simp [hx]))
  · rw [hfn, hv]; rfl

def CellsAt (w : World) (b off : Nat) (cs : List Value) : Prop := ∀ i c, cs[i]? = some c → w.cell? ⟨b, off + i, none⟩ = some c
section
variable {H : Type} {enc : TypeId × Value → H} {W : World}
theorem plain_of_first {a : Addr} {n : Nat} {cs : List Value} (h : W.cells? 0 (a.add (0 * n)) n = some cs) (hn : 0 < n) : ∃ b off, a = ⟨b, off, none⟩ ∧ b < W.heap.size := by
  obtain ⟨_, hl, hc⟩ := World.cells?_some h
  obtain ⟨b, off, spot⟩ := a
  have h0 : W.cell? ⟨b, off, spot⟩ = some (cs[0]'(by omega)) := by
    have := hc 0 hn
    rw [List.getElem?_eq_getElem (by omega)] at this
    simpa [Addr.add] using this
  have hspot : spot = none := World.cell?_spot h0
  subst hspot
  exact ⟨b, off, rfl, block_lt_of_cell h0⟩
theorem cells_at {b off o n : Nat} {cs : List Value} (h : W.cells? 0 ((⟨b, off, none⟩ : Addr).add o) n = some cs) : cs.length = n ∧ CellsAt W b (off + o) cs := by
  obtain ⟨_, hl, hc⟩ := World.cells?_some h
  refine ⟨hl, fun i c hi => ?_⟩
  have hi' : i < n := by have := (List.getElem?_eq_some_iff.1 hi).1; omega
  have := hc i hi'
  rw [Go.WideShapes.add_plain, Go.WideShapes.add_plain] at this
  rw [this, hi]
theorem trod_list {t e : TypeId} {n m : Nat} {c : Value} {x : DataW H × List MemPlace} (ht : Try.prog.underlying t = some (.slice e)) (hc : Try.prog.cellsOf e = m) (hm : 0 < m) (h : DataW.trod enc Try.prog W 0 (fun _ => true) true n t [c] = some x) :
    ∃ a len cap, ∃ es : List (DataW H × List MemPlace), c = .slice a len cap ∧ len ≤ maxLen ∧ es.length = len ∧ Rows.uptoBulkAll (es.map (·.1)) + 1 ≤ Rows.uptoBulk x.1 ∧ ∀ i y, es[i]? = some y → ∃ b off cs, a = some ⟨b, off, none⟩ ∧ b < W.heap.size ∧ cs.length = m ∧ CellsAt W b (off + i * m) cs ∧ DataW.trod enc Try.prog W 0 (fun _ => true) true (n - 1) e cs = some y := by
  rcases DataW.trod_slice ht h with ⟨h0, hx0⟩ | ⟨a, len, cap, elems, rest, k, rfl, h0, hx0, _, hl, hmx, hel, hget, _⟩
  · simp at h0
    exact ⟨none, 0, 0, [], h0, by unfold maxLen; omega, rfl, by rw [hx0]; simp [Rows.uptoBulkAll, Rows.uptoBulk], fun i y hi => by simp at hi⟩
  · simp at h0
    refine ⟨some a, len, cap, elems, h0, Nat.le_trans hl hmx, hel, by rw [hx0]; simp only [Rows.uptoBulk]; omega, fun i y hi => ?_⟩
    have one : ∀ j y, elems[j]? = some y → ∃ cs, W.cells? 0 (a.add (j * m)) m = some cs ∧ DataW.trod enc Try.prog W 0 (fun _ => true) true k e cs = some y := fun j y hj => by
      have g := hget j (by have := (List.getElem?_eq_some_iff.1 hj).1; omega)
      rw [hj, hc] at g
      obtain ⟨cs, g1, g2⟩ := Option.bind_eq_some_iff.1 g
      exact ⟨cs, g1, g2⟩
    have hpos : 0 < elems.length := by have := (List.getElem?_eq_some_iff.1 hi).1; omega
    obtain ⟨cs0, z0, _⟩ := one 0 _ (List.getElem?_eq_getElem hpos)
    obtain ⟨b, off, rfl, hb⟩ := plain_of_first z0 hm
    obtain ⟨cs, z1, z2⟩ := one i y hi
    obtain ⟨l1, l2⟩ := cells_at z1
    exact ⟨b, off, cs, rfl, hb, l1, l2, by simpa using z2⟩
theorem bulk_mem {l : List (DataW H)} {d : DataW H} (h : d ∈ l) : Rows.uptoBulk d ≤ Rows.uptoBulkAll l := by
  induction l with
  | nil => simp at h
  | cons x l ih =>
    simp only [Rows.uptoBulkAll]
    rcases List.mem_cons.1 h with rfl | h
    · omega
    · have := ih h; omega
theorem cellsGl : Try.prog.cellsOf 44 = 10 := by kernel_rfl
theorem list10 {α : Type} {cs : List α} (h : cs.length = 10) : ∃ c0 c1 c2 c3 c4 c5 c6 c7 c8 c9, cs = [c0, c1, c2, c3, c4, c5, c6, c7, c8, c9] := by
  match cs, h with
  | [c0, c1, c2, c3, c4, c5, c6, c7, c8, c9], _ => exact ⟨c0, c1, c2, c3, c4, c5, c6, c7, c8, c9, rfl⟩
theorem trod_point {n : Nat} {c0 c1 : Value} {x : DataW H × List MemPlace} (h : DataW.trod enc Try.prog W 0 (fun _ => true) true n 40 [c0, c1] = some x) : ∃ a b : Int, c0 = .int .i64 a ∧ c1 = .int .i64 b := by
  obtain ⟨xs, m, _, _, _, hlen, hx⟩ := DataW.trod_struct Try.underlying40 h
  have hxl : xs.length = 2 := hlen
  obtain ⟨y0, y1, rfl⟩ : ∃ y0 y1, xs = [y0, y1] := by match xs, hxl with | [y0, y1], _ => exact ⟨y0, y1, rfl⟩
  have g0 : DataW.trod enc Try.prog W 0 (fun _ => true) true m 3 [c0] = some y0 := hx 0 _ rfl
  have g1 : DataW.trod enc Try.prog W 0 (fun _ => true) true m 3 [c1] = some y1 := hx 1 _ rfl
  obtain ⟨k0, q0, _, _⟩ := DataW.trod_int Try.underlying3 g0
  obtain ⟨k1, q1, _, _⟩ := DataW.trod_int Try.underlying3 g1
  simp only [List.cons.injEq, and_true] at q0 q1
  exact ⟨k0, k1, q0, q1⟩
theorem trod_box {n : Nat} {c0 c1 c2 c3 : Value} {x : DataW H × List MemPlace} (h : DataW.trod enc Try.prog W 0 (fun _ => true) true n 42 [c0, c1, c2, c3] = some x) : ∃ a b c d : Int, c0 = .int .i64 a ∧ c1 = .int .i64 b ∧ c2 = .int .i64 c ∧ c3 = .int .i64 d := by
  obtain ⟨xs, m, _, _, _, hlen, hx⟩ := DataW.trod_struct Try.underlying42 h
  have hxl : xs.length = 4 := hlen
  obtain ⟨y0, y1, y2, y3, rfl⟩ : ∃ y0 y1 y2 y3, xs = [y0, y1, y2, y3] := by match xs, hxl with | [y0, y1, y2, y3], _ => exact ⟨y0, y1, y2, y3, rfl⟩
  have g0 : DataW.trod enc Try.prog W 0 (fun _ => true) true m 3 [c0] = some y0 := hx 0 _ rfl
  have g1 : DataW.trod enc Try.prog W 0 (fun _ => true) true m 3 [c1] = some y1 := hx 1 _ rfl
  have g2 : DataW.trod enc Try.prog W 0 (fun _ => true) true m 3 [c2] = some y2 := hx 2 _ rfl
  have g3 : DataW.trod enc Try.prog W 0 (fun _ => true) true m 3 [c3] = some y3 := hx 3 _ rfl
  obtain ⟨k0, q0, _, _⟩ := DataW.trod_int Try.underlying3 g0
  obtain ⟨k1, q1, _, _⟩ := DataW.trod_int Try.underlying3 g1
  obtain ⟨k2, q2, _, _⟩ := DataW.trod_int Try.underlying3 g2
  obtain ⟨k3, q3, _, _⟩ := DataW.trod_int Try.underlying3 g3
  simp only [List.cons.injEq, and_true] at q0 q1 q2 q3
  exact ⟨k0, k1, k2, k3, q0, q1, q2, q3⟩
theorem trod_glyph {n : Nat} {cs : List Value} {x : DataW H × List MemPlace} (hl : cs.length = 10) (h : DataW.trod enc Try.prog W 0 (fun _ => true) true n 44 cs = some x) : ∃ g : Gy, cs = g.cs ∧ g.s.size ≤ Rows.uptoBulk x.1 := by
  obtain ⟨xs, m, _, hxx, _, hlen, hx⟩ := DataW.trod_struct Try.underlying44 h
  obtain ⟨c0, c1, c2, c3, c4, c5, c6, c7, c8, c9, rfl⟩ := list10 hl
  have hxl : xs.length = 5 := hlen
  obtain ⟨y0, y1, y2, y3, y4, rfl⟩ : ∃ y0 y1 y2 y3 y4, xs = [y0, y1, y2, y3, y4] := by match xs, hxl with | [y0, y1, y2, y3, y4], _ => exact ⟨y0, y1, y2, y3, y4, rfl⟩
  have g0 : DataW.trod enc Try.prog W 0 (fun _ => true) true m 9 [c0] = some y0 := hx 0 _ rfl
  have g1 : DataW.trod enc Try.prog W 0 (fun _ => true) true m 40 [c1, c2] = some y1 := hx 1 _ rfl
  have g2 : DataW.trod enc Try.prog W 0 (fun _ => true) true m 40 [c3, c4] = some y2 := hx 2 _ rfl
  have g3 : DataW.trod enc Try.prog W 0 (fun _ => true) true m 3 [c5] = some y3 := hx 3 _ rfl
  have g4 : DataW.trod enc Try.prog W 0 (fun _ => true) true m 42 [c6, c7, c8, c9] = some y4 := hx 4 _ rfl
  obtain ⟨s, q0, p0, _⟩ := DataW.trod_string Try.underlying9 g0
  obtain ⟨ax, ay, rfl, rfl⟩ := trod_point g1
  obtain ⟨ex, ey, rfl, rfl⟩ := trod_point g2
  obtain ⟨sz, q3, _, _⟩ := DataW.trod_int Try.underlying3 g3
  obtain ⟨x0, y0', x1, y1', rfl, rfl, rfl, rfl⟩ := trod_box g4
  simp only [List.cons.injEq, and_true] at q0 q3
  subst q0 q3
  refine ⟨⟨s, ax, ay, ex, ey, sz, x0, y0', x1, y1'⟩, rfl, ?_⟩
  rw [hxx]
  simp only [List.map_cons, List.map_nil, Rows.uptoBulk, Rows.uptoBulkAll, p0]
  have : s.data.toList.length = s.size := by simp
  omega
theorem open_glyphs {base : Nat} {v : Value} {d : DataW H} {p : List MemPlace} (hv : Value.okWide Try.prog W .any base 22 v) (h : DataW.Trod enc Try.prog W 0 (fun _ => true) true 22 v d p) :
    ∃ al L c, v = .slice al (List.length L) c ∧ GyAt W al L ∧ ∀ g ∈ L, g.s.size ≤ Rows.uptoBulk d := by
  obtain ⟨a0, n0, c0, rfl⟩ := okWide_slice Try.underlying22 hv
  obtain ⟨fuel, hf⟩ := h
  obtain ⟨al, len, cap, es, q, hl, hlen, hbl, hL⟩ := trod_list Try.underlying22 cellsGl (by omega) hf
  have hL2 : ∀ i : Nat, ∃ g : Gy, ∀ y, es[i]? = some y → (∃ b off, al = some ⟨b, off, none⟩ ∧ b < W.heap.size ∧ CellsAt W b (off + i * 10) g.cs) ∧ g.s.size ≤ Rows.uptoBulk d := fun i => by
    cases hi : es[i]? with
    | none => exact ⟨gy0, fun y h => by cases h⟩
    | some y =>
      obtain ⟨b, off, c, z1, z2, z3, z4, z5⟩ := hL i y hi
      obtain ⟨g, rfl, hg⟩ := trod_glyph z3 z5
      refine ⟨g, fun y' h => ?_⟩
      cases h
      refine ⟨⟨b, off, z1, z2, z4⟩, Nat.le_trans hg ?_⟩
      have := bulk_mem (l := es.map (·.1)) (d := y.1) (List.mem_map.2 ⟨y, List.mem_of_getElem? hi, rfl⟩)
      have e : Rows.uptoBulkAll (es.map (·.1)) + 1 ≤ Rows.uptoBulk d := hbl
      omega
  obtain ⟨gL, hgL⟩ := Classical.axiomOfChoice hL2
  injection q with q1 q2 q3
  subst q1 q2 q3
  refine ⟨a0, (List.range n0).map gL, c0, by simp, fun i x hx => ?_, fun g hg => ?_⟩
  · simp only [List.getElem?_map, Option.map_eq_some_iff] at hx
    obtain ⟨j, hj, rfl⟩ := hx
    have hi := (List.getElem?_eq_some_iff.1 hj).1
    simp at hi
    have : j = i := by simpa [List.getElem?_range hi] using hj.symm
    subst this
    exact (hgL j _ (List.getElem?_eq_getElem (by omega))).1
  · obtain ⟨j, hj, rfl⟩ := List.mem_map.1 hg
    have hi := List.mem_range.1 hj
    exact (hgL j _ (List.getElem?_eq_getElem (by omega))).2
end
end Go.Proofs.Ytogdfjkbkhnobaa
