/-
  Spans that are read as an argument; the tables of unicode/utf8.
-/
import Derived.Test.YtggojafapieliabDoorVa
import Derived.Test.YtggojafapieliabDoorCc
import Derived.Lib.LaidU8
import Derived.PinnedBridge
namespace Go.Proofs.YtggojafapieliabDoor
open Go.RowKit Go.WideShapes Go.ChangeShapes Go.Deep Go.Joins
set_option maxRecDepth 100000

theorem cellsSp : Tryd.prog.cellsOf 36 = 3 := by kernel_rfl
theorem list3 {α : Type} {cs : List α} (h : cs.length = 3) : ∃ c0 c1 c2, cs = [c0, c1, c2] := by
  match cs, h with
  | [c0, c1, c2], _ => exact ⟨c0, c1, c2, rfl⟩
theorem wf64 {n : Int} (h : (Lit.int .i64 n).wf = true) : -9223372036854775808 ≤ n ∧ n ≤ 9223372036854775807 := by
  have h' : (decide (IntKind.i64.min ≤ n) && decide (n ≤ IntKind.i64.max)) = true := h
  rw [show IntKind.i64.min = -9223372036854775808 by decide, show IntKind.i64.max = 9223372036854775807 by decide] at h'
  simpa using h'
theorem open_spans {H : Type} {enc : TypeId × Value → H} {W : World} {base : Nat} {v : Value} {d : DataW H} {p : List MemPlace}
    (hv : Value.okWide Tryd.prog W .any base 23 v) (h : DataW.Trod enc Tryd.prog W 0 (fun _ => true) true 23 v d p) :
    ∃ al l c, v = .slice al (List.length l) c ∧ List.length l ≤ maxLen ∧ SpAt W al l := by
  obtain ⟨a0, n0, c0, rfl⟩ := okWide_slice Tryd.underlying23 hv
  obtain ⟨fuel, hf⟩ := h
  obtain ⟨al, len, cap, es, q, hl, hlen, _, hL⟩ := trod_list Tryd.underlying23 cellsSp (by omega) hf
  have hL2 : ∀ i : Nat, ∃ x : Sp, ∀ y, es[i]? = some y → ∃ b off, al = some ⟨b, off, none⟩ ∧ b < W.heap.size ∧ W.cell? ⟨b, off + i * 3, none⟩ = some (.int .i64 x.f) ∧ W.cell? ⟨b, off + i * 3 + 1, none⟩ = some (.int .i64 x.t) ∧ W.cell? ⟨b, off + i * 3 + 2, none⟩ = some (.string x.s) ∧
      (-9223372036854775808 ≤ x.f ∧ x.f ≤ 9223372036854775807) ∧ (-9223372036854775808 ≤ x.t ∧ x.t ≤ 9223372036854775807) ∧ x.s.size ≤ maxLen := fun i => by
    cases hi : es[i]? with
    | none => exact ⟨⟨0, 0, ByteArray.empty⟩, fun y h => by cases h⟩
    | some y =>
      obtain ⟨b, off, c, z1, z2, z3, z4, z5⟩ := hL i y hi
      obtain ⟨xs, n, _, _, _, hlen', hx⟩ := DataW.trod_struct Tryd.underlying36 z5
      obtain ⟨c0, c1, c2, rfl⟩ := list3 z3
      have hxl : xs.length = 3 := hlen'
      obtain ⟨y0, y1, y2, rfl⟩ := list3 hxl
      have g0 : DataW.trod enc Tryd.prog W 0 (fun _ => true) true n 3 [c0] = some y0 := hx 0 _ rfl
      have g1 : DataW.trod enc Tryd.prog W 0 (fun _ => true) true n 3 [c1] = some y1 := hx 1 _ rfl
      have g2 : DataW.trod enc Tryd.prog W 0 (fun _ => true) true n 9 [c2] = some y2 := hx 2 _ rfl
      obtain ⟨k0, q0, _, w0⟩ := DataW.trod_int Tryd.underlying3 g0
      obtain ⟨k1, q1, _, w1⟩ := DataW.trod_int Tryd.underlying3 g1
      obtain ⟨s0, q2, _, hs⟩ := DataW.trod_string Tryd.underlying9 g2
      simp only [List.cons.injEq, and_true] at q0 q1 q2
      subst q0 q1 q2
      refine ⟨⟨k0, k1, s0⟩, fun y' h => ?_⟩
      cases h
      exact ⟨b, off, z1, z2, z4 0 _ rfl, z4 1 _ rfl, z4 2 _ rfl, wf64 w0, wf64 w1, hs⟩
  obtain ⟨gL, hgL⟩ := Classical.axiomOfChoice hL2
  injection q with q1 q2 q3
  subst q1 q2 q3
  refine ⟨a0, (List.range n0).map gL, c0, by simp, by simpa using hl, fun i x hx => ?_⟩
  simp only [List.getElem?_map, Option.map_eq_some_iff] at hx
  obtain ⟨j, hj, rfl⟩ := hx
  have hi := (List.getElem?_eq_some_iff.1 hj).1
  simp at hi
  have : j = i := by simpa [List.getElem?_range hi] using hj.symm
  subst this
  exact hgL j _ (List.getElem?_eq_getElem (by omega))
theorem accept_eq : (Rows.laid_unicode_utf8_acceptRanges : DataW Unit) = Lib.acceptData := by kernel_rfl
theorem u8x : U8Extra Tryd.prog Tryd.lays260_ren := ⟨by kernel_rfl, by kernel_rfl, by kernel_rfl, by kernel_rfl, by kernel_rfl, by kernel_rfl, by kernel_rfl⟩
theorem tb_of {W : World} (hL : laidMet Tryd.prog [("unicode/utf8.acceptRanges", Rows.laid_unicode_utf8_acceptRanges), ("unicode/utf8.first", Rows.laid_unicode_utf8_first)] W) : Tb W := by
  obtain ⟨ps, hv, _, _⟩ := hL
  have h3 := Lib.LaidVars_reads hv "unicode/utf8.first" Rows.laid_unicode_utf8_first (by simp)
  have h4 := Lib.LaidVars_reads hv "unicode/utf8.acceptRanges" Rows.laid_unicode_utf8_acceptRanges (by simp)
  rw [accept_eq] at h4
  unfold Rows.laid_unicode_utf8_first at h3
  rw [Pinned.utf8First_eq] at h3
  exact utf8Tabs_of_reads Tryd.lays260 u8x h3 h4

end Go.Proofs.YtggojafapieliabDoor
