/-
  A font as an argument; maps that came in.
-/
import Derived.Test.YtggojafapieliabDoorGe
import Derived.Test.YtggojafapieliabDoorCo
import Derived.Maps.StringElems
import Derived.WideKeyElems2
import Derived.Laws.IdiomRangeMap
namespace Go.Proofs.YtggojafapieliabDoor
open Go.RowKit Go.WideShapes Go.ChangeShapes Go.Deep Go.Joins Go.Maps
set_option maxRecDepth 100000

theorem lawI : Keyed Tryd.prog 3 := int_keyed Tryd.underlying3
theorem zeroI (w : World) : (zeroValue 3).run Tryd.prog w = .ok (.int .i64 0) w := by kernel_rfl
theorem zeroS (w : World) : (zeroValue 9).run Tryd.prog w = .ok (.string ⟨#[]⟩) w := by kernel_rfl
theorem keyI {c : Int} (h0 : 0 ≤ c) (h1 : c ≤ 65535) : keyOf Tryd.prog 3 (.int .i64 c) = some (.int .i64 c) := keyOf_int_mk Tryd.underlying3 (WalkArith.wf_i64 (by omega))
theorem kept_below {H : Type} {w W : World} {b n : Nat} {D : DataW H} {k : TypeId} {R : Value → Option (DataW H × List MemPlace)} (h : w.ownsMap Tryd.prog k R b n D) (hB : Below w.heap.size w W) : W.ownsMap Tryd.prog k R b n D :=
  h.kept (row := none) ⟨hB.os, hB.tape, hB.output, hB.size, fun k hk _ => hB.block k hk⟩ (by simp)
theorem look_w {H : Type} {w : World} {b n : Nat} {D : DataW H} (h : w.ownsMap Tryd.prog 3 (plainElem Tryd.prog 3) b n D) (c : Int) : ∃ o : Option Int, 0 ≤ c → c ≤ 65535 → ∀ W, Below w.heap.size w W →
    (Instr.lookup 41 (.map (some b)) (.int .i64 c) true).run Tryd.prog W = .ok (.tuple #[.int .i64 (o.getD 0), .bool o.isSome]) W := by
  by_cases hc : 0 ≤ c ∧ c ≤ 65535
  · have hz0 : plainElem (H := H) Tryd.prog 3 (.int .i64 0) = some (.lit (.int .i64 0), []) := plainElem_int Tryd.underlying3 (by decide)
    obtain ⟨v, ps, _, hv⟩ := h.look_ok lawI Tryd.underlying41 (zeroI w) hz0 (keyI hc.1 hc.2)
    obtain ⟨a, _, ha, _⟩ := plainElem_int_inv Tryd.underlying3 hv
    have ha' := congrArg Prod.fst ha
    simp only at ha'
    refine ⟨if Maps.has D (.int .i64 c) then some a else none, fun _ _ W hB => ?_⟩
    obtain ⟨v', ps', hr', hv'⟩ := (kept_below h hB).look_ok lawI Tryd.underlying41 (zeroI W) hz0 (keyI hc.1 hc.2)
    obtain ⟨a', rfl, hb, _⟩ := plainElem_int_inv Tryd.underlying3 hv'
    have hb' := congrArg Prod.fst hb
    simp only at hb'
    rw [ha'] at hb'
    simp only [DataW.lit.injEq, Lit.int.injEq, true_and] at hb'
    subst hb'
    rw [hr']
    cases hh : Maps.has D (.int .i64 c) with
    | true => rfl
    | false =>
      rw [atKey_of_not_has hh] at ha'
      simp only [DataW.lit.injEq, Lit.int.injEq, true_and] at ha'
      rw [← ha']; rfl
  · exact ⟨none, fun h0 h1 => absurd ⟨h0, h1⟩ hc⟩
theorem look_n {H : Type} {w : World} {b n : Nat} {D : DataW H} (h : w.ownsMap Tryd.prog 3 (plainElem Tryd.prog 9) b n D) (c : Int) : ∃ o : Option ByteArray, (∀ s, o = some s → s.size ≤ maxLen) ∧ (0 ≤ c → c ≤ 65535 → ∀ W, Below w.heap.size w W →
    (Instr.lookup 42 (.map (some b)) (.int .i64 c) true).run Tryd.prog W = .ok (.tuple #[.string (o.getD ⟨#[]⟩), .bool o.isSome]) W) := by
  by_cases hc : 0 ≤ c ∧ c ≤ 65535
  · have hz0 : plainElem (H := H) Tryd.prog 9 (.string ⟨#[]⟩) = some (.lit (.string []), []) := plainElem_string Tryd.underlying9 (by unfold maxLen; decide)
    obtain ⟨v, ps, _, hv⟩ := h.look_ok lawI Tryd.underlying42 (zeroS w) hz0 (keyI hc.1 hc.2)
    obtain ⟨a, _, ha, hsz⟩ := plainElem_string_inv Tryd.underlying9 hv
    have ha' := congrArg Prod.fst ha
    simp only at ha'
    refine ⟨if Maps.has D (.int .i64 c) then some a else none, fun s hs => ?_, fun _ _ W hB => ?_⟩
    · split at hs
      · injection hs with hs; subst hs; exact hsz
      · cases hs
    obtain ⟨v', ps', hr', hv'⟩ := (kept_below h hB).look_ok lawI Tryd.underlying42 (zeroS W) hz0 (keyI hc.1 hc.2)
    obtain ⟨a', rfl, hb, _⟩ := plainElem_string_inv Tryd.underlying9 hv'
    have hb' := congrArg Prod.fst hb
    simp only at hb'
    rw [ha'] at hb'
    simp only [DataW.lit.injEq, Lit.string.injEq] at hb'
    have hb2 : a = a' := Go.WideShapes.bytes_inj hb'
    subst hb2
    rw [hr']
    cases hh : Maps.has D (.int .i64 c) with
    | true => rfl
    | false =>
      rw [atKey_of_not_has hh] at ha'
      simp only [DataW.lit.injEq, Lit.string.injEq] at ha'
      have : a = ⟨#[]⟩ := Go.WideShapes.bytes_inj (by rw [← ha'])
      rw [this]; rfl
  · exact ⟨none, fun s hs => (by cases hs), fun h0 h1 => absurd ⟨h0, h1⟩ hc⟩
/-- A font that came in. -/
structure FtIn (w : World) (F : Ft) (mw mn : Value) (al : Option Addr) : Prop where
  at_ : FtAt w F mw mn al
  wl : ∃ k : Nat, ∀ W ty, Below w.heap.size w W → (Builtin.len_ #[41] ty #[mw]).run Tryd.prog W = .ok (.int .i64 (k : Int)) W
  nl : ∃ k : Nat, ∀ W ty, Below w.heap.size w W → (Builtin.len_ #[42] ty #[mn]).run Tryd.prog W = .ok (.int .i64 (k : Int)) W
  nr : mn = .map none ∨ ∃ (H : Type) (b n : Nat) (D : DataW H), mn = .map (some b) ∧ w.ownsMap Tryd.prog 3 (plainElem Tryd.prog 9) b n D
theorem array5 {α : Type} {cs : Array α} (h : cs.size = 5) : ∃ c0 c1 c2 c3 c4, cs = #[c0, c1, c2, c3, c4] := by
  obtain ⟨l⟩ := cs
  match l, h with
  | [c0, c1, c2, c3, c4], _ => exact ⟨c0, c1, c2, c3, c4, rfl⟩
theorem cellsFt : Tryd.prog.cellsOf 44 = 5 := by kernel_rfl
theorem spans_cell {H : Type} {enc : TypeId × Value → H} {W : World} {fuel : Nat} {v : Value} {x : DataW H × List MemPlace} (hf : DataW.trod enc Tryd.prog W 0 (fun _ => true) true fuel 23 [v] = some x) :
    ∃ al l c, v = .slice al (List.length l) c ∧ List.length l ≤ maxLen ∧ SpAt W al l := by
  obtain ⟨al, len, cap, es, q, hl, hlen, _, hL⟩ := trod_list Tryd.underlying23 cellsSp (by omega) hf
  have hL2 : ∀ i : Nat, ∃ x : Sp, ∀ y, es[i]? = some y → ∃ b off, al = some ⟨b, off, none⟩ ∧ b < W.heap.size ∧ W.cell? ⟨b, off + i * 3, none⟩ = some (.int .i64 x.f) ∧ W.cell? ⟨b, off + i * 3 + 1, none⟩ = some (.int .i64 x.t) ∧ W.cell? ⟨b, off + i * 3 + 2, none⟩ = some (.string x.s) ∧
      (-9223372036854775808 ≤ x.f ∧ x.f ≤ 9223372036854775807) ∧ (-9223372036854775808 ≤ x.t ∧ x.t ≤ 9223372036854775807) ∧ x.s.size ≤ maxLen := fun i => by
    cases hi : es[i]? with
    | none => exact ⟨⟨0, 0, ByteArray.empty⟩, fun y h => by cases h⟩
    | some y =>
      obtain ⟨b, off, c, z1, z2, z3, z4, z5⟩ := hL i y hi
      obtain ⟨xs, n, _, _, _, hlen', hx⟩ := DataW.trod_struct Tryd.underlying36 z5
      obtain ⟨c0, c1, c2, rfl⟩ := list3 z3
      have hxl : xs.length = 3 := hlen'
      obtain ⟨y0, y1, y2, rfl⟩ := list3 hxl
      have g0 : DataW.trod enc Tryd.prog W 0 (fun _ => true) true n 3 [c0] = some y0 := hx 0 _ rfl
      have g1 : DataW.trod enc Tryd.prog W 0 (fun _ => true) true n 3 [c1] = some y1 := hx 1 _ rfl
      have g2 : DataW.trod enc Tryd.prog W 0 (fun _ => true) true n 9 [c2] = some y2 := hx 2 _ rfl
      obtain ⟨k0, q0, _, w0⟩ := DataW.trod_int Tryd.underlying3 g0
      obtain ⟨k1, q1, _, w1⟩ := DataW.trod_int Tryd.underlying3 g1
      obtain ⟨s0, q2, _, hs⟩ := DataW.trod_string Tryd.underlying9 g2
      simp only [List.cons.injEq, and_true] at q0 q1 q2
      subst q0 q1 q2
      refine ⟨⟨k0, k1, s0⟩, fun y' h => ?_⟩
      cases h
      exact ⟨b, off, z1, z2, z4 0 _ rfl, z4 1 _ rfl, z4 2 _ rfl, wf64 w0, wf64 w1, hs⟩
  obtain ⟨gL, hgL⟩ := Classical.axiomOfChoice hL2
  subst q
  refine ⟨al, (List.range len).map gL, cap, by simp, by simpa using hl, fun i x hx => ?_⟩
  simp only [List.getElem?_map, Option.map_eq_some_iff] at hx
  obtain ⟨j, hj, rfl⟩ := hx
  have hi := (List.getElem?_eq_some_iff.1 hj).1
  simp at hi
  have : j = i := by simpa [List.getElem?_range hi] using hj.symm
  subst this
  exact hgL j _ (List.getElem?_eq_getElem (by omega))
theorem open_font {H : Type} {enc : TypeId × Value → H} {W : World} {base : Nat} {v : Value} {d : DataW H} {p : List MemPlace}
    (hv : Value.okWide Tryd.prog W .any base 44 v) (h : DataW.Trod enc Tryd.prog W 0 (fun _ => true) true 44 v d p) :
    ∃ F mw mn al c, v = ftV F mw mn al c ∧ FtIn W F mw mn al := by
  obtain ⟨cs, rfl, hsz⟩ := okWide_struct Tryd.underlying44 hv
  obtain ⟨c0, c1, c2, c3, c4, rfl⟩ := array5 (hsz.trans cellsFt)
  obtain ⟨fuel, hf⟩ := h
  obtain ⟨xs, n, _, _, hl, hlen, hx⟩ := DataW.trod_struct Tryd.underlying44 hf
  have hxl : xs.length = 5 := hlen
  obtain ⟨x0, x1, x2, x3, x4, rfl⟩ : ∃ x0 x1 x2 x3 x4, xs = [x0, x1, x2, x3, x4] := by
    match xs, hxl with
    | [x0, x1, x2, x3, x4], _ => exact ⟨x0, x1, x2, x3, x4, rfl⟩
  have g0 : DataW.trod enc Tryd.prog W 0 (fun _ => true) true n 4 [c0] = some x0 := hx 0 _ rfl
  have g1 : DataW.trod enc Tryd.prog W 0 (fun _ => true) true n 41 [c1] = some x1 := hx 1 _ rfl
  have g2 : DataW.trod enc Tryd.prog W 0 (fun _ => true) true n 3 [c2] = some x2 := hx 2 _ rfl
  have g3 : DataW.trod enc Tryd.prog W 0 (fun _ => true) true n 42 [c3] = some x3 := hx 3 _ rfl
  have g4 : DataW.trod enc Tryd.prog W 0 (fun _ => true) true n 23 [c4] = some x4 := hx 4 _ rfl
  obtain ⟨wide, e0, _⟩ := DataW.trod_bool Tryd.underlying4 g0
  obtain ⟨miss, e2, _, _⟩ := DataW.trod_int Tryd.underlying3 g2
  simp only [List.cons.injEq, and_true] at e0 e2
  subst e0 e2
  obtain ⟨al, l, c, rfl, hll, hSp⟩ := spans_cell g4
  have hW : ∃ wf : Int → Option Int, (∀ c : Int, 0 ≤ c → c ≤ 65535 → ∀ W', Below W.heap.size W W' → (Instr.lookup 41 c1 (.int .i64 c) true).run Tryd.prog W' = .ok (.tuple #[.int .i64 ((wf c).getD 0), .bool (wf c).isSome]) W') ∧ (∃ k : Nat, ∀ W' ty, Below W.heap.size W W' → (Builtin.len_ #[41] ty #[c1]).run Tryd.prog W' = .ok (.int .i64 (k : Int)) W') := by
    rcases WideElems.open_map Tryd.underlying41 g1 with ⟨e, _⟩ | ⟨b, es, clock, m, _, e, hb, _, Fi, _⟩
    · simp only [List.cons.injEq, and_true] at e
      subst e
      exact ⟨fun _ => none, fun c h0 h1 W' _ => by simpa using Maps.look_nil (w := W') true lawI Tryd.underlying41 (zeroI _) (keyI h0 h1), 0, fun W' ty _ => Maps.len_nil Tryd.underlying41 ty⟩
    · simp only [List.cons.injEq, and_true] at e
      subst e
      have hown := World.ownsMap_of_fit (R := plainElem Tryd.prog 3) hb Fi (fun x _ z hz => elemAt_plainElem_int Tryd.underlying3 hz)
      obtain ⟨wf, hwf⟩ := Classical.axiomOfChoice (look_w hown)
      exact ⟨wf, hwf, _, fun W' ty hB => (kept_below hown hB).len Tryd.underlying41 ty⟩
  have hN : ∃ nf : Int → Option ByteArray, (∀ c s, nf c = some s → s.size ≤ maxLen) ∧ (∀ c : Int, 0 ≤ c → c ≤ 65535 → ∀ W', Below W.heap.size W W' → (Instr.lookup 42 c3 (.int .i64 c) true).run Tryd.prog W' = .ok (.tuple #[.string ((nf c).getD ⟨#[]⟩), .bool (nf c).isSome]) W') ∧ (∃ k : Nat, ∀ W' ty, Below W.heap.size W W' → (Builtin.len_ #[42] ty #[c3]).run Tryd.prog W' = .ok (.int .i64 (k : Int)) W') ∧
      (c3 = .map none ∨ ∃ (H : Type) (b n : Nat) (D : DataW H), c3 = .map (some b) ∧ W.ownsMap Tryd.prog 3 (plainElem Tryd.prog 9) b n D) := by
    rcases WideElems.open_map Tryd.underlying42 g3 with ⟨e, _⟩ | ⟨b, es, clock, m, _, e, hb, _, Fi, _⟩
    · simp only [List.cons.injEq, and_true] at e
      subst e
      exact ⟨fun _ => none, fun c s h => (by cases h), fun c h0 h1 W' _ => by simpa using Maps.look_nil (w := W') true lawI Tryd.underlying42 (zeroS _) (keyI h0 h1), ⟨0, fun W' ty _ => Maps.len_nil Tryd.underlying42 ty⟩, .inl rfl⟩
    · simp only [List.cons.injEq, and_true] at e
      subst e
      have hown := World.ownsMap_of_fit (R := plainElem Tryd.prog 9) hb Fi (fun x _ z hz => elemAt_plainElem_string Tryd.underlying9 hz)
      obtain ⟨nf, hnf⟩ := Classical.axiomOfChoice (look_n hown)
      exact ⟨nf, fun c => (hnf c).1, fun c => (hnf c).2, ⟨_, fun W' ty hB => (kept_below hown hB).len Tryd.underlying42 ty⟩, .inr ⟨H, b, _, _, rfl, hown⟩⟩
  obtain ⟨wf, hw1, hw2⟩ := hW
  obtain ⟨nf, hn0, hn1, hn2, hn3⟩ := hN
  exact ⟨⟨wide, wf, miss, nf, l⟩, c1, c3, al, c, rfl, ⟨⟨fun W' hB c h0 h1 => hw1 c h0 h1 W' hB, fun W' hB c h0 h1 => hn1 c h0 h1 W' hB, hn0, hSp, hll⟩, hw2, hn2, hn3⟩⟩
end Go.Proofs.YtggojafapieliabDoor
