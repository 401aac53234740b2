/-
  Joined: Va, Vs, Vh, Vo, Ok, Vb, Op, Or, Os, Jp, Jw, Ji, Jt, Js, Jo, Ju, Jj, Jk, Jl, Jr.
-/
import Derived.Test.YtobpidmlgldnmaaGreatDoorRows
import Derived.Test.YtobpidmlgldnmaaGreatDoorVh
import Derived.WalkKit
import Derived.ProofKit
import Derived.Deep.Slices
import Derived.Lib.SmallJoins
import Derived.Test.YtobpidmlgldnmaaGreatDoorFa
import Derived.RowKit
import Derived.IntWalk
import Derived.WalkSpells
import Derived.WalkLawsBesides
import Derived.Handy
import Derived.Test.YtobpidmlgldnmaaGreatDoorKb
import Derived.Laws.Rows
import Derived.Laws.Tables
import Derived.Deep.RegionWith
import Derived.Deep.CutRange
import Derived.Deep.CutBlock
import Derived.BigRegion
import Derived.Test.YtobpidmlgldnmaaGreatDoorPt
import Derived.Deep.QuietTactic
import Derived.BigQuiet
import Derived.Lib.ItoaMem
import Derived.Lib.Bytealg
import Derived.Lib.ItoaLen
import Derived.Test.YtobpidmlgldnmaaGreatDoorShelf
import Derived.Test.YtobpidmlgldnmaaGreatDoorFe
import Derived.Lib.IndexMore
import Derived.PlainAid
import Derived.Test.YtobpidmlgldnmaaGreatDoorFh
import Derived.Test.YtobpidmlgldnmaaGreatDoorRa
import Derived.Test.YtobpidmlgldnmaaGreatDoorYd
import Derived.Test.YtobpidmlgldnmaaGreatDoorVe
import Derived.Test.YtobpidmlgldnmaaGreatDoorVo
import Derived.Test.YtobpidmlgldnmaaGreatDoorYa
import Derived.Test.YtobpidmlgldnmaaGreatDoorAq
import Derived.Lib.OthersKept
import Derived.Lib.AppendStr
import Derived.Maps.AppendAt
import Derived.RegionTactic
import Derived.Laws.OwnMore
import Derived.OneCell
import Derived.Deep.RegionLaw
import Derived.Deep.DrawnRows
import Derived.Test.YtobpidmlgldnmaaGreatDoorYg
import Derived.Test.YtobpidmlgldnmaaGreatDoorYj
import Derived.Lib.AtoiAllCases
import Derived.Lib.ItoaNum
import Derived.Lib.AtoiErrMem
import Derived.Test.YtobpidmlgldnmaaGreatDoorVy
import Derived.Deep.RegionHeld3
import Derived.Laws.EntriesVeiled
import Derived.Test.YtobpidmlgldnmaaGreatDoorVc3
import Derived.Deep.AppendLies
import Derived.Deep.LoopGhost
import Derived.WalkSmall
import Derived.Test.YtobpidmlgldnmaaGreatDoorVd3
import Derived.Test.YtobpidmlgldnmaaGreatDoorYm
import Derived.Test.YtobpidmlgldnmaaGreatDoorYp
import Derived.Test.YtobpidmlgldnmaaGreatDoorVe1
import Derived.Shelf.Spec.SlicesInsert
import Derived.Shelf.Spec.SlicesInsertGrow
import Derived.Test.YtobpidmlgldnmaaGreatDoorYt
import Derived.Test.YtobpidmlgldnmaaGreatDoorYua
import Derived.Test.YtobpidmlgldnmaaGreatDoorYx
import Derived.Test.YtobpidmlgldnmaaGreatDoorVj
import Derived.Test.YtobpidmlgldnmaaGreatDoorYy
import Derived.Test.YtobpidmlgldnmaaGreatDoorOc
import Derived.Lib.AppendIntMem
import Derived.Test.YtobpidmlgldnmaaGreatDoorOe
import Derived.Test.YtobpidmlgldnmaaGreatDoorOh
import Derived.Lib.Builder
import Derived.Lib.Walk
import Derived.Laws.Externs
import Derived.Lib.UnsafeStr
import Derived.Test.YtobpidmlgldnmaaGreatDoorCb
import Derived.Lib.ValidLaws
import Derived.Lib.MapLaws
import Derived.Lib.RuneBytes
import Derived.Test.YtobpidmlgldnmaaGreatDoorCp
import Derived.Lib.LaidU8
import Derived.PinnedBridge
import Derived.Test.YtobpidmlgldnmaaGreatDoorAm
import Derived.Laws.IdiomStrings
import Derived.Lib.FrozenHead
import Derived.Test.YtobpidmlgldnmaaGreatDoorGc
import Derived.Laws.BitsLemmas
import Derived.Maps.OwnSet
import Derived.Maps.OwnOps
import Derived.Carry
import Derived.Test.YtobpidmlgldnmaaGreatDoorCe
import Derived.Test.YtobpidmlgldnmaaGreatDoorGh
import Derived.Lib.SlTrimSet
import Derived.Maps.StringElems
import Derived.WideKeyElems2
import Derived.Laws.IdiomRangeMap
import Derived.Test.YtobpidmlgldnmaaGreatDoorCh
import Derived.Laws.DeepBits32
import Derived.Test.YtobpidmlgldnmaaGreatDoorCk
import Derived.Maps.RangeWalk
import Derived.LoopN
import Derived.Test.YtobpidmlgldnmaaGreatDoorGf
import Derived.Test.YtobpidmlgldnmaaGreatDoorMb
import Derived.Deep.AppendSrc
import Derived.Test.YtobpidmlgldnmaaGreatDoorIb
import Derived.Deep.MidRow
import Derived.OwnWalk
import Derived.Test.YtobpidmlgldnmaaGreatDoorIl
import Derived.Test.YtobpidmlgldnmaaGreatDoorIs
import Derived.Test.YtobpidmlgldnmaaGreatDoorIn
import Derived.Test.YtobpidmlgldnmaaGreatDoorIv
import Derived.Test.YtobpidmlgldnmaaGreatDoorIk
import Derived.Test.YtobpidmlgldnmaaGreatDoorIp
import Derived.Test.YtobpidmlgldnmaaGreatDoorIh
import Derived.Test.YtobpidmlgldnmaaGreatDoorJa
import Derived.Test.YtobpidmlgldnmaaGreatDoorJd
import Derived.Test.YtobpidmlgldnmaaGreatDoorTie
import Derived.Test.YtobpidmlgldnmaaGreatDoorCards
import Derived.OpenShut
import Derived.Deep.DeepHandedRow
import Derived.Lib.LaidTab
import Derived.Shelf.Vars
import Derived.Stop.LaidErr
import Derived.Test.YtobpidmlgldnmaaGreatDoorJf

/-
  Values in memory: a tree, and the cells that hold it; what is read as an argument is one.
-/
namespace Go.Proofs.YtobpidmlgldnmaaGreatDoor
open Go.RowKit Go.WideShapes Go.ChangeShapes Go.Deep Go.Joins
set_option maxRecDepth 100000

/-- How much there is in a tree: letters and values. -/
def bulkN : Nat → V → Nat
  | 0, _ => 0
  | d + 1, v => 1 + v.s.size + (v.l.map (bulkN d)).sum + (v.f.map fun q => 1 + q.1.size + bulkN d q.2).sum

theorem bulk_eq : ∀ {d d' : Nat} {w : World} {v : V} {cs : List Value}, RepN d w v cs → d ≤ d' → bulkN d' v = bulkN d v
  | 0, _, _, _, _, h, _ => h.elim
  | d + 1, 0, _, _, _, _, hd => by omega
  | d + 1, d' + 1, w, v, cs, h, hd => by
    obtain ⟨al, af, cl, cf, h1, h2, h3, h4⟩ := h
    have e1 : v.l.map (bulkN d') = v.l.map (bulkN d) := List.map_congr_left fun x hx => by
      obtain ⟨i, hi⟩ := List.getElem?_of_mem hx
      obtain ⟨b, off, c, e, hb, hc, hr⟩ := h3 i x hi
      exact bulk_eq hr (by omega)
    have e2 : (v.f.map fun q => 1 + q.1.size + bulkN d' q.2) = v.f.map fun q => 1 + q.1.size + bulkN d q.2 := List.map_congr_left fun q hq => by
      obtain ⟨i, hi⟩ := List.getElem?_of_mem hq
      obtain ⟨b, off, c, e, hb, hs, hn, hc, hr⟩ := h4 i q hi
      rw [bulk_eq hr (show d ≤ d' by omega)]
    rw [bulkN, bulkN, e1, e2]
theorem sum_le {α : Type} {H : Type} (g : α → Nat) : ∀ (l : List α) (ds : List (DataW H)), l.length = ds.length → (∀ (i : Nat) (a : α) (d : DataW H), l[i]? = some a → ds[i]? = some d → g a ≤ Rows.uptoBulk d) → (l.map g).sum ≤ Rows.uptoBulkAll ds
  | [], [], _, _ => by simp [Rows.uptoBulkAll]
  | a :: l, d :: ds, hl, h => by
    have h0 := h 0 a d rfl rfl
    have ih := sum_le g l ds (by simpa using hl) (fun i a d h1 h2 => h (i + 1) a d (by simpa using h1) (by simpa using h2))
    simp only [List.map_cons, List.sum_cons, Rows.uptoBulkAll]; omega
  | [], _ :: _, hl, _ => by simp at hl
  | _ :: _, [], hl, _ => by simp at hl

theorem cellsV : Tryz.prog.cellsOf 38 = 5 := by kernel_rfl
theorem cellsF : Tryz.prog.cellsOf 111 = 6 := by kernel_rfl
theorem list5 {α : Type} {cs : List α} (h : cs.length = 5) : ∃ c0 c1 c2 c3 c4, cs = [c0, c1, c2, c3, c4] := by
  match cs, h with
  | [c0, c1, c2, c3, c4], _ => exact ⟨c0, c1, c2, c3, c4, rfl⟩
theorem list6 {α : Type} {cs : List α} (h : cs.length = 6) : ∃ c0 c1 c2 c3 c4 c5, cs = [c0, c1, c2, c3, c4, c5] := by
  match cs, h with
  | [c0, c1, c2, c3, c4, c5], _ => exact ⟨c0, c1, c2, c3, c4, c5, rfl⟩

section
variable {H : Type} {enc : TypeId × Value → H} {W : World}
theorem trod_value (fuel : Nat) : ∀ (cs : List Value) (x : DataW H × List MemPlace), DataW.trod enc Tryz.prog W 0 (fun _ => true) true fuel 38 cs = some x → ∃ v, RepN fuel W v cs ∧ bulkN fuel v ≤ Rows.uptoBulk x.1 := by
  induction fuel using Nat.strongRecOn with
  | ind fuel ih =>
    intro cs x h
    obtain ⟨xs, n, rfl, hxx, hl, hlen, hx⟩ := DataW.trod_struct Tryz.underlying38 h
    obtain ⟨c0, c1, c2, c3, c4, rfl⟩ := list5 (hl.trans cellsV)
    have hxl : xs.length = 5 := hlen
    have get : ∀ i, i < 5 → ∃ y, xs[i]? = some y := fun i hi => ⟨xs[i]'(by omega), List.getElem?_eq_getElem _⟩
    have g0 := hx 0 _ rfl
    have g1 := hx 1 _ rfl
    have g2 := hx 2 _ rfl
    have g3 := hx 3 _ rfl
    have g4 := hx 4 _ rfl
    obtain ⟨y0, e0⟩ := get 0 (by omega)
    obtain ⟨y1, e1⟩ := get 1 (by omega)
    obtain ⟨y2, e2⟩ := get 2 (by omega)
    obtain ⟨y3, e3⟩ := get 3 (by omega)
    obtain ⟨y4, e4⟩ := get 4 (by omega)
    have g0' : DataW.trod enc Tryz.prog W 0 (fun _ => true) true n 3 [c0] = some y0 := g0.trans e0
    have g1' : DataW.trod enc Tryz.prog W 0 (fun _ => true) true n 3 [c1] = some y1 := g1.trans e1
    have g2' : DataW.trod enc Tryz.prog W 0 (fun _ => true) true n 9 [c2] = some y2 := g2.trans e2
    have g3' : DataW.trod enc Tryz.prog W 0 (fun _ => true) true n 35 [c3] = some y3 := g3.trans e3
    have g4' : DataW.trod enc Tryz.prog W 0 (fun _ => true) true n 36 [c4] = some y4 := g4.trans e4
    obtain ⟨k0, q0, p0, _⟩ := DataW.trod_int Tryz.underlying3 g0'
    obtain ⟨n0, q1, p1, _⟩ := DataW.trod_int Tryz.underlying3 g1'
    obtain ⟨s0, q2, p2, hs⟩ := DataW.trod_string Tryz.underlying9 g2'
    obtain ⟨al, ll, cl, esL, q3, hll, hlenL, hbL, hL⟩ := trod_list Tryz.underlying35 cellsV (by omega) g3'
    obtain ⟨af, lf, cf, esF, q4, hlf, hlenF, hbF, hF⟩ := trod_list Tryz.underlying36 cellsF (by omega) g4'
    simp only [List.cons.injEq, and_true] at q0 q1 q2
    subst q0 q1 q2 q3 q4
    have hL2 : ∀ i : Nat, ∃ x : V, ∀ y, esL[i]? = some y → (∃ b off c, al = some ⟨b, off, none⟩ ∧ b < W.heap.size ∧ CellsAt W b (off + i * 5) c ∧ RepN n W x c) ∧ bulkN n x ≤ Rows.uptoBulk y.1 := fun i => by
      cases hi : esL[i]? with
      | none => exact ⟨⟨0, 0, ByteArray.empty, [], []⟩, fun y h => by cases h⟩
      | some y =>
        obtain ⟨b, off, c, z1, z2, z3, z4, z5⟩ := hL i y hi
        obtain ⟨x, hx, hbx⟩ := ih (n - 1) (by omega) c y z5
        refine ⟨x, fun y' h => ?_⟩
        cases h
        exact ⟨⟨b, off, c, z1, z2, z4, hx.mono (by omega)⟩, by rw [bulk_eq hx (by omega)]; exact hbx⟩
    have hF2 : ∀ i : Nat, ∃ q : ByteArray × V, ∀ y, esF[i]? = some y → (∃ b off c, af = some ⟨b, off, none⟩ ∧ b < W.heap.size ∧ q.1.size ≤ maxLen ∧ W.cell? ⟨b, off + i * 6, none⟩ = some (.string q.1) ∧ CellsAt W b (off + i * 6 + 1) c ∧ RepN n W q.2 c) ∧ 1 + q.1.size + bulkN n q.2 ≤ Rows.uptoBulk y.1 := fun i => by
      cases hi : esF[i]? with
      | none => exact ⟨(ByteArray.empty, ⟨0, 0, ByteArray.empty, [], []⟩), fun y h => by cases h⟩
      | some y =>
        obtain ⟨b, off, c, z1, z2, z3, z4, z5⟩ := hF i y hi
        obtain ⟨xs', n', hn', hxx, hl', hlen', hx'⟩ := DataW.trod_struct Tryz.underlying111 z5
        obtain ⟨f0, v0, v1, v2, v3, v4, rfl⟩ := list6 z3
        have hxl' : xs'.length = 2 := hlen'
        obtain ⟨w0, w1, rfl⟩ : ∃ w0 w1, xs' = [w0, w1] := by
          match xs', hxl' with
          | [w0, w1], _ => exact ⟨w0, w1, rfl⟩
        have u0' : DataW.trod enc Tryz.prog W 0 (fun _ => true) true n' 9 [f0] = some w0 := hx' 0 _ rfl
        have u1' : DataW.trod enc Tryz.prog W 0 (fun _ => true) true n' 38 [v0, v1, v2, v3, v4] = some w1 := hx' 1 _ rfl
        obtain ⟨nm, r0, r1, hnm⟩ := DataW.trod_string Tryz.underlying9 u0'
        simp only [List.cons.injEq, and_true] at r0
        subst r0
        obtain ⟨x, hx, hbx⟩ := ih n' (by omega) _ _ u1'
        refine ⟨(nm, x), fun y' h => ?_⟩
        cases h
        refine ⟨⟨b, off, [v0, v1, v2, v3, v4], z1, z2, hnm, z4 0 _ rfl, fun j cc hj => ?_, hx.mono (by omega)⟩, ?_⟩
        · have := z4 (j + 1) cc (by simpa using hj)
          rw [show off + i * 6 + 1 + j = off + i * 6 + (j + 1) by omega]; exact this
        · rw [bulk_eq hx (by omega), hxx]
          simp only [List.map_cons, List.map_nil, Rows.uptoBulk, Rows.uptoBulkAll, r1]
          have : nm.data.toList.length = nm.size := by simp
          omega
    obtain ⟨gL, hgL⟩ := Classical.axiomOfChoice hL2
    obtain ⟨gF, hgF⟩ := Classical.axiomOfChoice hF2
    have rng : ∀ {α : Type} (g : Nat → α) (m i : Nat) (a : α), ((List.range m).map g)[i]? = some a → i < m ∧ a = g i := fun g m i a h => by
      simp only [List.getElem?_map, Option.map_eq_some_iff] at h
      obtain ⟨j, hj, rfl⟩ := h
      have hi := (List.getElem?_eq_some_iff.1 hj).1
      simp at hi
      have : j = i := by simpa [List.getElem?_range hi] using hj.symm
      subst this
      exact ⟨hi, rfl⟩
    refine ⟨⟨k0, n0, s0, (List.range ll).map gL, (List.range lf).map gF⟩, ⟨al, af, cl, cf, by simp, ⟨hs, by simpa using hll, by simpa using hlf⟩, fun i x hx => ?_, fun i q hq => ?_⟩, ?_⟩
    · obtain ⟨hi, rfl⟩ := rng gL ll i x hx
      exact (hgL i _ (List.getElem?_eq_getElem (by omega))).1
    · obtain ⟨hi, rfl⟩ := rng gF lf i q hq
      exact (hgF i _ (List.getElem?_eq_getElem (by omega))).1
    · have sL := sum_le (bulkN n) ((List.range ll).map gL) (esL.map (·.1)) (by simp [hlenL]) (fun i a d h1 h2 => by
        obtain ⟨hi, rfl⟩ := rng gL ll i a h1
        simp only [List.getElem?_map, Option.map_eq_some_iff] at h2
        obtain ⟨y, hy, rfl⟩ := h2
        exact (hgL i y hy).2)
      have sF := sum_le (fun q : ByteArray × V => 1 + q.1.size + bulkN n q.2) ((List.range lf).map gF) (esF.map (·.1)) (by simp [hlenF]) (fun i a d h1 h2 => by
        obtain ⟨hi, rfl⟩ := rng gF lf i a h1
        simp only [List.getElem?_map, Option.map_eq_some_iff] at h2
        obtain ⟨y, hy, rfl⟩ := h2
        exact (hgF i y hy).2)
      obtain ⟨u0, u1, u2, u3, u4, rfl⟩ := list5 hxl
      cases e0; cases e1; cases e2; cases e3; cases e4
      rw [hxx]
      simp only [List.map_cons, List.map_nil, Rows.uptoBulk, Rows.uptoBulkAll, p0, p1, p2, bulkN]
      have : s0.data.toList.length = s0.size := by simp
      omega
end
end Go.Proofs.YtobpidmlgldnmaaGreatDoor

/-
  Plain functions over values as trees: how many, how deep, how much, whether it may be.
-/
namespace Go.Proofs.YtobpidmlgldnmaaGreatDoor
open Go.RowKit
set_option maxRecDepth 100000

theorem cntL_le_bulk : ∀ (l : List V), (∀ x ∈ l, x.cnt ≤ x.bulk) → cntL l ≤ bulkL l
  | [], _ => by simp [cntL]
  | y :: l, h => by
    have := cntL_le_bulk l (fun x hx => h x (by simp [hx]))
    have := h y (by simp)
    rw [cntL, bulkL]; omega
theorem cntF_le_bulk : ∀ (l : List (ByteArray × V)), (∀ q ∈ l, q.2.cnt ≤ q.2.bulk) → cntF l ≤ bulkF l
  | [], _ => by simp [cntF]
  | y :: l, h => by
    have := cntF_le_bulk l (fun x hx => h x (by simp [hx]))
    have := h y (by simp)
    rw [cntF_cons, bulkF_cons]; omega
theorem cnt_le_bulk (v : V) : v.cnt ≤ v.bulk := by
  induction v using V.ind with
  | h v hl hf =>
    have a := cntL_le_bulk v.l hl
    have b := cntF_le_bulk v.f hf
    rw [cnt_eq, bulk_eq']; omega
theorem bulkN_eq : ∀ {d : Nat} {w : World} {v : V} {cs : List Value}, RepN d w v cs → bulkN d v = v.bulk
  | 0, _, _, _, h => h.elim
  | d + 1, w, v, cs, h => by
    obtain ⟨al, af, cl, cf, h1, h2, h3, h4⟩ := h
    have e1 : ∀ l : List V, (∀ x ∈ l, bulkN d x = x.bulk) → (l.map (bulkN d)).sum = bulkL l := fun l => by
      induction l with
      | nil => intro _; rfl
      | cons y l ih => intro h; rw [List.map_cons, List.sum_cons, bulkL, ih (fun x hx => h x (by simp [hx])), h y (by simp)]
    have e2 : ∀ l : List (ByteArray × V), (∀ q ∈ l, bulkN d q.2 = q.2.bulk) → (l.map fun q => 1 + q.1.size + bulkN d q.2).sum = bulkF l := fun l => by
      induction l with
      | nil => intro _; rfl
      | cons y l ih => intro h; rw [List.map_cons, List.sum_cons, bulkF_cons, ih (fun x hx => h x (by simp [hx])), h y (by simp)]
    have q1 : ∀ x ∈ v.l, bulkN d x = x.bulk := fun x hx => by
      obtain ⟨i, hi⟩ := List.getElem?_of_mem hx
      obtain ⟨b, off, c, e, hb, hc, hr⟩ := h3 i x hi
      exact bulkN_eq hr
    have q2 : ∀ q ∈ v.f, bulkN d q.2 = q.2.bulk := fun q hq => by
      obtain ⟨i, hi⟩ := List.getElem?_of_mem hq
      obtain ⟨b, off, c, e, hb, hs, hn, hc, hr⟩ := h4 i q hi
      exact bulkN_eq hr
    rw [bulkN, bulk_eq', e1 v.l q1, e2 v.f q2]
end Go.Proofs.YtobpidmlgldnmaaGreatDoor

/-
  Aids for contracts over values: the cells of one, the block in which a call keeps one.
-/
namespace Go.Proofs.YtobpidmlgldnmaaGreatDoor
open Go.RowKit
set_option maxRecDepth 100000

/-- The whole block of a value that a call has boxed. -/
abbrev BoxV (w : World) (b : Nat) (v : V) (al af : Option Addr) (cl cf : Nat) : Prop := At w b 38 #[.int .i64 v.k, .int .i64 v.n, .string v.s, .slice al v.l.length cl, .slice af v.f.length cf]

end Go.Proofs.YtobpidmlgldnmaaGreatDoor

/-
  A value's text; the document's own.
-/
namespace Go.Proofs.YtobpidmlgldnmaaGreatDoor
open Go.RowKit
set_option maxRecDepth 100000

theorem nmOk_sizeV {s : ByteArray} (h : nmOk s = true) : s.size ≤ 200 := by
  by_cases hs : s.size ≤ 200
  · exact hs
  · rw [nmOk_len (by omega)] at h; cases h
theorem own_s {v : V} (h : Own v) : v.s.size ≤ 200 := by
  rcases h with h | h | h | h | h | h | h | h
  · omega
  · omega
  · omega
  · omega
  · exact nmOk_sizeV h.2.2.1
  · omega
  · omega
  · omega
end Go.Proofs.YtobpidmlgldnmaaGreatDoor

/-
  Two lists of operators that are the same.
-/
namespace Go.Proofs.YtobpidmlgldnmaaGreatDoor
open Go.RowKit
set_option maxRecDepth 100000

/-- A list of values in memory: its slice, and each value. -/
theorem rep_list {d : Nat} {w : World} {l : List V} {t : Value} (h : RepN d w (listV5 l) (listC t)) : ∃ a c, t = .slice a l.length c ∧ l.length ≤ maxLen ∧ ∀ (i : Nat) x, l[i]? = some x → ∃ b off cs, a = some ⟨b, off, none⟩ ∧ b < w.heap.size ∧ CellsAt w b (off + i * 5) cs ∧ RepN (d - 1) w x cs := by
  match d, h with
  | d + 1, h =>
    obtain ⟨al, af, cl, cf, h1, h2, h3, _⟩ := h
    unfold listC listV5 at h1
    simp only [List.cons.injEq, and_true] at h1
    exact ⟨al, cl, h1.2.2.2.1, h2.2.1, fun i x hx => by simpa using h3 i x hx⟩
end Go.Proofs.YtobpidmlgldnmaaGreatDoor

/-
  Contracts over values that only look: how heavy one is (some number), how many parts it has and how deep it is.
-/
namespace Go.Proofs.YtobpidmlgldnmaaGreatDoor
open Go.RowKit
set_option maxRecDepth 100000

set_option maxHeartbeats 1000000 in
theorem weight_step (d : Nat) (most : Int)
    (ih : ∀ (v : V) (cs : List Value) (w : World), RepN d w v cs → Calls Tryz.prog 29 #[.agg cs.toArray, .int .i64 most] w fun e w' => (∃ z : Int, e = .returned (.int .i64 z)) ∧ Below w.heap.size w w')
    (v : V) (cs : List Value) (w : World) (hv : RepN (d + 1) w v cs) :
    Calls Tryz.prog 29 #[.agg cs.toArray, .int .i64 most] w fun e w' => (∃ z : Int, e = .returned (.int .i64 z)) ∧ Below w.heap.size w w' := by
  obtain ⟨al, af, cl, cf, rfl, ⟨hs, hl, hf⟩, hL, hF⟩ := hv
  unfold maxLen at hs hl hf
  have HL := hid hL
  have HF := hid hF
  clear hL hF
  go_enter Tryz.func29, Tryz.ntmps29
  go_upto_block 0 with fail
  go_cut [5] from 12 to 32 (fun t wx => ∃ z : Int, t = .int .i64 z ∧ BoxV wx w.heap.size v al af cl cf ∧ Below w.heap.size w wx)
  case first =>
    go_wp2_with fail
    go_loopw [5, 6] (fun t i wr => ∃ (j : Nat) (z : Int), i = .int .i64 j ∧ t = .int .i64 z ∧ j ≤ v.l.length ∧ BoxV wr w.heap.size v al af cl cf ∧ Below w.heap.size w wr) (fun _ i _ => v.l.length - (intOf i).toNat)
    case atStart => exact ⟨0, _, rfl, rfl, Nat.zero_le _, At.new _ _ _ rfl, by go_grown⟩
    case round =>
      obtain ⟨j, z, rfl, rfl, hj, hA, hB⟩ := hrel
      have mc := hA.cell
      have mz := hA.lt
      by_cases hjl : j < v.l.length
      · have hjl' : (j : Int) < v.l.length := by omega
        by_cases hzm : z ≤ most
        · obtain ⟨b, off, c, rfl, hbl, hc, hr⟩ := HL.out j v.l[j] (List.getElem?_eq_getElem hjl)
          have hr' := hr.later (hB : Below w.heap.size w wr)
          have hbr : b < wr.heap.size := Nat.lt_of_lt_of_le hbl hB.size
          obtain ⟨k1, n1, s1, a1, l1, c1, a2, l2, c2, rfl, g0, g1, g2, g3, g4⟩ := rep_cells hr' (hc.later hbl hB)
          have HR := hid hr'
          clear hr hr' hc
          go_wp2_with (go_at_call 29; refine (ih v.l[j] _ _ HR.out).mono ?_; rintro e w1 ⟨⟨z1, rfl⟩, hb1⟩)
          go_roundw
          case rel => exact ⟨j + 1, _, by go_num, rfl, by omega, hA.later hb1, hB.trans (hb1.mono hB.size)⟩
          case measure => simp [intOf]; omega
        · go_wp2_with fail
          go_meet
          case rel => exact ⟨z, rfl, hA, hB⟩
      · have hjl' : ¬ (j : Int) < v.l.length := by omega
        go_wp2_with fail
        go_meet
        case rel => exact ⟨z, rfl, hA, hB⟩
  case rest =>
    obtain ⟨z, rfl, hA, hB⟩ := hcut
    go_wp2_with fail
    go_loopw [5, 7] (fun t i wq => ∃ (p : Nat) (y : Int), i = .int .i64 p ∧ t = .int .i64 y ∧ p ≤ v.f.length ∧ BoxV wq w.heap.size v al af cl cf ∧ Below w.heap.size w wq) (fun _ i _ => v.f.length - (intOf i).toNat)
    case atStart => exact ⟨0, z, rfl, rfl, Nat.zero_le _, hA, hB⟩
    case round =>
      clear hA hB
      obtain ⟨p, y, rfl, rfl, hp, hA, hB⟩ := hrel
      have mc := hA.cell
      have mz := hA.lt
      by_cases hpl : p < v.f.length
      · have hpl' : (p : Int) < v.f.length := by omega
        by_cases hym : y ≤ most
        · obtain ⟨b, off, c, rfl, hbl, hnm, hcn, hc, hr⟩ := HF.out p v.f[p] (List.getElem?_eq_getElem hpl)
          have hr' := hr.later hB
          have hbr : b < wr.heap.size := Nat.lt_of_lt_of_le hbl hB.size
          obtain ⟨k1, n1, s1, a1, l1, c1, a2, l2, c2, rfl, g0, g1, g2, g3, g4⟩ := rep_cells hr' (hc.later hbl hB)
          have hcn' := (hB.cell (p := ⟨b, off + p * 6, none⟩) hbl).trans hcn
          have HR := hid hr'
          clear hr hr' hc hcn
          generalize v.f[p].1 = nm at *
          go_upto_block 3 with fail
          go_cut [5] from 33 to 62 (fun t wx => ∃ z : Int, t = .int .i64 z ∧ BoxV wx w.heap.size v al (some ⟨b, off, none⟩) cl cf ∧ Below w.heap.size w wx)
          case first =>
            go_wp2_with fail
            go_region_with (go_at_call 29; refine (ih v.f[p].2 _ _ (HR.out.later (by go_grown))).mono ?_; rintro e w1 ⟨⟨z1, rfl⟩, hb1⟩; have x1 := hb1.cell (p := ⟨b, off + p * 6, none⟩) hbr; have x2 := fun o => hb1.cell (p := ⟨w.heap.size, o, none⟩) mz)
            all_goals
              go_wp2_with fail
              go_meet
              case rel => exact ⟨_, rfl, hA.later (below_undrew hb1), hB.trans ((below_undrew hb1).mono hB.size)⟩
          case rest =>
            clear hA hB mc mz
            obtain ⟨y', rfl, hA, hB⟩ := hcut
            go_wp2_with fail
            go_roundw
            case rel => exact ⟨p + 1, y', by go_num, rfl, by omega, hA, hB⟩
            case measure => simp [intOf]; omega
        · go_wp2_with fail
          go_ret
          exact ⟨⟨y, rfl⟩, hB⟩
      · have hpl' : ¬ (p : Int) < v.f.length := by omega
        go_wp2_with fail
        go_ret
        exact ⟨⟨y, rfl⟩, hB⟩
theorem weight_any (d : Nat) (most : Int) : ∀ (v : V) (cs : List Value) (w : World), RepN d w v cs → Calls Tryz.prog 29 #[.agg cs.toArray, .int .i64 most] w fun e w' => (∃ z : Int, e = .returned (.int .i64 z)) ∧ Below w.heap.size w w' := by
  induction d with
  | zero => intro v cs w h; exact h.elim
  | succ d ih => exact fun v cs w h => weight_step d most ih v cs w h
end Go.Proofs.YtobpidmlgldnmaaGreatDoor

/-
  ops.Write, whole.
-/
namespace Go.Proofs.YtobpidmlgldnmaaGreatDoor
open Go.RowKit
set_option maxRecDepth 100000

/-- How much operators hold. -/
def opsBulk : List OpP → Nat
  | [] => 0
  | o :: r => 1 + o.1.size + bulkL o.2 + opsBulk r
theorem opsBulk_mem : ∀ (l : List OpP) (o : OpP), o ∈ l → 1 + o.1.size + bulkL o.2 ≤ opsBulk l
  | x :: l, o, h => by
    rw [opsBulk]
    rcases List.mem_cons.1 h with rfl | h
    · omega
    · have := opsBulk_mem l o h; omega
end Go.Proofs.YtobpidmlgldnmaaGreatDoor

/-
  Operators as an argument: what the law asks first, and how they are read.
-/
namespace Go.Proofs.YtobpidmlgldnmaaGreatDoor
open Go.RowKit
set_option maxRecDepth 100000

set_option maxHeartbeats 4000000 in
theorem lightOps_any (d : Nat) (L : List OpP) (t : Value) (w : World) (hL : OpsN d w t L) :
    Calls Tryz.prog 21 #[t] w fun e w' => (∃ r : Bool, e = .returned (.bool r)) ∧ Below w.heap.size w w' := by
  obtain ⟨al, cl, rfl, hlL, hL⟩ := hL
  have HL := hid hL
  unfold maxLen at hlL
  clear hL
  by_cases h3 : (300 : Int) < L.length
  · go_enter Tryz.func21, Tryz.ntmps21
    go_wp2
    go_ret
    first | exact ⟨⟨_, rfl⟩, by go_grown⟩ | exact ⟨.inl rfl, by go_grown⟩
  · go_enter Tryz.func21, Tryz.ntmps21
    go_wp2
    go_loopw [3, 4] (fun nv i wr => ∃ (k : Nat) (n : Int), nv = .int .i64 n ∧ i = .int .i64 k ∧ k ≤ L.length ∧ Below w.heap.size w wr) (fun _ i _ => L.length - (intOf i).toNat)
    case atStart => exact ⟨0, 0, rfl, rfl, by omega, Below.refl _ _⟩
    case round =>
      obtain ⟨k, n, rfl, rfl, hk, hW⟩ := hrel
      have hk0 : (0 : Int) ≤ k := by omega
      by_cases hkl : k < L.length
      · have hkl' : (k : Int) < L.length := by omega
        obtain ⟨b, off, tA, rfl, hbl, k0, k1, hsz, hrp⟩ := HL.out k L[k] (List.getElem?_eq_getElem hkl)
        generalize L[k] = o at hrp hsz k0 k1
        obtain ⟨nm, A⟩ := o
        simp only at hrp hsz k0 k1
        obtain ⟨aA, cA, rfl, hlA, hLA⟩ := rep_list hrp
        have HLA := hid hLA
        unfold maxLen at hlA
        have m0 := (hW.cell (p := ⟨b, _, none⟩) hbl).trans k0
        have m1 := (hW.cell (p := ⟨b, _, none⟩) hbl).trans k1
        have zb : b < wr.heap.size := Nat.lt_of_lt_of_le hbl hW.size
        clear hLA hrp
        by_cases hn : nm.size ≤ 50
        · have hn' : decide ((50 : Int) < nm.size) = false := decide_eq_false (by omega)
          by_cases ha : A.length ≤ 12
          · have ha' : decide ((12 : Int) < A.length) = false := decide_eq_false (by omega)
            have hn2 : ¬ (50 : Int) < nm.size := by omega
            have ha2 : ¬ (12 : Int) < A.length := by omega
            go_wp2_with fail
            go_loopw [3, 5] (fun nv i wx => ∃ (j : Nat) (n : Int), nv = .int .i64 n ∧ i = .int .i64 j ∧ j ≤ A.length ∧ Below w.heap.size w wx) (fun _ i _ => A.length - (intOf i).toNat)
            case atStart => exact ⟨0, n, rfl, rfl, by omega, hW⟩
            case round =>
              clear m0 m1
              obtain ⟨j, n2, rfl, rfl, hj, hY⟩ := hrel
              have m1 := (hY.cell (p := ⟨b, _, none⟩) hbl).trans k1
              have zb2 : b < wr.heap.size := Nat.lt_of_lt_of_le hbl hY.size
              have hj0 : (0 : Int) ≤ j := by omega
              by_cases hjl : j < A.length
              · have hjl' : (j : Int) < A.length := by omega
                obtain ⟨g, og, cs, rfl, hgl, hc, hr0⟩ := HLA.out j A[j] (List.getElem?_eq_getElem hjl)
                generalize A[j] = x at hr0
                have q1 := hr0.later hY
                obtain ⟨x1, n1, s1, a1, l1, c1, a2, l2, c2, rfl, g0, g1, g2, g3, g4⟩ := rep_cells q1 (hc.later hgl hY)
                have zg : g < wr.heap.size := Nat.lt_of_lt_of_le hgl hY.size
                have HRx := hid q1
                clear q1 hc hr0
                go_wp2_with (go_at_call 29; go_must (refine (weight_any _ 9000 x _ _ (HRx.out.later (by go_grown))).mono ?_); rintro e w1 ⟨⟨z1, rfl⟩, hb1⟩)
                exact ⟨⟨j + 1, _, rfl, by go_num, by omega, hY.trans (hb1.mono hY.size)⟩, by simp [intOf]; omega⟩
              · have hjl' : ¬ (j : Int) < A.length := by omega
                by_cases h9 : (9000 : Int) < n2
                · go_wp2_with fail
                  go_ret
                  first | exact ⟨⟨_, rfl⟩, hY⟩ | exact ⟨.inl rfl, hY⟩ | exact ⟨.inr rfl, hY⟩
                · go_wp2_with fail
                  exact ⟨⟨k + 1, n2, rfl, by go_num, by omega, hY⟩, by simp [intOf]; omega⟩
          · have ha2 : (12 : Int) < A.length := by omega
            have hn2 : ¬ (50 : Int) < nm.size := by omega
            go_wp2
            go_ret
            first | exact ⟨⟨_, rfl⟩, hW⟩ | exact ⟨.inl rfl, hW⟩ | exact ⟨.inr rfl, hW⟩
        · have hn2 : (50 : Int) < nm.size := by omega
          go_wp2
          go_ret
          first | exact ⟨⟨_, rfl⟩, hW⟩ | exact ⟨.inl rfl, hW⟩ | exact ⟨.inr rfl, hW⟩
      · have hkl' : ¬ (k : Int) < L.length := by omega
        go_wp2
        go_ret
        first | exact ⟨⟨_, rfl⟩, hW⟩ | exact ⟨.inl rfl, hW⟩ | exact ⟨.inr rfl, hW⟩
end Go.Proofs.YtobpidmlgldnmaaGreatDoor

/-
  Operators that are read as an argument.
-/
namespace Go.Proofs.YtobpidmlgldnmaaGreatDoor
open Go.RowKit Go.WideShapes Go.ChangeShapes Go.Deep Go.Joins
set_option maxRecDepth 100000

theorem cellsOp : Tryz.prog.cellsOf 41 = 2 := by kernel_rfl
theorem list2 {α : Type} {cs : List α} (h : cs.length = 2) : ∃ c0 c1, cs = [c0, c1] := by
  match cs, h with
  | [c0, c1], _ => exact ⟨c0, c1, rfl⟩
theorem bulkL_sum : ∀ (l : List V), bulkL l = (l.map V.bulk).sum
  | [] => rfl
  | x :: l => by rw [bulkL, List.map_cons, List.sum_cons, bulkL_sum l]
theorem opsBulk_sum : ∀ (l : List OpP), opsBulk l = (l.map fun o => 1 + o.1.size + bulkL o.2).sum
  | [] => rfl
  | x :: l => by rw [opsBulk, List.map_cons, List.sum_cons, opsBulk_sum l]
section
variable {H : Type} {enc : TypeId × Value → H} {W : World}
theorem trod_op (fuel : Nat) (cs : List Value) (x : DataW H × List MemPlace) (hl : cs.length = 2) (h : DataW.trod enc Tryz.prog W 0 (fun _ => true) true fuel 41 cs = some x) :
    ∃ (o : OpP) (tA : Value), cs = [.string o.1, tA] ∧ o.1.size ≤ maxLen ∧ RepN (fuel + 1) W (listV5 o.2) (listC tA) ∧ 1 + o.1.size + bulkL o.2 ≤ Rows.uptoBulk x.1 := by
  obtain ⟨xs, n, hn, hxx, hl', hlen, hx⟩ := DataW.trod_struct Tryz.underlying41 h
  obtain ⟨c0, c1, rfl⟩ := list2 hl
  have hxl : xs.length = 2 := hlen
  obtain ⟨y0, y1, rfl⟩ := list2 hxl
  have g0 : DataW.trod enc Tryz.prog W 0 (fun _ => true) true n 9 [c0] = some y0 := hx 0 _ rfl
  have g1 : DataW.trod enc Tryz.prog W 0 (fun _ => true) true n 35 [c1] = some y1 := hx 1 _ rfl
  obtain ⟨nm, q0, p0, hnm⟩ := DataW.trod_string Tryz.underlying9 g0
  obtain ⟨al, ll, cl, es, q1, hll, hel, hbL, hL⟩ := trod_list Tryz.underlying35 cellsV (by omega) g1
  simp only [List.cons.injEq, and_true] at q0
  subst q0 q1
  have hL2 : ∀ i : Nat, ∃ v : V, ∀ y, es[i]? = some y → (∃ b off c, al = some ⟨b, off, none⟩ ∧ b < W.heap.size ∧ CellsAt W b (off + i * 5) c ∧ RepN fuel W v c) ∧ v.bulk ≤ Rows.uptoBulk y.1 := fun i => by
    cases hi : es[i]? with
    | none => exact ⟨⟨0, 0, ByteArray.empty, [], []⟩, fun y h => by cases h⟩
    | some y =>
      obtain ⟨b, off, c, z1, z2, z3, z4, z5⟩ := hL i y hi
      obtain ⟨v, hv, hbv⟩ := trod_value (n - 1) c y z5
      refine ⟨v, fun y' h => ?_⟩
      cases h
      exact ⟨⟨b, off, c, z1, z2, z4, hv.mono (by omega)⟩, by rw [← bulkN_eq hv]; exact hbv⟩
  obtain ⟨gL, hgL⟩ := Classical.axiomOfChoice hL2
  have hget : ∀ (i : Nat) v, ((List.range ll).map gL)[i]? = some v → i < ll ∧ v = gL i := fun i v hv => by
    simp only [List.getElem?_map, Option.map_eq_some_iff] at hv
    obtain ⟨j, hj, rfl⟩ := hv
    have hi := (List.getElem?_eq_some_iff.1 hj).1
    simp at hi
    have : j = i := by simpa [List.getElem?_range hi] using hj.symm
    subst this
    exact ⟨hi, rfl⟩
  refine ⟨(nm, (List.range ll).map gL), .slice al ll cl, rfl, hnm, ⟨al, none, cl, 0, ?_, ?_, fun i v hv => ?_, fun i q h => by simp [listV5] at h⟩, ?_⟩
  · simp [listC, listV5]
  · simp only [listV5, List.length_map, List.length_range, List.length_nil]
    exact ⟨by decide, hll, by decide⟩
  · obtain ⟨hi, rfl⟩ := hget i v hv
    exact (hgL i _ (List.getElem?_eq_getElem (by omega))).1
  · have hsum : bulkL ((List.range ll).map gL) ≤ Rows.uptoBulkAll (es.map (·.1)) := by
      rw [bulkL_sum]
      refine sum_le V.bulk _ _ (by simp [hel]) fun i v dd hv hd => ?_
      obtain ⟨hi, rfl⟩ := hget i v hv
      rw [List.getElem?_map, Option.map_eq_some_iff] at hd
      obtain ⟨y, hy, rfl⟩ := hd
      exact (hgL i y hy).2
    rw [hxx]
    simp only [List.map_cons, List.map_nil, Rows.uptoBulk, Rows.uptoBulkAll, p0]
    have : nm.data.toList.length = nm.size := by simp
    omega
theorem open_ops {base : Nat} {v : Value} {d : DataW H} {p : List MemPlace} (hv : Value.okWide Tryz.prog W .any base 22 v) (h : DataW.Trod enc Tryz.prog W 0 (fun _ => true) true 22 v d p) :
    ∃ dep L, OpsN dep W v L ∧ opsBulk L ≤ Rows.uptoBulk d := by
  obtain ⟨a0, n0, c0, rfl⟩ := okWide_slice Tryz.underlying22 hv
  obtain ⟨fuel, hf⟩ := h
  obtain ⟨al, len, cap, es, q, hl, hlen, hbl, hL⟩ := trod_list Tryz.underlying22 cellsOp (by omega) hf
  have hL2 : ∀ i : Nat, ∃ o : OpP, ∀ y, es[i]? = some y → (∃ b off tA, al = some ⟨b, off, none⟩ ∧ b < W.heap.size ∧ W.cell? ⟨b, off + i * 2, none⟩ = some (.string o.1) ∧ W.cell? ⟨b, off + i * 2 + 1, none⟩ = some tA ∧ o.1.size ≤ maxLen ∧ RepN (fuel + 1) W (listV5 o.2) (listC tA)) ∧ 1 + o.1.size + bulkL o.2 ≤ Rows.uptoBulk y.1 := fun i => by
    cases hi : es[i]? with
    | none => exact ⟨(ByteArray.empty, []), fun y h => by cases h⟩
    | some y =>
      obtain ⟨b, off, c, z1, z2, z3, z4, z5⟩ := hL i y hi
      obtain ⟨o, tA, rfl, ho, hr, hb⟩ := trod_op _ c y z3 z5
      refine ⟨o, fun y' h => ?_⟩
      cases h
      exact ⟨⟨b, off, tA, z1, z2, z4 0 _ rfl, z4 1 _ rfl, ho, hr.mono (by omega)⟩, hb⟩
  obtain ⟨gL, hgL⟩ := Classical.axiomOfChoice hL2
  injection q with q1 q2 q3
  subst q1 q2 q3
  have hget : ∀ (i : Nat) v, ((List.range n0).map gL)[i]? = some v → i < n0 ∧ v = gL i := fun i v hv => by
    simp only [List.getElem?_map, Option.map_eq_some_iff] at hv
    obtain ⟨j, hj, rfl⟩ := hv
    have hi := (List.getElem?_eq_some_iff.1 hj).1
    simp at hi
    have : j = i := by simpa [List.getElem?_range hi] using hj.symm
    subst this
    exact ⟨hi, rfl⟩
  refine ⟨fuel + 1, (List.range n0).map gL, ⟨a0, c0, by simp, by simpa using hl, fun i o ho => ?_⟩, ?_⟩
  · obtain ⟨hi, rfl⟩ := hget i o ho
    exact (hgL i _ (List.getElem?_eq_getElem (by omega))).1
  · have hsum : opsBulk ((List.range n0).map gL) ≤ Rows.uptoBulkAll (es.map (·.1)) := by
      rw [opsBulk_sum]
      refine sum_le (fun o : OpP => 1 + o.1.size + bulkL o.2) _ _ (by simp [hlen]) fun i v dd hv hd => ?_
      obtain ⟨hi, rfl⟩ := hget i v hv
      rw [List.getElem?_map, Option.map_eq_some_iff] at hd
      obtain ⟨y, hy, rfl⟩ := hd
      exact (hgL i y hy).2
    have hbl' : Rows.uptoBulkAll (es.map (·.1)) + 1 ≤ Rows.uptoBulk d := hbl
    omega
end
end Go.Proofs.YtobpidmlgldnmaaGreatDoor

/-
  Names and fonts as an argument.
-/
namespace Go.Proofs.YtobpidmlgldnmaaGreatDoor
open Go.RowKit Go.WideShapes Go.ChangeShapes Go.Deep Go.Joins Go.Maps
open Go.WideMaps Go.Maps
set_option maxRecDepth 100000

section
variable {H : Type} {enc : TypeId × Value → H} {W : World}
theorem font_cells {fuel : Nat} {c0 c1 c2 c3 c4 : Value} {x : DataW H × List MemPlace} (hf : DataW.trod enc Tryz.prog W 0 (fun _ => true) true fuel 56 [c0, c1, c2, c3, c4] = some x) :
    ∃ F mw mn al c, (.agg #[c0, c1, c2, c3, c4] : Value) = ftV F mw mn al c ∧ FtIn W F mw mn al ∧ WdIn W mw ∧ (∃ i, mw = .map i) ∧ (∃ j, mn = .map j) := by
  obtain ⟨xs, n, _, _, hl, hlen, hx⟩ := DataW.trod_struct Tryz.underlying56 hf
  have hxl : xs.length = 5 := hlen
  obtain ⟨x0, x1, x2, x3, x4, rfl⟩ : ∃ x0 x1 x2 x3 x4, xs = [x0, x1, x2, x3, x4] := by
    match xs, hxl with
    | [x0, x1, x2, x3, x4], _ => exact ⟨x0, x1, x2, x3, x4, rfl⟩
  have g0 : DataW.trod enc Tryz.prog W 0 (fun _ => true) true n 4 [c0] = some x0 := hx 0 _ rfl
  have g1 : DataW.trod enc Tryz.prog W 0 (fun _ => true) true n 52 [c1] = some x1 := hx 1 _ rfl
  have g2 : DataW.trod enc Tryz.prog W 0 (fun _ => true) true n 3 [c2] = some x2 := hx 2 _ rfl
  have g3 : DataW.trod enc Tryz.prog W 0 (fun _ => true) true n 53 [c3] = some x3 := hx 3 _ rfl
  have g4 : DataW.trod enc Tryz.prog W 0 (fun _ => true) true n 54 [c4] = some x4 := hx 4 _ rfl
  obtain ⟨wide, e0, _⟩ := DataW.trod_bool Tryz.underlying4 g0
  obtain ⟨miss, e2, _, _⟩ := DataW.trod_int Tryz.underlying3 g2
  simp only [List.cons.injEq, and_true] at e0 e2
  subst e0 e2
  obtain ⟨al, l, c, rfl, hll, hSp⟩ := spans_cell g4
  have hW : ∃ wf : Int → Option Int, (∀ c : Int, 0 ≤ c → c ≤ 65535 → ∀ W', Below W.heap.size W W' → (Instr.lookup 52 c1 (.int .i64 c) true).run Tryz.prog W' = .ok (.tuple #[.int .i64 ((wf c).getD 0), .bool (wf c).isSome]) W') ∧ (∃ k : Nat, ∀ W' ty, Below W.heap.size W W' → (Builtin.len_ #[52] ty #[c1]).run Tryz.prog W' = .ok (.int .i64 (k : Int)) W') ∧ WdIn W c1 := by
    rcases WideElems.open_map Tryz.underlying52 g1 with ⟨e, _⟩ | ⟨b, es, clock, m, _, e, hb, _, Fi, _⟩
    · simp only [List.cons.injEq, and_true] at e
      subst e
      exact ⟨fun _ => none, fun c h0 h1 W' _ => by simpa using Maps.look_nil (w := W') true lawI Tryz.underlying52 (zeroI _) (keyI h0 h1), ⟨0, fun W' ty _ => Maps.len_nil Tryz.underlying52 ty⟩, .inl rfl⟩
    · simp only [List.cons.injEq, and_true] at e
      subst e
      have hown := World.ownsMap_of_fit (R := plainElem Tryz.prog 3) hb Fi (fun x _ z hz => elemAt_plainElem_int Tryz.underlying3 hz)
      obtain ⟨wf, hwf⟩ := Classical.axiomOfChoice (look_w hown)
      exact ⟨wf, hwf, ⟨_, fun W' ty hB => (kept_below hown hB).len Tryz.underlying52 ty⟩, .inr ⟨H, b, _, _, rfl, hown⟩⟩
  have hN : ∃ nf : Int → Option ByteArray, (∀ c s, nf c = some s → s.size ≤ maxLen) ∧ (∀ c : Int, 0 ≤ c → c ≤ 65535 → ∀ W', Below W.heap.size W W' → (Instr.lookup 53 c3 (.int .i64 c) true).run Tryz.prog W' = .ok (.tuple #[.string ((nf c).getD ⟨#[]⟩), .bool (nf c).isSome]) W') ∧ (∃ k : Nat, ∀ W' ty, Below W.heap.size W W' → (Builtin.len_ #[53] ty #[c3]).run Tryz.prog W' = .ok (.int .i64 (k : Int)) W') ∧
      (c3 = .map none ∨ ∃ (H : Type) (b n : Nat) (D : DataW H), c3 = .map (some b) ∧ W.ownsMap Tryz.prog 3 (plainElem Tryz.prog 9) b n D) := by
    rcases WideElems.open_map Tryz.underlying53 g3 with ⟨e, _⟩ | ⟨b, es, clock, m, _, e, hb, _, Fi, _⟩
    · simp only [List.cons.injEq, and_true] at e
      subst e
      exact ⟨fun _ => none, fun c s h => (by cases h), fun c h0 h1 W' _ => by simpa using Maps.look_nil (w := W') true lawI Tryz.underlying53 (zeroS _) (keyI h0 h1), ⟨0, fun W' ty _ => Maps.len_nil Tryz.underlying53 ty⟩, .inl rfl⟩
    · simp only [List.cons.injEq, and_true] at e
      subst e
      have hown := World.ownsMap_of_fit (R := plainElem Tryz.prog 9) hb Fi (fun x _ z hz => elemAt_plainElem_string Tryz.underlying9 hz)
      obtain ⟨nf, hnf⟩ := Classical.axiomOfChoice (look_n hown)
      exact ⟨nf, fun c => (hnf c).1, fun c => (hnf c).2, ⟨_, fun W' ty hB => (kept_below hown hB).len Tryz.underlying53 ty⟩, .inr ⟨H, b, _, _, rfl, hown⟩⟩
  obtain ⟨wf, hw1, hw2, hw3⟩ := hW
  have hi : ∃ i, c1 = .map i := by
    rcases hw3 with h | ⟨H, b, n, D, h, _⟩
    · exact ⟨_, h⟩
    · exact ⟨_, h⟩
  obtain ⟨nf, hn0, hn1, hn2, hn3⟩ := hN
  exact ⟨⟨wide, wf, miss, nf, l⟩, c1, c3, al, c, rfl, ⟨⟨fun W' hB c h0 h1 => hw1 c h0 h1 W' hB, fun W' hB c h0 h1 => hn1 c h0 h1 W' hB, hn0, hSp, hll⟩, hw2, hn2, hn3⟩, hw3, hi, by
    rcases hn3 with h | ⟨H, b, n, D, h, _⟩
    · exact ⟨_, h⟩
    · exact ⟨_, h⟩⟩
theorem cellsNm : Tryz.prog.cellsOf 58 = 6 := by kernel_rfl
theorem list6N {α : Type} {cs : List α} (h : cs.length = 6) : ∃ c0 c1 c2 c3 c4 c5, cs = [c0, c1, c2, c3, c4, c5] := by
  match cs, h with
  | [c0, c1, c2, c3, c4, c5], _ => exact ⟨c0, c1, c2, c3, c4, c5, rfl⟩
theorem trod_named (fuel : Nat) (cs : List Value) (x : DataW H × List MemPlace) (hl : cs.length = 6) (h : DataW.trod enc Tryz.prog W 0 (fun _ => true) true fuel 58 cs = some x) :
    ∃ n : Nm, cs = [.string n.s, .bool n.F.wide, .map n.i, .int .i64 n.F.miss, .map n.j, .slice n.al n.F.l.length n.cap] ∧ NmIn W n := by
  obtain ⟨xs, k, hn, hxx, hl', hlen, hx⟩ := DataW.trod_struct Tryz.underlying58 h
  obtain ⟨c0, c1, c2, c3, c4, c5, rfl⟩ := list6N hl
  have hxl : xs.length = 2 := hlen
  obtain ⟨y0, y1, rfl⟩ := list2 hxl
  have g0 : DataW.trod enc Tryz.prog W 0 (fun _ => true) true k 9 [c0] = some y0 := hx 0 _ rfl
  have g1 : DataW.trod enc Tryz.prog W 0 (fun _ => true) true k 56 [c1, c2, c3, c4, c5] = some y1 := hx 1 _ rfl
  obtain ⟨nm, q0, p0, hnm⟩ := DataW.trod_string Tryz.underlying9 g0
  obtain ⟨F, mw, mn, al, c, e, hF, hW, ⟨i, rfl⟩, ⟨j, rfl⟩⟩ := font_cells g1
  simp only [List.cons.injEq, and_true] at q0
  subst q0
  unfold ftV at e
  injection e with e
  have e' := congrArg Array.toList e
  simp at e'
  obtain ⟨rfl, rfl, rfl, rfl, rfl⟩ := e'
  exact ⟨⟨nm, F, i, j, al, c⟩, rfl, hF, hW, hnm⟩
theorem open_named {base : Nat} {v : Value} {d : DataW H} {p : List MemPlace} (hv : Value.okWide Tryz.prog W .any base 23 v) (h : DataW.Trod enc Tryz.prog W 0 (fun _ => true) true 23 v d p) :
    ∃ N, NmsAt W v N := by
  obtain ⟨a0, n0, c0, rfl⟩ := okWide_slice Tryz.underlying23 hv
  obtain ⟨fuel, hf⟩ := h
  obtain ⟨al, len, cap, es, q, hl, hlen, hbl, hL⟩ := trod_list Tryz.underlying23 cellsNm (by omega) hf
  have hL2 : ∀ i : Nat, ∃ n : Nm, ∀ y, es[i]? = some y → ∃ b off, al = some ⟨b, off, none⟩ ∧ b < W.heap.size ∧ W.cell? ⟨b, off + i * 6, none⟩ = some (.string n.s) ∧ W.cell? ⟨b, off + i * 6 + 1, none⟩ = some (.bool n.F.wide) ∧ W.cell? ⟨b, off + i * 6 + 2, none⟩ = some (.map n.i) ∧ W.cell? ⟨b, off + i * 6 + 3, none⟩ = some (.int .i64 n.F.miss) ∧ W.cell? ⟨b, off + i * 6 + 4, none⟩ = some (.map n.j) ∧ W.cell? ⟨b, off + i * 6 + 5, none⟩ = some (.slice n.al n.F.l.length n.cap) ∧ NmIn W n := fun i => by
    cases hi : es[i]? with
    | none => exact ⟨⟨ByteArray.empty, ⟨false, fun _ => none, 0, fun _ => none, []⟩, none, none, none, 0⟩, fun y h => by cases h⟩
    | some y =>
      obtain ⟨b, off, c, z1, z2, z3, z4, z5⟩ := hL i y hi
      obtain ⟨n, rfl, hn⟩ := trod_named _ c y z3 z5
      refine ⟨n, fun y' h => ?_⟩
      cases h
      exact ⟨b, off, z1, z2, z4 0 _ rfl, z4 1 _ rfl, z4 2 _ rfl, z4 3 _ rfl, z4 4 _ rfl, z4 5 _ rfl, hn⟩
  obtain ⟨gL, hgL⟩ := Classical.axiomOfChoice hL2
  injection q with q1 q2 q3
  subst q1 q2 q3
  have hget : ∀ (i : Nat) v, ((List.range n0).map gL)[i]? = some v → i < n0 ∧ v = gL i := fun i v hv => by
    simp only [List.getElem?_map, Option.map_eq_some_iff] at hv
    obtain ⟨j, hj, rfl⟩ := hv
    have hi := (List.getElem?_eq_some_iff.1 hj).1
    simp at hi
    have : j = i := by simpa [List.getElem?_range hi] using hj.symm
    subst this
    exact ⟨hi, rfl⟩
  refine ⟨(List.range n0).map gL, a0, c0, by simp, by simpa using hl, fun i o ho => ?_⟩
  obtain ⟨hi, rfl⟩ := hget i o ho
  exact hgL i _ (List.getElem?_eq_getElem (by omega))
end
end Go.Proofs.YtobpidmlgldnmaaGreatDoor

/-
  How many operators, and how many parts of their values, a bulk has.
-/
namespace Go.Proofs.YtobpidmlgldnmaaGreatDoor
open Go.RowKit
set_option maxRecDepth 100000
theorem opsBulk_len : ∀ (l : List OpP), l.length ≤ opsBulk l
  | [] => Nat.zero_le _
  | o :: r => by have := opsBulk_len r; rw [opsBulk, List.length_cons]; omega
theorem opsBulk_cnt {L : List OpP} {n : Nat} (h : opsBulk L ≤ n) : ∀ o ∈ L, ∀ v ∈ o.2, v.cnt ≤ n := fun o ho v hv => by
  have h1 := opsBulk_mem L o ho
  have h2 := bulkL_mem o.2 v hv
  have h3 := cnt_le_bulk v
  omega
end Go.Proofs.YtobpidmlgldnmaaGreatDoor

/-
  Operators that a law makes, in memory.
-/
namespace Go.Proofs.YtobpidmlgldnmaaGreatDoor
open Go.RowKit
set_option maxRecDepth 100000

def v0C (k n : Int) (s : ByteArray) : List Value := [.int .i64 k, .int .i64 n, .string s, .slice none 0 0, .slice none 0 0]
theorem rep_v0 (d : Nat) (w : World) (k n : Int) (s : ByteArray) (hs : s.size ≤ maxLen) : RepN (d + 1) w (V0 k n s) (v0C k n s) :=
  ⟨none, none, 0, 0, rfl, ⟨hs, Nat.zero_le _, Nat.zero_le _⟩, fun i x h => by simp [V0] at h, fun i q h => by simp [V0] at h⟩
/-- Values in a row of cells. -/
def rowC (l : List (V × List Value)) : List Value := l.flatMap (·.2)
theorem rowC_at : ∀ (l : List (V × List Value)), (∀ x ∈ l, x.2.length = 5) → ∀ (i : Nat) x, l[i]? = some x → ∀ j u, x.2[j]? = some u → (rowC l)[i * 5 + j]? = some u
  | [], _, i, x, h, j, u, _ => by simp at h
  | y :: l, hk, 0, x, h, j, u, hu => by
    simp at h; subst h
    have e : rowC (y :: l) = y.2 ++ rowC l := by simp [rowC]
    rw [e, Nat.zero_mul, Nat.zero_add, List.getElem?_append_left (List.getElem?_eq_some_iff.1 hu).1]
    exact hu
  | y :: l, hk, i + 1, x, h, j, u, hu => by
    have q := rowC_at l (fun x hx => hk x (List.mem_cons_of_mem _ hx)) i x (by simpa using h) j u hu
    have e : rowC (y :: l) = y.2 ++ rowC l := by simp [rowC]
    have hl : y.2.length = 5 := hk y (List.mem_cons_self)
    rw [e, List.getElem?_append_right (by rw [hl]; omega), hl, show (i + 1) * 5 + j - 5 = i * 5 + j by omega]
    exact q
/-- A list of values, in a block of its own. -/
theorem rep_row {d : Nat} {w : World} {b : Nat} {T : TypeId} {cs : Array Value} {c : Nat} (l : List (V × List Value)) (h : At w b T cs) (hc : cs = (rowC l).toArray) (h5 : ∀ x ∈ l, x.2.length = 5) (hr : ∀ x ∈ l, RepN d w x.1 x.2) (hn : l.length ≤ maxLen) : RepN (d + 1) w (listV5 (l.map (·.1))) (listC (.slice (some ⟨b, 0, none⟩) l.length c)) := by
  refine ⟨some ⟨b, 0, none⟩, none, c, 0, by unfold listC listV5; simp, ⟨by show eB.size ≤ maxLen; unfold eB maxLen; decide, by unfold listV5; simpa using hn, Nat.zero_le _⟩, fun i x hx => ?_, fun i q h => by simp [listV5] at h⟩
  have hx' : (l.map (·.1))[i]? = some x := hx
  rw [List.getElem?_map] at hx'
  cases hy : l[i]? with
  | none => rw [hy] at hx'; cases hx'
  | some y =>
    rw [hy] at hx'
    injection hx' with hx'
    subst hx'
    refine ⟨b, 0, y.2, rfl, h.lt, fun j u hu => ?_, hr y (List.mem_of_getElem? hy)⟩
    rw [h.cell, hc, Nat.zero_add]
    simpa using rowC_at l h5 i y hy j u hu
def opsC (l : List (OpP × Value)) : List Value := l.flatMap fun o => [.string o.1.1, o.2]
theorem opsC_at : ∀ (l : List (OpP × Value)) (i : Nat) x, l[i]? = some x → (opsC l)[i * 2]? = some (.string x.1.1) ∧ (opsC l)[i * 2 + 1]? = some x.2
  | [], i, x, h => by simp at h
  | y :: l, 0, x, h => by
    simp at h; subst h
    exact ⟨rfl, rfl⟩
  | y :: l, i + 1, x, h => by
    have q := opsC_at l i x (by simpa using h)
    have e : opsC (y :: l) = .string y.1.1 :: y.2 :: opsC l := rfl
    rw [e, show (i + 1) * 2 = i * 2 + 1 + 1 by omega, show i * 2 + 1 + 1 + 1 = (i * 2 + 1) + 1 + 1 by omega]
    simp only [List.getElem?_cons_succ]
    exact q
/-- Operators in a row that was made. -/
theorem ops_own {d : Nat} {w : World} {B : Nat} {v : Value} (l : List (OpP × Value)) (h : w.ownsRow B 41 2 v l.length (opsC l)) (hr : ∀ x ∈ l, x.1.1.size ≤ maxLen ∧ RepN d w (listV5 x.1.2) (listC x.2)) (hn : l.length ≤ maxLen) : OpsN d w v (l.map (·.1)) := by
  have hc := fun g => World.ownsRow.cells h (g := g)
  obtain ⟨_, ⟨rfl, h2⟩ | ⟨g, cap, cur, rfl, h2, h3, h4, _⟩⟩ := h
  · obtain rfl := List.eq_nil_of_length_eq_zero h2
    exact ⟨none, 0, rfl, Nat.zero_le _, fun i x hx => by simp at hx⟩
  · refine ⟨_, cap, by rw [List.length_map], by rw [List.length_map]; exact hn, fun i x hx => ?_⟩
    rw [List.getElem?_map] at hx
    cases hy : l[i]? with
    | none => rw [hy] at hx; cases hx
    | some y =>
      rw [hy] at hx
      injection hx with hx
      subst hx
      obtain ⟨q0, q1⟩ := opsC_at l i y hy
      have k0 := hc g rfl _ _ q0
      have k1 := hc g rfl _ _ q1
      rw [Lib.add_plain, Nat.zero_add] at k0 k1
      have hh := hr y (List.mem_of_getElem? hy)
      exact ⟨g, 0, y.2, rfl, (Array.getElem?_eq_some_iff.1 h3).1, by rw [Nat.zero_add]; exact k0, by rw [Nat.zero_add]; exact k1, hh.1, hh.2⟩
/-- What stands ahead of a string that is shown. -/
structure HeadAt (w : World) (a1 a2 a3 hb Hp : Nat) (n c z : Int) : Prop where
  h1 : At w a1 38 #[.int .i64 4, .int .i64 0, .string ⟨#[70]⟩, .slice none 0 0, .slice none 0 0, .int .i64 2, .int .i64 n, .string ⟨#[]⟩, .slice none 0 0, .slice none 0 0]
  h2 : At w a2 38 #[.int .i64 2, .int .i64 c, .string ⟨#[]⟩, .slice none 0 0, .slice none 0 0]
  h3 : At w a3 38 #[.int .i64 2, .int .i64 z, .string ⟨#[]⟩, .slice none 0 0, .slice none 0 0]
  h4 : At w hb 41 #[.string ⟨#[66, 84]⟩, .slice none 0 0, .string ⟨#[84, 102]⟩, .slice (some ⟨a1, 0, none⟩) 2 2, .string ⟨#[84, 99]⟩, .slice (some ⟨a2, 0, none⟩) 1 1, .string ⟨#[84, 122]⟩, .slice (some ⟨a3, 0, none⟩) 1 1]
  h5 : At w Hp 22 #[.slice (some ⟨hb, 0, none⟩) 4 4]
theorem HeadAt.later {w w' : World} {a1 a2 a3 hb Hp : Nat} {n c z : Int} (h : HeadAt w a1 a2 a3 hb Hp n c z) (b : Below w.heap.size w w') : HeadAt w' a1 a2 a3 hb Hp n c z := ⟨h.h1.later b, h.h2.later b, h.h3.later b, h.h4.later b, h.h5.later b⟩
end Go.Proofs.YtobpidmlgldnmaaGreatDoor

/-
  A row that a literal made.
-/
namespace Go.Proofs.YtobpidmlgldnmaaGreatDoor
open Go.RowKit
set_option maxRecDepth 100000

theorem lit_row {w : World} {B g n z : Nat} {T : TypeId} {cs : Array Value} (h : At w g T cs) (hB : B ≤ g) (hz : cs.size = n * z) (hn : n ≤ maxLen) : w.ownsRow B T z (.slice (some ⟨g, 0, none⟩) n n) n cs.toList := by
  refine ⟨by simpa using hz, .inr ⟨g, n, cs, rfl, hB, h, Nat.le_refl _, hn, hz, ?_⟩⟩
  rw [List.take_of_length_le (by simpa using Nat.le_of_eq hz)]
/-- Operators as a slice: their cells one behind the other. -/
theorem ops_cells {d : Nat} {w : World} {t : Value} {L : List OpP} (h : OpsN d w t L) : ∃ (a : Option Addr) (c : Nat) (X : List (OpP × Value)), t = .slice a L.length c ∧ X.map (·.1) = L ∧ (∀ x ∈ X, x.1.1.size ≤ maxLen ∧ RepN d w (listV5 x.1.2) (listC x.2)) ∧ (∀ (i : Nat) x, X[i]? = some x → ∃ b off, a = some ⟨b, off, none⟩ ∧ b < w.heap.size ∧ w.cell? ⟨b, off + i * 2, none⟩ = some (.string x.1.1) ∧ w.cell? ⟨b, off + i * 2 + 1, none⟩ = some x.2) := by
  obtain ⟨a, c, rfl, hl, hx⟩ := h
  have h2 : ∀ i : Nat, ∃ tA : Value, ∀ o, L[i]? = some o → ∃ b off, a = some ⟨b, off, none⟩ ∧ b < w.heap.size ∧ w.cell? ⟨b, off + i * 2, none⟩ = some (.string o.1) ∧ w.cell? ⟨b, off + i * 2 + 1, none⟩ = some tA ∧ o.1.size ≤ maxLen ∧ RepN d w (listV5 o.2) (listC tA) := fun i => by
    cases hi : L[i]? with
    | none => exact ⟨.nilIface, fun o h => by cases h⟩
    | some o =>
      obtain ⟨b, off, tA, q1, q2, q3, q4, q5, q6⟩ := hx i o hi
      exact ⟨tA, fun o' h => by cases h; exact ⟨b, off, q1, q2, q3, q4, q5, q6⟩⟩
  obtain ⟨f, hf⟩ := Classical.axiomOfChoice h2
  have hg : ∀ (i : Nat) x, (L.zipIdx.map fun p => (p.1, f p.2))[i]? = some x → L[i]? = some x.1 ∧ x.2 = f i := by
    intro i x hx
    rw [List.getElem?_map, List.getElem?_zipIdx] at hx
    cases hi : L[i]? with
    | none => rw [hi] at hx; cases hx
    | some o =>
      rw [hi] at hx
      simp at hx
      subst hx
      exact ⟨rfl, rfl⟩
  refine ⟨a, c, L.zipIdx.map fun p => (p.1, f p.2), rfl, ?_, fun x hx => ?_, fun i x hx => ?_⟩
  · rw [List.map_map]
    apply List.ext_getElem?
    intro i
    rw [List.getElem?_map, List.getElem?_zipIdx]
    cases L[i]? <;> simp
  · obtain ⟨i, hi⟩ := List.getElem?_of_mem hx
    obtain ⟨e1, e2⟩ := hg i x hi
    obtain ⟨b, off, _, _, _, _, q5, q6⟩ := hf i x.1 e1
    rw [e2]; exact ⟨q5, q6⟩
  · obtain ⟨e1, e2⟩ := hg i x hx
    obtain ⟨b, off, q1, q2, q3, q4, _, _⟩ := hf i x.1 e1
    rw [e2]; exact ⟨b, off, q1, q2, q3, q4⟩
end Go.Proofs.YtobpidmlgldnmaaGreatDoor

/-
  Numbers that are no great ones; a law's closure; what is told of a page that is moved along.
-/
namespace Go.Proofs.YtobpidmlgldnmaaGreatDoor
open Go.RowKit
set_option maxRecDepth 100000

def AllIn (l : List Int) : Prop := ∀ z ∈ l, -1000000 ≤ z ∧ z ≤ 1000000
theorem AllIn.snoc {l : List Int} {p : Nat} {z : Int} (h : AllIn (l.take p)) (ho : l[p]? = some z) (k : -1000000 ≤ z ∧ z ≤ 1000000) : AllIn (l.take (p + 1)) := by
  rw [List.take_add_one, ho]
  intro x hx
  rcases List.mem_append.1 hx with hx | hx
  · exact h x hx
  · simp at hx; rw [hx]; exact k
set_option maxHeartbeats 1000000 in
theorem small_in (l : List Int) (t : Value) (w : World) (hl : l.length ≤ 1000) (hI : IsAt w t l) : Calls Tryz.prog 9 #[t] w fun e w' => (e = .returned (.bool false) ∨ e = .returned (.bool true) ∧ AllIn l) ∧ Below w.heap.size w w' := by
  obtain ⟨a, c, rfl, hx⟩ := hI
  have HX := hid hx
  clear hx
  go_enter Tryz.func9, Tryz.ntmps9
  go_wp2_with fail
  go_loopw [3] (fun i wr => ∃ p : Nat, i = .int .i64 p ∧ p ≤ l.length ∧ AllIn (l.take p) ∧ Below w.heap.size w wr) (fun i _ => l.length - (intOf i).toNat)
  case atStart => exact ⟨0, rfl, Nat.zero_le _, fun z hz => by simp at hz, Below.refl _ _⟩
  case round =>
    obtain ⟨p, rfl, hp, hin, hB⟩ := hrel
    have HIN := hid hin
    clear hin
    by_cases hpl : p < l.length
    · have hpl' : (p : Int) < l.length := by omega
      obtain ⟨b, off, rfl, hbl, g⟩ := HX.out p l[p] (List.getElem?_eq_getElem hpl)
      have g := (hB.cell (p := ⟨b, off + p, none⟩) hbl).trans g
      have hb2 := Nat.lt_of_lt_of_le hbl hB.size
      have HZ := hid (List.getElem?_eq_getElem hpl)
      generalize l[p] = z at *
      by_cases h1 : z < -1000000
      · go_wp2_with fail
        go_ret
        exact ⟨.inl rfl, hB⟩
      · by_cases h2 : (1000000 : Int) < z
        · go_wp2_with fail
          go_ret
          exact ⟨.inl rfl, hB⟩
        · go_wp2_with fail
          go_roundw
          case rel => exact ⟨p + 1, by go_num, by omega, HIN.out.snoc HZ.out ⟨by omega, by omega⟩, hB⟩
          case measure => simp [intOf]; omega
    · have hpl' : ¬ (p : Int) < l.length := by omega
      go_wp2_with fail
      go_ret
      have h0 := HIN.out
      rw [List.take_of_length_le (by omega)] at h0
      exact ⟨.inr ⟨rfl, h0⟩, hB⟩
theorem numS_says (n : Int) (w : World) : Calls Tryz.prog 11 #[.int .i64 n] w fun e w' => e = .returned (.agg #[.int .i64 2, .int .i64 n, .string ⟨#[]⟩, .slice none 0 0, .slice none 0 0]) ∧ Below w.heap.size w w' := by
  go_enter Tryz.func11, Tryz.ntmps11
  go_wp2
  refine bodyPost_ret (v := .agg #[.int .i64 2, .int .i64 n, .string ⟨#[]⟩, .slice none 0 0, .slice none 0 0]) (by simp [results, Tryz.results11, go_sem]) rfl ⟨rfl, by go_grown⟩
end Go.Proofs.YtobpidmlgldnmaaGreatDoor

/-
  Operators whose values may be.
-/
namespace Go.Proofs.YtobpidmlgldnmaaGreatDoor
open Go.RowKit
set_option maxRecDepth 100000

theorem shp_ok {v : V} (h : v.Shp) : v.s.size ≤ 1000 ∧ ∀ u ∈ v.l, u.s.size ≤ 1000 := by
  rw [shp_eq] at h
  refine ⟨Nat.le_trans (own_s h.1) (by omega), fun u hu => ?_⟩
  obtain ⟨i, hi⟩ := List.getElem?_of_mem hu
  have := (shpL_iff v.l).1 h.2.1 i u hi
  rw [shp_eq] at this
  exact Nat.le_trans (own_s this.1) (by omega)
theorem fault_shp {v : V} (h : faultV v = 0) : v.Shp := by
  unfold faultV at h
  split at h
  · cases h
  · split at h
    · assumption
    · cases h
/-- Operators whose values may be. -/
def GoodL (L : List OpP) : Prop := ∀ o ∈ L, okA o.2
theorem GoodL.snoc {L : List OpP} {p : Nat} {o : OpP} (h : GoodL (L.take p)) (ho : L[p]? = some o) (k : okA o.2) : GoodL (L.take (p + 1)) := by
  rw [List.take_add_one, ho]
  intro x hx
  rcases List.mem_append.1 hx with hx | hx
  · exact h x hx
  · simp at hx; rw [hx]; exact k
theorem okA_snoc {A : List V} {p : Nat} {v : V} (h : okA (A.take p)) (ho : A[p]? = some v) (k : faultV v = 0) : okA (A.take (p + 1)) := by
  rw [List.take_add_one, ho]
  intro x hx
  rcases List.mem_append.1 hx with hx | hx
  · exact h x hx
  · simp at hx; rw [hx]; exact shp_ok (fault_shp k)
theorem fault_23 (v : V) : faultV v = 0 ∨ errN (faultV v) = .iface 68 (.int .i64 2) ∨ errN (faultV v) = .iface 68 (.int .i64 3) := by
  unfold faultV
  split
  · exact .inr (.inl rfl)
  · split
    · exact .inl rfl
    · exact .inr (.inr rfl)
set_option maxHeartbeats 4000000 in
theorem good_says (d : Nat) (L : List OpP) (t : Value) (w : World) (hL : OpsN d w t L) (hc : ∀ o ∈ L, ∀ v ∈ o.2, v.cnt ≤ 1048576) :
    Calls Tryz.prog 8 #[t] w fun e w' => (e = .returned (.bool false) ∨ e = .returned (.bool true) ∧ GoodL L) ∧ Below w.heap.size w w' := by
  have HL := hid (lightOps_any d L t w hL)
  obtain ⟨a, c, rfl, hl, hx⟩ := hL
  unfold maxLen at hl
  have HX := hid hx
  have HC := hid hc
  clear hx hc
  go_enter Tryz.func8, Tryz.ntmps8
  go_wp2_with (go_at_call 21; fail)
  go_at_call 21
  refine HL.out.mono ?_
  rintro e w1 ⟨⟨r, rfl⟩, hb⟩
  have B1 := hid hb
  clear hb HL
  cases r with
  | false =>
    go_wp2_with fail
    go_ret
    exact ⟨.inl rfl, B1.out⟩
  | true =>
    go_wp2_with fail
    go_loopw [3] (fun i wr => ∃ (p : Nat) , i = .int .i64 p ∧ p ≤ L.length ∧ GoodL (L.take p) ∧ Below w.heap.size w wr) (fun i _ => L.length - (intOf i).toNat)
    case atStart => exact ⟨0, rfl, Nat.zero_le _, fun o ho => by simp at ho, B1.out⟩
    case round =>
      obtain ⟨p, rfl, hp, hok, hB⟩ := hrel
      have HO := hid hok
      have HB := hid hB
      clear hok
      by_cases hpl : p < L.length
      · have hpl' : (p : Int) < L.length := by omega
        obtain ⟨o, ho⟩ : ∃ o, L[p]? = some o := ⟨L[p], by simp [hpl]⟩
        have HG := hid ho
        obtain ⟨b, off, tA, rfl, hb, m0, m1, hsz, hr⟩ := HX.out p o ho
        obtain ⟨a2, c2, rfl, hl2, hx2⟩ := rep_list hr
        unfold maxLen at hl2
        have HX2 := hid hx2
        have M1 := hid m1
        have HBB := hid hb
        have m1 := (hB.cell (p := ⟨b, off + p * 2 + 1, none⟩) hb).trans m1
        have hb2 := Nat.lt_of_lt_of_le hb hB.size
        clear ho hr hx2 m0 hsz hb
        go_wp2_with fail
        go_loopw [4] (fun k wx => ∃ (q : Nat), k = .int .i64 q ∧ q ≤ o.2.length ∧ okA (o.2.take q) ∧ Below w.heap.size w wx) (fun k _ => o.2.length - (intOf k).toNat)
        case atStart => exact ⟨0, rfl, Nat.zero_le _, fun v hv => by simp at hv, HB.out⟩
        case round =>
          obtain ⟨q, rfl, hq, hoq, hBq⟩ := hrel
          have HOQ := hid hoq
          have HBQ := hid hBq
          have n1 := (hBq.cell (p := ⟨b, off + p * 2 + 1, none⟩) HBB.out).trans M1.out
          have nb := Nat.lt_of_lt_of_le HBB.out hBq.size
          clear hoq m1 hb2
          by_cases hql : q < o.2.length
          · have hql' : (q : Int) < o.2.length := by omega
            obtain ⟨x, hx⟩ : ∃ x, o.2[q]? = some x := ⟨o.2[q], by simp [hql]⟩
            have HX3 := hid hx
            obtain ⟨b3, off3, cs, rfl, hb3, hc3, hr3⟩ := HX2.out q x hx
            have HR3 := hid (hr3.later hBq)
            obtain ⟨e', he'⟩ := hr3.inv
            have hr4 := hr3
            rw [he'] at hr4
            obtain ⟨al, af, cl, cf, rfl, _⟩ := hr4
            have hc4 := hc3.later hb3 hBq
            have hb4 := Nat.lt_of_lt_of_le hb3 hBq.size
            have k0 := hc4 0 _ rfl
            have k1 := hc4 1 _ rfl
            have k2 := hc4 2 _ rfl
            have k3 := hc4 3 _ rfl
            have k4 := hc4 4 _ rfl
            simp only [Nat.add_zero] at k0
            clear hx hr3 hc3 hc4 hb3 he'
            go_wp2_with (go_at_call 22; fail)
            go_at_call 22
            refine (check_says HR3.out (HC.out o (List.mem_of_getElem? HG.out) x (List.mem_of_getElem? HX3.out))).mono ?_
            rintro e w2 ⟨rfl, hb5⟩
            have HB5 := hid (chn0 hBq hb5)
            clear hb5 k0 k1 k2 k3 k4 n1
            rcases fault_23 x with hf | hf | hf
            · have HF := hid hf
              rw [hf, errN_0]
              clear hf
              go_wp2_with fail
              go_roundw
              case rel => exact ⟨q + 1, by go_num, by omega, okA_snoc HOQ.out HX3.out HF.out, HB5.out⟩
              case measure => simp [intOf]; omega
            · rw [hf]
              clear hf
              go_wp2_with fail
              go_ret
              exact ⟨.inl rfl, HB5.out⟩
            · rw [hf]
              clear hf
              go_wp2_with fail
              go_ret
              exact ⟨.inl rfl, HB5.out⟩
          · have hql' : ¬ (q : Int) < o.2.length := by omega
            have hqe : q = o.2.length := by omega
            subst hqe
            have h0 := HOQ.out
            rw [List.take_length] at h0
            have HE := hid h0
            clear h0
            go_wp2_with fail
            go_roundw
            case rel => exact ⟨p + 1, by go_num, by omega, HO.out.snoc HG.out HE.out, HBQ.out⟩
            case measure => simp [intOf]; omega
      · have hpl' : ¬ (p : Int) < L.length := by omega
        have hpe : p = L.length := by omega
        subst hpe
        have h0 := HO.out
        rw [List.take_length] at h0
        have HE := hid h0
        clear h0
        go_wp2_with fail
        go_ret
        exact ⟨.inr ⟨rfl, HE.out⟩, HB.out⟩
end Go.Proofs.YtobpidmlgldnmaaGreatDoor

/-
  A page that is moved along: operators with one more ahead of them.
-/
namespace Go.Proofs.YtobpidmlgldnmaaGreatDoor
open Go.RowKit
set_option maxRecDepth 100000

theorem OpsN.mono {d d' : Nat} {w : World} {t : Value} {L : List OpP} (h : OpsN d w t L) (hd : d ≤ d') : OpsN d' w t L := by
  obtain ⟨a, c, h1, h2, h3⟩ := h
  refine ⟨a, c, h1, h2, fun i o ho => ?_⟩
  obtain ⟨b, off, tA, q1, q2, q3, q4, q5, q6⟩ := h3 i o ho
  exact ⟨b, off, tA, q1, q2, q3, q4, q5, q6.mono hd⟩
theorem run_app_nil {w : World} (base : Nat) (ty e : TypeId) (i : TypeInfo) (size c : Nat) (t : TypeId) (ht : Tryz.prog.underlying t = some (.slice e)) (hi : Tryz.prog.info? e = some i)
    (v : Value) (n : Nat) (xs : List Value) (hown : w.ownsRow base e size v n xs) : (Builtin.append_ #[t, t] ty #[v, .slice none 0 c]).run Tryz.prog w = .ok v w := by
  rcases hown.2 with ⟨rfl, rfl⟩ | ⟨g, cap, cur, rfl, _, _, hnc, _⟩
  · simp [Builtin.append_, run_underlying ht, sizeOf, typeInfo, hi, Builtin.lenOf, Builtin.firstCells]
  · simp [Builtin.append_, run_underlying ht, sizeOf, typeInfo, hi, Builtin.lenOf, Builtin.firstCells, hnc, storeCells]
theorem opsC_len (l : List (OpP × Value)) : (opsC l).length = l.length * 2 := by
  induction l with
  | nil => rfl
  | cons x l ih => simp only [opsC, List.flatMap_cons, List.length_append, List.length_cons, List.length_nil] at *; omega
theorem opsC_one (l : List (OpP × Value)) (h : ∀ x ∈ l, x.2.oneCell' = true) : ∀ u ∈ opsC l, u.oneCell' = true := by
  intro u hu
  simp only [opsC, List.mem_flatMap] at hu
  obtain ⟨x, hx, hu⟩ := hu
  simp at hu
  rcases hu with rfl | rfl
  · rfl
  · exact h x hx
theorem listC_one {d : Nat} {w : World} {l : List V} {t : Value} (h : RepN d w (listV5 l) (listC t)) : ∃ a n c, t = .slice a n c := by
  cases d with
  | zero => exact absurd h (by simp [RepN])
  | succ d =>
    obtain ⟨al, af, cl, cf, e, _⟩ := h
    unfold listC at e
    injection e with _ e
    injection e with _ e
    injection e with _ e
    injection e with e _
    exact ⟨_, _, _, e⟩
section
variable {W0 : World} {ops : Array Oper} {rest : List Oper} {o : Oper} {act : Act} {Q : Exit → Act → World → Prop}
theorem wpAppOps (hgd : o.guard = none) (s x : Operand) (ho : o.op = .call { callee := .builtin .append, args := #[s, x], argTypes := #[22, 22] })
    (d : Nat) (L : List OpP) (t : Value) (n0 : ByteArray) (A0 : List V) (t0 : Value) (hs : act.eval s = .slice (some ⟨W0.heap.size, 0, none⟩) 1 1) (hx : act.eval x = t) (hO : OpsN d W0 t L) (h0 : n0.size ≤ maxLen) (hr0 : RepN d W0 (listV5 A0) (listC t0)) (hl : L.length ≤ 1048576)
    (h : ∀ v' w', OpsN d w' v' ((n0, A0) :: L) → Below W0.heap.size W0 w' → wpList Tryz.prog ops Q rest (act.put o.dst v') w') :
    wpList Tryz.prog ops Q (o :: rest) act (W0.alloc (.cells #[.string n0, t0] 41)) := by
  obtain ⟨iV, hiV, hv0, hv1, hv2⟩ := info_parts infoOp
  have O1 : (W0.alloc (.cells #[.string n0, t0] 41)).ownsRow W0.heap.size 41 2 (.slice (some ⟨W0.heap.size, 0, none⟩) 1 1) 1 [.string n0, t0] := lit_row (At.new W0 #[.string n0, t0] 41 rfl) (Nat.le_refl _) rfl (by unfold maxLen; omega)
  have bA : Below W0.heap.size W0 (W0.alloc (.cells #[.string n0, t0] 41)) := (Below.refl _ _).alloc (Nat.le_refl _) _
  obtain ⟨a, c, X, rfl, hX, hXr, hXc⟩ := ops_cells hO
  have hXl : X.length = L.length := by rw [← hX, List.length_map]
  have one : ∀ x ∈ X, x.2.oneCell' = true := fun x hx => by
    obtain ⟨_, _, _, e⟩ := listC_one (hXr x hx).2
    rw [e]; rfl
  have fin : ∀ v' w', w'.ownsRow W0.heap.size 41 2 v' (1 + L.length) ([.string n0, t0] ++ opsC X) → Below W0.heap.size W0 w' → OpsN d w' v' ((n0, A0) :: L) := fun v' w' q1 q2 => by
    have e : ((n0, A0) :: L) = (((n0, A0), t0) :: X).map (·.1) := by rw [List.map_cons, hX]
    rw [e]
    refine ops_own _ (B := W0.heap.size) ?_ (fun y hy => ?_) ?_
    · rw [List.length_cons, hXl, Nat.add_comm]; exact q1
    · rcases List.mem_cons.1 hy with rfl | hy
      · exact ⟨h0, hr0.later q2⟩
      · exact ⟨(hXr y hy).1, (hXr y hy).2.later q2⟩
    · rw [List.length_cons, hXl]; unfold maxLen; omega
  cases a with
  | none =>
    have hX0 : X = [] := by
      cases X with
      | nil => rfl
      | cons y X => obtain ⟨b, off, e, _⟩ := hXc 0 y rfl; cases e
    have hL0 : L.length = 0 := by rw [← hXl, hX0]; rfl
    have hrun := run_app_nil W0.heap.size o.type 41 iV 2 c 22 Tryz.underlying22 hiV _ _ _ O1
    rw [hL0] at hx
    refine wpList_plain hgd fun K hK => ?_
    unfold Oper.wp execOp
    simp only [ho, resolve, invoke, builtin, Sem.run_bind, Sem.run_pure, Result.andThen_ok, List.map_toArray, List.map_cons, List.map_nil, hs, hx, hrun]
    exact hK _ _ (h _ _ (fin _ _ (by rw [hL0, hX0]; exact O1) bA) bA)
  | some ad =>
    have hcells : ∀ (j : Nat) u, (opsC X)[j]? = some u → (W0.alloc (.cells #[.string n0, t0] 41)).cell? (ad.add j) = some u := fun j u hj => by
      have hj2 := (List.getElem?_eq_some_iff.1 hj).1
      rw [opsC_len] at hj2
      have hi : j / 2 < X.length := by omega
      obtain ⟨b, off, e, hb, k0, k1⟩ := hXc (j / 2) X[j / 2] (List.getElem?_eq_getElem hi)
      injection e with e
      subst e
      obtain ⟨m0, m1⟩ := opsC_at X (j / 2) X[j / 2] (List.getElem?_eq_getElem hi)
      rw [Lib.add_plain, bA.cell (p := ⟨b, off + j, none⟩) hb]
      rcases Nat.mod_two_eq_zero_or_one j with q | q
      · have ej : j = j / 2 * 2 := by omega
        rw [ej] at hj ⊢
        rw [m0] at hj
        rw [← hj]; exact k0
      · have ej : j = j / 2 * 2 + 1 := by omega
        rw [ej] at hj ⊢
        rw [m1] at hj
        rw [← hj]; exact k1
    refine wpList_append_own_at (P := Tryz.prog) _ hgd s x _ ho W0.heap.size _ iV _ 2 40 Tryz.underlying22 hiV hv0 hv1 hv2 rfl (by decide) _ 1 _ hs O1 ad L.length c (opsC X) hx (by rw [opsC_len, hXl]) hcells (opsC_one X one) (by unfold maxLen; omega) (by omega) bA.size ?_
    intro v' w' O2 g2 _ _
    have b2 : Below W0.heap.size W0 w' := bA.grown g2 bA.size (fun j hj => (O1.lt j hj).1)
    exact h v' w' (fin v' w' O2 b2) b2
end
end Go.Proofs.YtobpidmlgldnmaaGreatDoor

/-
  A closed page is shown beside a map of fonts.
-/
namespace Go.Proofs.YtobpidmlgldnmaaGreatDoor
open Go.RowKit Go.WideMaps Go.Maps
set_option maxRecDepth 100000

set_option maxHeartbeats 4000000 in
theorem shows_map (m : Int) (mb k : Nat) (D : DataW Value) (w : World) (hG : Gr m w) (hT : Tb w) (hM : w.ownsMap Tryz.prog 9 heldR mb k D) (hk : k ≤ 5) : Calls Tryz.prog 7 #[.map (some mb)] w fun e w' => e = .returned (.bool true) ∧ Below w.heap.size w w' := by
  have HM := hid hM
  have hsz := hM.size_le
  clear hM
  have hp := parseS m qS w hG (by decide)
  rw [page_fact] at hp
  unfold ParseSaid qS at hp
  simp only at hp
  rw [errN_0] at hp
  have hmm := @run_makeMap Tryz.prog
  go_enter Tryz.func7, Tryz.ntmps7
  go_wp2_with (go_at_call 20; go_must (refine hp.mono ?_); rintro e w1 ⟨t, rfl, hb1, HO⟩)
  have HT := hid hT
  have B1 := hid hb1
  clear hp hG hT hb1
  have o0 : (w1.alloc (.map #[] 0)).ownsMap Tryz.prog 9 heldR w1.heap.size 0 (.map []) := World.ownsMap_made _ _ _ _
  have b0 : Below w1.heap.size w1 (w1.alloc (.map #[] 0)) := (Below.refl _ _).alloc (Nat.le_refl _) _
  obtain ⟨v1, h1, o1, g1⟩ := o0.update lawS Tryz.underlying24 (by unfold maxLen; decide) (key := .string ⟨#[70]⟩) (keyOf_string_mk Tryz.underlying9 (by unfold maxLen; decide)) (val := x500.v) rfl
  have b1 := b0.grown g1 b0.size (fun j hj => by cases hj; exact Nat.le_refl _)
  have HO1 := hid o1
  have HB1 := hid b1
  have d0 := HO.out.later b1
  have HD := hid d0
  obtain ⟨a, c, rfl, _, _⟩ := d0
  unfold FnC.v x500 at h1
  clear o0 b0 o1 g1 b1 HO
  go_wp2_with (go_at_call 10; fail)
  go_at_call 10
  have hpg := page_says sg500 (ffOne qF x500) _ qO _ (some w1.heap.size) v1 HD.out qO_ok (fun K h hf => fonts_one qF x500 ⟨_, _, _, _, _, rfl, rfl, rfl⟩ hf (by rw [h]; exact HO1.out)) (fun K h s x hx => by
    unfold ffOne at hx
    split at hx
    · injection hx with hx
      rw [← hx]
      exact sig_of (F := F500) (i := none) (j := none) (al := none) (cap := 0) sg500 (fun s => rfl) (ft500 _) (by rw [h]; exact HT.out.below (chn0 B1.out HB1.out)) (by decide)
    · cases hx)
  obtain ⟨q, hq, hq1⟩ := page_plain
  rw [hq] at hpg
  refine hpg.mono ?_
  rintro e w2 ⟨⟨_, tG, B, rfl, _, hown⟩, hb2⟩
  obtain ⟨aG, cG, rfl⟩ := own_sliceO hown
  rw [hq1]
  have B2 := hid (chn0 (chn0 B1.out HB1.out) hb2)
  have hln := fun ty => (kept_below HM.out B2.out).len Tryz.underlying24 ty
  have hlt : (Maps.size D : Int) < 100 := by omega
  clear hown hb2 hpg hq hq1
  go_wp2_with fail
  go_ret
  exact ⟨rfl, B2.out⟩
/-- Fonts of several names. -/
noncomputable def ffN (N : List Nm) (s : ByteArray) : Option FnC := open Classical in (N.reverse.find? (fun n => decide (n.s = s))).map Nm.x
noncomputable def sgN (N : List Nm) (x : FnC) (s : ByteArray) : Ex (List Sp) := open Classical in match N.find? (fun n => decide (n.x = x)) with
  | some n => sgR n.F s
  | none => .error 0
theorem nmD_map (N : List Nm) : IsMap (nmD N) := by
  have : ∀ (l : List Nm) (D : DataW Value), IsMap D → IsMap (l.foldl (fun D n => D.put (.string n.s.data.toList) (.held n.x.v)) D) := by
    intro l
    induction l with
    | nil => intro D h; exact h
    | cons a l ih => intro D h; exact ih _ (isMap_putH h _ _)
  exact this N _ ⟨[], rfl⟩
theorem nmD_look : ∀ (N : List Nm) (s : ByteArray), (∃ n, n ∈ N ∧ ffN N s = some n.x ∧ Maps.has (nmD N) (.string s.data.toList) = true ∧ (nmD N).atKey (.string s.data.toList) (.held fnt0) = .held n.x.v) ∨ (ffN N s = none ∧ Maps.has (nmD N) (.string s.data.toList) = false) := by
  intro N s
  rw [← List.reverse_reverse N]
  generalize N.reverse = R
  induction R with
  | nil => exact .inr ⟨rfl, rfl⟩
  | cons n R ih =>
    rw [List.reverse_cons]
    generalize R.reverse = N at ih ⊢
    rw [nmD_snoc]
    unfold ffN at ih ⊢
    rw [List.reverse_append]
    by_cases h : n.s = s
    · subst h
      refine .inl ⟨n, by simp, ?_, has_put_same (nmD_map N) (keyLit _) _, atKey_put_same (nmD_map N) (keyLit _) _ _⟩
      simp
    · have hne : Lit.string s.data.toList ≠ Lit.string n.s.data.toList := fun e => h (ba_ext (by injection e with e; exact e.symm))
      rw [has_put_other hne, atKey_put_other hne]
      have e : (List.find? (fun n' => decide (n'.s = s)) ([n].reverse ++ N.reverse)) = List.find? (fun n' => decide (n'.s = s)) N.reverse := by
        simp [h]
      rw [e]
      rcases ih with ⟨n', h1, h2, h3, h4⟩ | h1
      · exact .inl ⟨n', by simp [h1], h2, h3, h4⟩
      · exact .inr h1
theorem fonts_many {K : Pk} {mb m : Nat} (N : List Nm) (hfm : K.fm = .map (some mb)) (hO : K.w0.ownsMap Tryz.prog 9 heldR mb m (nmD N)) : FontsAt K (ffN N) := by
  refine fonts_at hfm hO _ (fun s => ?_)
  rcases nmD_look N s with ⟨n, _, h2, h3, h4⟩ | h
  · exact .inl ⟨n.x, h2, ⟨_, _, _, _, _, rfl, rfl, rfl⟩, h3, h4⟩
  · exact .inr h
theorem sig_many {K : Pk} (N : List Nm) (hN : ∀ n ∈ N, NmIn K.w0 n) (hT : Tb K.w0) (hf : ∀ n ∈ N, spFault n.F.l n.F.wide = 0) (s : ByteArray) (x : FnC) (hx : ffN N s = some x) : SigOk K (sgN N) x := by
  rcases nmD_look N s with ⟨n, hn, h2, _, _⟩ | h
  · rw [hx] at h2
    injection h2 with h2
    subst h2
    cases hf' : N.find? (fun n' => open Classical in decide (n'.x = n.x)) with
    | none => exact absurd (List.find?_eq_none.1 hf' n hn) (by simp)
    | some n' =>
      have e : n'.x = n.x := by have := List.find?_some hf'; simpa using this
      have hm := List.mem_of_find?_eq_some hf'
      rw [← e]
      exact sig_of (F := n'.F) (sgN N) (fun s => by
        show sgN N n'.x s = _
        unfold sgN
        rw [e, hf']) (hN n' hm).1.at_ hT (hf n' hm)
  · rw [hx] at h; cases h.1
end Go.Proofs.YtobpidmlgldnmaaGreatDoor

/-
  A page that is moved along, plainly.
-/
namespace Go.Proofs.YtobpidmlgldnmaaGreatDoor
open Go.RowKit
set_option maxRecDepth 100000

def mv (x y : Int) (m : M6) : M6 := ⟨m.a, m.b, m.c, m.d, m.e + x, m.f + y⟩
theorem lin_val {a x c y e : Int} (h : linE a x c y e = 0) : linN a x c y e = (a * x + c * y) / 1000 + e := by
  unfold linE at h
  unfold linN
  split at h
  · rename_i q; rw [if_pos q]
  · cases h
theorem co_all {a b c d e f A B C D E F : Int} (h : coE a b c d e f A B C D E F = 0) : linE a A b C 0 = 0 ∧ linE a B b D 0 = 0 ∧ linE c A d C 0 = 0 ∧ linE c B d D 0 = 0 ∧ linE e A f C E = 0 ∧ linE e B f D F = 0 := by
  unfold coE at h
  split at h
  · assumption
  · cases h
theorem con_mv (x y : Int) {m n r : M6} (h : conX m n = .ok r) : conX m (mv x y n) = .ok (mv x y r) ∨ conX m (mv x y n) = .error 1 := by
  unfold conX at h ⊢
  split at h
  · rename_i h0
    injection h with h
    split
    · rename_i h1
      left
      have q0 := co_all h0
      have q1 := co_all h1
      rw [← h]
      unfold mv
      simp only [mv] at q1
      congr 2
      · rw [lin_val q1.2.2.2.2.1, lin_val q0.2.2.2.2.1]; dsimp only; omega
      · rw [lin_val q1.2.2.2.2.2, lin_val q0.2.2.2.2.2]; dsimp only; omega
    · exact .inr rfl
  · cases h
theorem app_mv (x y : Int) {m : M6} {u v : Int} {q : Int × Int} (h : appX m u v = .ok q) : appX (mv x y m) u v = .ok (q.1 + x, q.2 + y) ∨ appX (mv x y m) u v = .error 1 := by
  have al : ∀ {a b c d e f x y : Int}, apE a b c d e f x y = 0 → linE a x c y e = 0 ∧ linE b x d y f = 0 := by
    intro a b c d e f x y h
    unfold apE at h
    split at h
    · assumption
    · cases h
  unfold appX at h ⊢
  split at h
  · rename_i h0
    injection h with h
    split
    · rename_i h1
      left
      have q0 := al h0
      have q1 := al h1
      rw [← h]
      unfold apX apY
      rw [if_pos h0, if_pos h1, if_pos h0, if_pos h1]
      simp only [mv] at q1 ⊢
      rw [lin_val q1.1, lin_val q0.1, lin_val q1.2, lin_val q0.2]
      congr 2 <;> omega
    · exact .inr rfl
  · cases h
def mvS (x y : Int) (s : StP) : StP := { s with m := mv x y s.m }
def mvG (x y : Int) (g : Gl) : Gl := ⟨g.s, g.ax + x, g.ay + y, g.ex + x, g.ey + y, g.sz, g.x0 + x, g.y0 + y, g.x1 + x, g.y1 + y⟩
def mvP (x y : Int) (p : PS) : PS := { p with now := mvS x y p.now, saved := p.saved.map (mvS x y), out := p.out.map (mvG x y) }
theorem place_mv (x y : Int) {s : StP} {t r : M6} (h : placeX s t = .ok r) : placeX (mvS x y s) t = .ok (mv x y r) ∨ placeX (mvS x y s) t = .error 1 := by
  unfold placeX at h ⊢
  obtain ⟨a, h1, h⟩ := bindX h
  obtain ⟨m, h2, h⟩ := bindX h
  show ((mulX s.size s.scale).bind fun a => (conX ⟨a, 0, 0, s.size, 0, s.rise⟩ t).bind fun m => conX m (mv x y s.m)) = _ ∨ ((mulX s.size s.scale).bind fun a => (conX ⟨a, 0, 0, s.size, 0, s.rise⟩ t).bind fun m => conX m (mv x y s.m)) = _
  rw [h1]
  show ((conX ⟨a, 0, 0, s.size, 0, s.rise⟩ t).bind fun m => conX m (mv x y s.m)) = _ ∨ ((conX ⟨a, 0, 0, s.size, 0, s.rise⟩ t).bind fun m => conX m (mv x y s.m)) = _
  rw [h2]
  exact con_mv x y h
theorem mins (x a b c d : Int) : min (min (min (a + x) (b + x)) (c + x)) (d + x) = min (min (min a b) c) d + x := by omega
theorem maxs (x a b c d : Int) : max (max (max (a + x) (b + x)) (c + x)) (d + x) = max (max (max a b) c) d + x := by omega
theorem glyph_mv (x y : Int) {m : M6} {g : Sp} {r : Gl} (h : glyphX m g = .ok r) : glyphX (mv x y m) g = .ok (mvG x y r) ∨ glyphX (mv x y m) g = .error 1 := by
  unfold glyphX at h ⊢
  obtain ⟨p0, h0, h⟩ := bindX h
  obtain ⟨p1, h1, h⟩ := bindX h
  obtain ⟨p2, h2, h⟩ := bindX h
  obtain ⟨p3, h3, h⟩ := bindX h
  injection h with h
  rcases app_mv x y h0 with q | q
  · rw [q]
    rcases app_mv x y h1 with q | q
    · show ((appX (mv x y m) g.t 0).bind _) = _ ∨ ((appX (mv x y m) g.t 0).bind _) = _
      rw [q]
      rcases app_mv x y h2 with q | q
      · show ((appX (mv x y m) 0 1000).bind _) = _ ∨ ((appX (mv x y m) 0 1000).bind _) = _
        rw [q]
        rcases app_mv x y h3 with q | q
        · show ((appX (mv x y m) g.t 1000).bind _) = _ ∨ ((appX (mv x y m) g.t 1000).bind _) = _
          rw [q]
          left
          rw [← h]
          unfold mvG minX minY maxX maxY
          simp only [Except.bind, List.foldl]
          rw [mins, mins, maxs, maxs]
        · show ((appX (mv x y m) g.t 1000).bind _) = _ ∨ ((appX (mv x y m) g.t 1000).bind _) = _
          rw [q]; exact .inr rfl
      · show ((appX (mv x y m) 0 1000).bind _) = _ ∨ ((appX (mv x y m) 0 1000).bind _) = _
        rw [q]; exact .inr rfl
    · show ((appX (mv x y m) g.t 0).bind _) = _ ∨ ((appX (mv x y m) g.t 0).bind _) = _
      rw [q]; exact .inr rfl
  · rw [q]; exact .inr rfl
/-- r' is r moved along, or out of bounds. -/
def Mvd (x y : Int) (r r' : Ex PS) : Prop := ∀ p, r = .ok p → r' = .ok (mvP x y p) ∨ r' = .error 1
theorem Mvd.bind {x y : Int} {r r' : Ex PS} {f : PS → Ex PS} (h : Mvd x y r r') (k : ∀ p, Mvd x y (f p) (f (mvP x y p))) : Mvd x y (r.bind f) (r'.bind f) := by
  intro p hp
  obtain ⟨a, h1, h2⟩ := bindX hp
  rcases h a h1 with q | q
  · rw [q]; exact k a p h2
  · rw [q]; exact .inr rfl
theorem sign_mv (x y : Int) (p : PS) (g : Sp) : Mvd x y (signX p g) (signX (mvP x y p) g) := by
  intro p' h
  unfold signX at h ⊢
  split at h
  · cases h
  · rename_i hl
    rw [if_neg (by show ¬ 1000 ≤ (p.out.map (mvG x y)).length; rw [List.length_map]; exact hl)]
    obtain ⟨m, h1, h⟩ := bindX h
    obtain ⟨gl, h2, h⟩ := bindX h
    obtain ⟨a, h3, h⟩ := bindX h
    obtain ⟨t, h4, h⟩ := bindX h
    injection h with h
    show ((placeX (mvS x y p.now) p.t).bind _) = _ ∨ ((placeX (mvS x y p.now) p.t).bind _) = _
    rcases place_mv x y h1 with q | q
    · rw [q]
      show ((glyphX (mv x y m) g).bind _) = _ ∨ ((glyphX (mv x y m) g).bind _) = _
      rcases glyph_mv x y h2 with q | q
      · rw [q]
        show ((advX p.now g).bind _) = _ ∨ ((advX p.now g).bind _) = _
        rw [h3]
        show ((alongX a 0 p.t).bind _) = _ ∨ ((alongX a 0 p.t).bind _) = _
        rw [h4]
        left
        rw [← h]
        unfold mvP
        simp [Except.bind, mvS, mvG]
      · rw [q]; exact .inr rfl
    · rw [q]; exact .inr rfl
theorem signs_mv (x y : Int) : ∀ (l : List Sp) (p : PS), Mvd x y (signsX p l) (signsX (mvP x y p) l)
  | [], p => fun q h => by injection h with h; rw [← h]; exact .inl rfl
  | g :: l, p => by unfold signsX; exact (sign_mv x y p g).bind fun q => signs_mv x y l q
theorem show_mv (x y : Int) (sg : FnC → ByteArray → Ex (List Sp)) (p : PS) (s : ByteArray) : Mvd x y (showX sg p s) (showX sg (mvP x y p) s) := by
  intro q h
  unfold showX at h ⊢
  split at h
  · rename_i hh
    rw [if_pos (show (mvP x y p).now.has = true ∧ (mvP x y p).inn = true from hh)]
    obtain ⟨l, h1, h2⟩ := bindX h
    show ((sg p.now.x s).bind _) = _ ∨ ((sg p.now.x s).bind _) = _
    rw [h1]
    exact signs_mv x y l p q h2
  · cases h
theorem back_mv (x y : Int) (p : PS) (n : Int) : Mvd x y (bckX p n) (bckX (mvP x y p) n) := by
  intro q h
  unfold bckX at h ⊢
  obtain ⟨a, h1, h⟩ := bindX h
  obtain ⟨b, h2, h⟩ := bindX h
  show ((mulX (wrap64 (-n)) p.now.size).bind _) = _ ∨ ((mulX (wrap64 (-n)) p.now.size).bind _) = _
  rw [h1]
  show ((mulX a p.now.scale).bind _) = _ ∨ ((mulX a p.now.scale).bind _) = _
  rw [h2]
  unfold textX at h
  obtain ⟨t, h3, h⟩ := bindX h
  injection h with h
  left
  show ((alongX b 0 p.t).bind _) = _
  rw [h3, ← h]
  rfl
theorem prt_mv (x y : Int) (sg : FnC → ByteArray → Ex (List Sp)) (p : PS) (v : V) : Mvd x y (prtX sg p v) (prtX sg (mvP x y p) v) := by
  unfold prtX
  split
  · exact show_mv x y sg p v.s
  · split
    · exact back_mv x y p _
    · intro q h; cases h
theorem prts_mv (x y : Int) (sg : FnC → ByteArray → Ex (List Sp)) : ∀ (l : List V) (p : PS), Mvd x y (prtsX sg p l) (prtsX sg (mvP x y p) l)
  | [], p => fun q h => by injection h with h; rw [← h]; exact .inl rfl
  | v :: l, p => by unfold prtsX; exact (prt_mv x y sg p v).bind fun q => prts_mv x y sg l q
theorem line_mv (x y : Int) (p : PS) (u v : Int) : Mvd x y (lineX p u v) (lineX (mvP x y p) u v) := by
  intro q h
  unfold lineX at h ⊢
  obtain ⟨m, h1, h⟩ := bindX h
  injection h with h
  left
  show ((alongX u v p.l).bind _) = _
  rw [h1, ← h]
  rfl
theorem set1_mv (x y : Int) (p : PS) (A : List V) : Mvd x y (set1X p A) (set1X (mvP x y p) A) := by
  intro q h
  unfold set1X at h ⊢
  split at h
  · injection h with h
    left
    rw [← h]; rfl
  · cases h
  · cases h
theorem set2_mv (x y : Int) (p : PS) (A : List V) : Mvd x y (set2X p A) (set2X (mvP x y p) A) := by
  intro q h
  unfold set2X at h ⊢
  split at h
  · injection h with h
    left
    rw [← h]; rfl
  · cases h
  · cases h
theorem set3_mv (x y : Int) (p : PS) (A : List V) : Mvd x y (set3X p A) (set3X (mvP x y p) A) := by
  intro q h
  unfold set3X at h ⊢
  split at h
  · injection h with h
    left
    rw [← h]; rfl
  · cases h
  · cases h
theorem set4_mv (x y : Int) (p : PS) (A : List V) : Mvd x y (set4X p A) (set4X (mvP x y p) A) := by
  intro q h
  unfold set4X at h ⊢
  split at h
  · injection h with h
    left
    rw [← h]; rfl
  · cases h
  · cases h
theorem set5_mv (x y : Int) (p : PS) (A : List V) : Mvd x y (set5X p A) (set5X (mvP x y p) A) := by
  intro q h
  unfold set5X at h ⊢
  split at h
  · injection h with h
    left
    rw [← h]; rfl
  · cases h
  · cases h
theorem save_mv (x y : Int) (p : PS) (A : List V) : Mvd x y (saveX p A) (saveX (mvP x y p) A) := by
  intro q h
  unfold saveX at h ⊢
  split at h
  · cases h
  · rename_i h8
    split at h
    · rename_i h0
      injection h with h
      left
      rw [if_neg (by show ¬ 8 ≤ (p.saved.map (mvS x y)).length; rw [List.length_map]; exact h8), if_pos h0, ← h]
      unfold mvP
      simp
    · cases h
theorem take_mv (x y : Int) (p : PS) (A : List V) : Mvd x y (takeX p A) (takeX (mvP x y p) A) := by
  intro q h
  unfold takeX at h ⊢
  show (match (p.saved.map (mvS x y)).getLast? with | none => _ | some s => _) = _ ∨ (match (p.saved.map (mvS x y)).getLast? with | none => _ | some s => _) = _
  rw [List.getLast?_map]
  split at h
  · cases h
  · rename_i s hs
    rw [hs]
    split at h
    · rename_i h0
      injection h with h
      left
      show (if A.length = 0 then _ else _) = _
      rw [if_pos h0, ← h]
      unfold mvP
      simp [List.map_dropLast]
    · cases h
theorem page_mv (x y : Int) (p : PS) (A : List V) : Mvd x y (pageX p A) (pageX (mvP x y p) A) := by
  intro q h
  unfold pageX at h ⊢
  obtain ⟨m, h1, h⟩ := bindX h
  obtain ⟨r, h2, h⟩ := bindX h
  injection h with h
  rw [h1]
  show ((conX m (mv x y p.now.m)).bind _) = _ ∨ ((conX m (mv x y p.now.m)).bind _) = _
  rcases con_mv x y h2 with q | q
  · rw [q]; left; rw [← h]; rfl
  · rw [q]; exact .inr rfl
theorem turn_mv (x y : Int) (p : PS) (on : Bool) (A : List V) : Mvd x y (turnX p on A) (turnX (mvP x y p) on A) := by
  intro q h
  unfold turnX at h ⊢
  split at h
  · cases h
  · rename_i h1
    split at h
    · rename_i h0
      injection h with h
      left
      rw [if_neg (show ¬ (mvP x y p).inn = on from h1), if_pos h0, ← h]; rfl
    · cases h
theorem choose_mv (x y : Int) (ff : ByteArray → Option FnC) (p : PS) (A : List V) : Mvd x y (chooseX ff p A) (chooseX ff (mvP x y p) A) := by
  intro q h
  unfold chooseX at h ⊢
  split at h
  · split at h
    · rename_i h4
      split at h
      · rename_i h2
        split at h
        · rename_i z hz
          injection h with h
          left
          simp only [h4, h2, if_true]
          rw [← h]; rfl
        · cases h
      · cases h
    · cases h
  · cases h
theorem move_mv (x y : Int) (p : PS) (A : List V) : Mvd x y (moveX p A) (moveX (mvP x y p) A) := by
  intro q h
  unfold moveX at h ⊢
  obtain ⟨a, h1, h⟩ := bindX h
  rw [h1]
  exact line_mv x y p a.1 a.2 q h
theorem lead_mv (x y : Int) (p : PS) (A : List V) : Mvd x y (leadX p A) (leadX (mvP x y p) A) := by
  intro q h
  unfold leadX at h ⊢
  obtain ⟨a, h1, h⟩ := bindX h
  rw [h1]
  exact line_mv x y { p with now := { p.now with lead := wrap64 (-a.2) } } a.1 a.2 q h
theorem put_mv (x y : Int) (p : PS) (A : List V) : Mvd x y (putX p A) (putX (mvP x y p) A) := by
  intro q h
  unfold putX at h ⊢
  obtain ⟨a, h1, h⟩ := bindX h
  injection h with h
  rw [h1]
  left
  rw [← h]; rfl
theorem next_mv (x y : Int) (p : PS) (A : List V) : Mvd x y (nextX p A) (nextX (mvP x y p) A) := by
  unfold nextX
  split
  · exact line_mv x y p _ _
  · intro q h; cases h
theorem str_mv (x y : Int) (sg : FnC → ByteArray → Ex (List Sp)) (p : PS) (A : List V) : Mvd x y (strX sg p A) (strX sg (mvP x y p) A) := by
  intro q h
  unfold strX at h ⊢
  obtain ⟨a, h1, h⟩ := bindX h
  rw [h1]
  exact show_mv x y sg p a.s q h
theorem nxt_mv (x y : Int) (sg : FnC → ByteArray → Ex (List Sp)) (p : PS) (A : List V) : Mvd x y (nxtX sg p A) (nxtX sg (mvP x y p) A) := by
  intro q h
  unfold nxtX at h ⊢
  obtain ⟨a, h1, h⟩ := bindX h
  rw [h1]
  exact (next_mv x y p []).bind (fun r => show_mv x y sg r a.s) q h
theorem lst_mv (x y : Int) (sg : FnC → ByteArray → Ex (List Sp)) (p : PS) (A : List V) : Mvd x y (lstX sg p A) (lstX sg (mvP x y p) A) := by
  intro q h
  unfold lstX at h ⊢
  obtain ⟨a, h1, h⟩ := bindX h
  rw [h1]
  exact prts_mv x y sg a.l p q h
theorem step_mv (x y : Int) (sg : FnC → ByteArray → Ex (List Sp)) (ff : ByteArray → Option FnC) (p : PS) (s : ByteArray) (A : List V) : Mvd x y (stepX sg ff p s A) (stepX sg ff (mvP x y p) s A) := by
  unfold stepX
  by_cases h0 : s = ⟨#[84, 99]⟩
  · rw [if_pos h0, if_pos h0]; exact set1_mv x y p A
  rw [if_neg h0, if_neg h0]
  by_cases h1 : s = ⟨#[84, 119]⟩
  · rw [if_pos h1, if_pos h1]; exact set2_mv x y p A
  rw [if_neg h1, if_neg h1]
  by_cases h2 : s = ⟨#[84, 122]⟩
  · rw [if_pos h2, if_pos h2]; exact set3_mv x y p A
  rw [if_neg h2, if_neg h2]
  by_cases h3 : s = ⟨#[84, 76]⟩
  · rw [if_pos h3, if_pos h3]; exact set4_mv x y p A
  rw [if_neg h3, if_neg h3]
  by_cases h4 : s = ⟨#[84, 115]⟩
  · rw [if_pos h4, if_pos h4]; exact set5_mv x y p A
  rw [if_neg h4, if_neg h4]
  by_cases h5 : s = ⟨#[113]⟩
  · rw [if_pos h5, if_pos h5]; exact save_mv x y p A
  rw [if_neg h5, if_neg h5]
  by_cases h6 : s = ⟨#[81]⟩
  · rw [if_pos h6, if_pos h6]; exact take_mv x y p A
  rw [if_neg h6, if_neg h6]
  by_cases h7 : s = ⟨#[99, 109]⟩
  · rw [if_pos h7, if_pos h7]; exact page_mv x y p A
  rw [if_neg h7, if_neg h7]
  by_cases h8 : s = ⟨#[66, 84]⟩
  · rw [if_pos h8, if_pos h8]; exact turn_mv x y p true A
  rw [if_neg h8, if_neg h8]
  by_cases h9 : s = ⟨#[69, 84]⟩
  · rw [if_pos h9, if_pos h9]; exact turn_mv x y p false A
  rw [if_neg h9, if_neg h9]
  by_cases h10 : s = ⟨#[84, 102]⟩
  · rw [if_pos h10, if_pos h10]; exact choose_mv x y ff p A
  rw [if_neg h10, if_neg h10]
  by_cases h11 : s = ⟨#[84, 100]⟩
  · rw [if_pos h11, if_pos h11]; exact move_mv x y p A
  rw [if_neg h11, if_neg h11]
  by_cases h12 : s = ⟨#[84, 68]⟩
  · rw [if_pos h12, if_pos h12]; exact lead_mv x y p A
  rw [if_neg h12, if_neg h12]
  by_cases h13 : s = ⟨#[84, 109]⟩
  · rw [if_pos h13, if_pos h13]; exact put_mv x y p A
  rw [if_neg h13, if_neg h13]
  by_cases h14 : s = ⟨#[84, 42]⟩
  · rw [if_pos h14, if_pos h14]; exact next_mv x y p A
  rw [if_neg h14, if_neg h14]
  by_cases h15 : s = ⟨#[84, 106]⟩
  · rw [if_pos h15, if_pos h15]; exact str_mv x y sg p A
  rw [if_neg h15, if_neg h15]
  by_cases h16 : s = ⟨#[39]⟩
  · rw [if_pos h16, if_pos h16]; exact nxt_mv x y sg p A
  rw [if_neg h16, if_neg h16]
  by_cases h17 : s = ⟨#[84, 74]⟩
  · rw [if_pos h17, if_pos h17]; exact lst_mv x y sg p A
  rw [if_neg h17, if_neg h17]
  intro q h
  injection h with h
  rw [← h]; exact .inl rfl
/-- A page that is moved along has the same glyphs, moved along. -/
theorem steps_mv (x y : Int) (sg : FnC → ByteArray → Ex (List Sp)) (ff : ByteArray → Option FnC) : ∀ (L : List OpP) (p : PS), Mvd x y (stepsX sg ff p L) (stepsX sg ff (mvP x y p) L)
  | [], p => fun q h => by injection h with h; rw [← h]; exact .inl rfl
  | o :: L, p => by unfold stepsX; exact (step_mv x y sg ff p o.1 o.2).bind fun q => steps_mv x y sg ff L q
end Go.Proofs.YtobpidmlgldnmaaGreatDoor

/-
  A page that is moved along: with the operator that moves it.
-/
namespace Go.Proofs.YtobpidmlgldnmaaGreatDoor
open Go.RowKit
set_option maxRecDepth 100000

def nCm : ByteArray := ⟨#[99, 109]⟩
def opM (x y : Int) : OpP := (nCm, [V0 2 1000 eB, V0 2 0 eB, V0 2 0 eB, V0 2 1000 eB, V0 2 x eB, V0 2 y eB])
theorem okF_in {n : Int} (h : -1000000 ≤ n ∧ n ≤ 1000000) : okF n = true := by unfold okF; simp; omega
theorem cm_unit {x y : Int} (hx : -1000000 ≤ x ∧ x ≤ 1000000) (hy : -1000000 ≤ y ∧ y ≤ 1000000) : conX ⟨1000, 0, 0, 1000, x, y⟩ unit6 = .ok (mv x y unit6) := by
  have e1 : (x * 1000 + y * 0) / 1000 + 0 = x := by omega
  have e2 : (x * 0 + y * 1000) / 1000 + 0 = y := by omega
  have k0 : okF 0 = true := by decide
  have k1 : okF 1000 = true := by decide
  have h1 : linE 1000 1000 0 0 0 = 0 := by decide
  have h2 : linE 1000 0 0 1000 0 = 0 := by decide
  have h3 : linE 0 1000 1000 0 0 = 0 := by decide
  have h4 : linE 0 0 1000 1000 0 = 0 := by decide
  have h5 : linE x 1000 y 0 0 = 0 := by unfold linE; rw [e1, okF_in hx, okF_in hy, k0, k1]; rfl
  have h6 : linE x 0 y 1000 0 = 0 := by unfold linE; rw [e2, okF_in hx, okF_in hy, k0, k1]; rfl
  unfold conX unit6
  have hc : coE 1000 0 0 1000 x y 1000 0 0 1000 0 0 = 0 := by unfold coE; rw [if_pos ⟨h1, h2, h3, h4, h5, h6⟩]
  rw [if_pos hc]
  dsimp only
  rw [lin_val h1, lin_val h2, lin_val h3, lin_val h4, lin_val h5, lin_val h6, e1, e2]
  unfold mv
  simp
theorem stepX_cm (sg : FnC → ByteArray → Ex (List Sp)) (ff : ByteArray → Option FnC) (p : PS) (A : List V) : stepX sg ff p nCm A = pageX p A := by
  unfold stepX nCm
  rw [if_neg (by decide), if_neg (by decide), if_neg (by decide), if_neg (by decide), if_neg (by decide), if_neg (by decide), if_neg (by decide), if_pos rfl]
/-- A page that is moved along has the same glyphs, moved along, or is out of bounds, or too much. -/
theorem shift_plain {x y : Int} (hx : -1000000 ≤ x ∧ x ≤ 1000000) (hy : -1000000 ≤ y ∧ y ≤ 1000000) (sg : FnC → ByteArray → Ex (List Sp)) (ff : ByteArray → Option FnC) (L : List OpP) (p : PS) (h : pageR sg ff L = .ok p) :
    pageR sg ff (opM x y :: L) = .ok (mvP x y p) ∨ pageR sg ff (opM x y :: L) = .error 1 ∨ pageR sg ff (opM x y :: L) = .error 2 := by
  unfold pageR at h ⊢
  split at h
  · cases h
  · by_cases h2 : 2000 < (opM x y :: L).length
    · rw [if_pos h2]; exact .inr (.inr rfl)
    · rw [if_neg h2]
      have e : stepX sg ff ps0 (opM x y).1 (opM x y).2 = .ok (mvP x y ps0) := by
        show stepX sg ff ps0 nCm [V0 2 1000 eB, V0 2 0 eB, V0 2 0 eB, V0 2 1000 eB, V0 2 x eB, V0 2 y eB] = _
        rw [stepX_cm]
        unfold pageX
        have em : matX [V0 2 1000 eB, V0 2 0 eB, V0 2 0 eB, V0 2 1000 eB, V0 2 x eB, V0 2 y eB] = .ok ⟨1000, 0, 0, 1000, x, y⟩ := by
          unfold matX numsX
          rw [if_pos ⟨rfl, fun v hv => by
            simp only [List.mem_cons, List.not_mem_nil, or_false] at hv
            rcases hv with rfl | rfl | rfl | rfl | rfl | rfl <;> rfl⟩]
          rfl
        rw [em]
        show ((conX ⟨1000, 0, 0, 1000, x, y⟩ unit6).bind _) = _
        rw [cm_unit hx hy]
        rfl
      have hm := steps_mv x y sg ff L ps0 p h
      simp only [stepsX]
      rw [e]
      show stepsX sg ff (mvP x y ps0) L = _ ∨ stepsX sg ff (mvP x y ps0) L = _ ∨ stepsX sg ff (mvP x y ps0) L = _
      rcases hm with q | q
      · exact .inl q
      · exact .inr (.inl q)
end Go.Proofs.YtobpidmlgldnmaaGreatDoor

/-
  Glyphs of a page stand within bounds.
-/
namespace Go.Proofs.YtobpidmlgldnmaaGreatDoor
open Go.RowKit
set_option maxRecDepth 100000

def In9 (n : Int) : Prop := -1000000000 ≤ n ∧ n ≤ 1000000000
theorem okF_9 {n : Int} (h : okF n = true) : In9 n := by unfold okF at h; simp at h; exact h
theorem lin_9 {a x c y e : Int} (h : linE a x c y e = 0) : In9 (linN a x c y e) := by
  rw [lin_val h]
  unfold linE at h
  split at h
  · rename_i q
    simp only [Bool.and_eq_true] at q
    exact okF_9 q.2
  · cases h
theorem app_9 {m : M6} {u v : Int} {q : Int × Int} (h : appX m u v = .ok q) : In9 q.1 ∧ In9 q.2 := by
  unfold appX at h
  split at h
  · rename_i h0
    injection h with h
    have al : linE m.a u m.c v m.e = 0 ∧ linE m.b u m.d v m.f = 0 := by
      unfold apE at h0
      split at h0
      · assumption
      · cases h0
    rw [← h]
    unfold apX apY
    rw [if_pos h0, if_pos h0]
    exact ⟨lin_9 al.1, lin_9 al.2⟩
  · cases h
structure GlOk (g : Gl) : Prop where
  ax : In9 g.ax
  ay : In9 g.ay
  ex : In9 g.ex
  ey : In9 g.ey
  x0 : In9 g.x0
  y0 : In9 g.y0
  x1 : In9 g.x1
  y1 : In9 g.y1
theorem min_9 {a b c d : Int} (h0 : In9 a) (h1 : In9 b) (h2 : In9 c) (h3 : In9 d) : In9 (min (min (min a b) c) d) := by unfold In9 at *; omega
theorem max_9 {a b c d : Int} (h0 : In9 a) (h1 : In9 b) (h2 : In9 c) (h3 : In9 d) : In9 (max (max (max a b) c) d) := by unfold In9 at *; omega
theorem glyph_9 {m : M6} {g : Sp} {r : Gl} (h : glyphX m g = .ok r) : GlOk r := by
  unfold glyphX at h
  obtain ⟨p0, h0, h⟩ := bindX h
  obtain ⟨p1, h1, h⟩ := bindX h
  obtain ⟨p2, h2, h⟩ := bindX h
  obtain ⟨p3, h3, h⟩ := bindX h
  injection h with h
  have a0 := app_9 h0
  have a1 := app_9 h1
  have a2 := app_9 h2
  have a3 := app_9 h3
  rw [← h]
  exact ⟨a0.1, a0.2, a1.1, a1.2, min_9 a0.1 a1.1 a2.1 a3.1, min_9 a0.2 a1.2 a2.2 a3.2, max_9 a0.1 a1.1 a2.1 a3.1, max_9 a0.2 a1.2 a2.2 a3.2⟩
def OutOk (p : PS) : Prop := ∀ g ∈ p.out, GlOk g
theorem OutOk.of {p q : PS} (h : OutOk p) (e : q.out = p.out) : OutOk q := by unfold OutOk; rw [e]; exact h
theorem sign_9 {p q : PS} {g : Sp} (h : signX p g = .ok q) (k : OutOk p) : OutOk q := by
  unfold signX at h
  split at h
  · cases h
  · obtain ⟨m, _, h⟩ := bindX h
    obtain ⟨gl, h2, h⟩ := bindX h
    obtain ⟨_, _, h⟩ := bindX h
    obtain ⟨_, _, h⟩ := bindX h
    injection h with h
    rw [← h]
    intro x hx
    rcases List.mem_append.1 hx with hx | hx
    · exact k x hx
    · simp at hx
      have a := glyph_9 h2
      rw [hx]
      exact ⟨a.ax, a.ay, a.ex, a.ey, a.x0, a.y0, a.x1, a.y1⟩
theorem signs_9 : ∀ (l : List Sp) {p q : PS}, signsX p l = .ok q → OutOk p → OutOk q
  | [], p, q, h, k => by injection h with h; rw [← h]; exact k
  | g :: l, p, q, h, k => by
    unfold signsX at h
    obtain ⟨r, h1, h2⟩ := bindX h
    exact signs_9 l h2 (sign_9 h1 k)
theorem show_9 {sg : FnC → ByteArray → Ex (List Sp)} {p q : PS} {s : ByteArray} (h : showX sg p s = .ok q) (k : OutOk p) : OutOk q := by
  unfold showX at h
  split at h
  · obtain ⟨l, _, h⟩ := bindX h
    exact signs_9 l h k
  · cases h
theorem prts_9 {sg : FnC → ByteArray → Ex (List Sp)} : ∀ (l : List V) {p q : PS}, prtsX sg p l = .ok q → OutOk p → OutOk q
  | [], p, q, h, k => by injection h with h; rw [← h]; exact k
  | v :: l, p, q, h, k => by
    unfold prtsX at h
    obtain ⟨r, h1, h2⟩ := bindX h
    refine prts_9 l h2 ?_
    unfold prtX at h1
    split at h1
    · exact show_9 h1 k
    · split at h1
      · exact k.of (back_same h1).2
      · cases h1
theorem step_9 {sg : FnC → ByteArray → Ex (List Sp)} {ff : ByteArray → Option FnC} {p q : PS} {s : ByteArray} {A : List V} (h : stepX sg ff p s A = .ok q) (k : OutOk p) : OutOk q := by
  unfold stepX at h
  by_cases h0 : s = ⟨#[84, 99]⟩
  · rw [if_pos h0] at h
    unfold set1X at h
    split at h
    · injection h with h
      rw [← h]; exact k
    · cases h
    · cases h
  rw [if_neg h0] at h
  by_cases h1 : s = ⟨#[84, 119]⟩
  · rw [if_pos h1] at h
    unfold set2X at h
    split at h
    · injection h with h
      rw [← h]; exact k
    · cases h
    · cases h
  rw [if_neg h1] at h
  by_cases h2 : s = ⟨#[84, 122]⟩
  · rw [if_pos h2] at h
    unfold set3X at h
    split at h
    · injection h with h
      rw [← h]; exact k
    · cases h
    · cases h
  rw [if_neg h2] at h
  by_cases h3 : s = ⟨#[84, 76]⟩
  · rw [if_pos h3] at h
    unfold set4X at h
    split at h
    · injection h with h
      rw [← h]; exact k
    · cases h
    · cases h
  rw [if_neg h3] at h
  by_cases h4 : s = ⟨#[84, 115]⟩
  · rw [if_pos h4] at h
    unfold set5X at h
    split at h
    · injection h with h
      rw [← h]; exact k
    · cases h
    · cases h
  rw [if_neg h4] at h
  by_cases h5 : s = ⟨#[113]⟩
  · rw [if_pos h5] at h
    unfold saveX at h
    split at h
    · cases h
    · split at h
      · injection h with h
        rw [← h]; exact k
      · cases h
  rw [if_neg h5] at h
  by_cases h6 : s = ⟨#[81]⟩
  · rw [if_pos h6] at h
    unfold takeX at h
    split at h
    · cases h
    · split at h
      · injection h with h
        rw [← h]; exact k
      · cases h
  rw [if_neg h6] at h
  by_cases h7 : s = ⟨#[99, 109]⟩
  · rw [if_pos h7] at h
    unfold pageX at h
    obtain ⟨_, _, h⟩ := bindX h
    obtain ⟨_, _, h⟩ := bindX h
    injection h with h
    rw [← h]; exact k
  rw [if_neg h7] at h
  by_cases h8 : s = ⟨#[66, 84]⟩
  · rw [if_pos h8] at h
    unfold turnX at h
    split at h
    · cases h
    · split at h
      · injection h with h
        rw [← h]; exact k
      · cases h
  rw [if_neg h8] at h
  by_cases h9 : s = ⟨#[69, 84]⟩
  · rw [if_pos h9] at h
    unfold turnX at h
    split at h
    · cases h
    · split at h
      · injection h with h
        rw [← h]; exact k
      · cases h
  rw [if_neg h9] at h
  by_cases h10 : s = ⟨#[84, 102]⟩
  · rw [if_pos h10] at h
    unfold chooseX at h
    split at h
    · split at h
      · split at h
        · split at h
          · injection h with h
            rw [← h]; exact k
          · cases h
        · cases h
      · cases h
    · cases h
  rw [if_neg h10] at h
  by_cases h11 : s = ⟨#[84, 100]⟩
  · rw [if_pos h11] at h
    unfold moveX at h
    obtain ⟨_, _, h⟩ := bindX h
    exact k.of (line_same h).2.2.1
  rw [if_neg h11] at h
  by_cases h12 : s = ⟨#[84, 68]⟩
  · rw [if_pos h12] at h
    unfold leadX at h
    obtain ⟨_, _, h⟩ := bindX h
    exact k.of (line_same h).2.2.1
  rw [if_neg h12] at h
  by_cases h13 : s = ⟨#[84, 109]⟩
  · rw [if_pos h13] at h
    unfold putX at h
    obtain ⟨_, _, h⟩ := bindX h
    injection h with h
    rw [← h]; exact k
  rw [if_neg h13] at h
  by_cases h14 : s = ⟨#[84, 42]⟩
  · rw [if_pos h14] at h
    unfold nextX at h
    split at h
    · exact k.of (line_same h).2.2.1
    · cases h
  rw [if_neg h14] at h
  by_cases h15 : s = ⟨#[84, 106]⟩
  · rw [if_pos h15] at h
    unfold strX at h
    obtain ⟨_, _, h⟩ := bindX h
    exact show_9 h k
  rw [if_neg h15] at h
  by_cases h16 : s = ⟨#[39]⟩
  · rw [if_pos h16] at h
    unfold nxtX at h
    obtain ⟨_, _, h⟩ := bindX h
    obtain ⟨_, h1, h⟩ := bindX h
    unfold nextX at h1
    rw [if_pos (by rfl)] at h1
    exact show_9 h (k.of (line_same h1).2.2.1)
  rw [if_neg h16] at h
  by_cases h17 : s = ⟨#[84, 74]⟩
  · rw [if_pos h17] at h
    unfold lstX at h
    obtain ⟨_, _, h⟩ := bindX h
    exact prts_9 _ h k
  rw [if_neg h17] at h
  injection h with h
  rw [← h]; exact k
theorem steps_9 {sg : FnC → ByteArray → Ex (List Sp)} {ff : ByteArray → Option FnC} : ∀ (L : List OpP) {p q : PS}, stepsX sg ff p L = .ok q → OutOk p → OutOk q
  | [], p, q, h, k => by injection h with h; rw [← h]; exact k
  | o :: L, p, q, h, k => by
    unfold stepsX at h
    obtain ⟨r, h1, h2⟩ := bindX h
    exact steps_9 L h2 (step_9 h1 k)
/-- Glyphs of a page stand within bounds. -/
theorem page_9 {sg : FnC → ByteArray → Ex (List Sp)} {ff : ByteArray → Option FnC} {L : List OpP} {p : PS} (h : pageR sg ff L = .ok p) : OutOk p := by
  unfold pageR at h
  split at h
  · cases h
  · exact steps_9 L h (fun g hg => by simp [ps0] at hg)
end Go.Proofs.YtobpidmlgldnmaaGreatDoor
