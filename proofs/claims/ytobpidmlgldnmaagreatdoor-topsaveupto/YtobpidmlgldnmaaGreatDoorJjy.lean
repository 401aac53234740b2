/-
  Joined: Va, Vs, Vh, Vo, Ok, Vb, Op, Or, Os, Jp, Jw, Ji, Jt, Js, Jo, Ju, Jh, Jm, Jn, Jq, Jj.
-/
import Derived.Test.YtobpidmlgldnmaaGreatDoorRows
import Derived.Test.YtobpidmlgldnmaaGreatDoorVh
import Derived.WalkKit
import Derived.ProofKit
import Derived.Deep.Slices
import Derived.Lib.SmallJoins
import Derived.Test.YtobpidmlgldnmaaGreatDoorFa
import Derived.RowKit
import Derived.IntWalk
import Derived.WalkSpells
import Derived.WalkLawsBesides
import Derived.Handy
import Derived.Test.YtobpidmlgldnmaaGreatDoorKb
import Derived.Laws.Rows
import Derived.Laws.Tables
import Derived.Deep.RegionWith
import Derived.Deep.CutRange
import Derived.Deep.CutBlock
import Derived.BigRegion
import Derived.Test.YtobpidmlgldnmaaGreatDoorPt
import Derived.Deep.QuietTactic
import Derived.BigQuiet
import Derived.Lib.ItoaMem
import Derived.Lib.Bytealg
import Derived.Lib.ItoaLen
import Derived.Test.YtobpidmlgldnmaaGreatDoorShelf
import Derived.Test.YtobpidmlgldnmaaGreatDoorFe
import Derived.Lib.IndexMore
import Derived.PlainAid
import Derived.Test.YtobpidmlgldnmaaGreatDoorFh
import Derived.Test.YtobpidmlgldnmaaGreatDoorRa
import Derived.Test.YtobpidmlgldnmaaGreatDoorYd
import Derived.Test.YtobpidmlgldnmaaGreatDoorVe
import Derived.Test.YtobpidmlgldnmaaGreatDoorVo
import Derived.Test.YtobpidmlgldnmaaGreatDoorYa
import Derived.Test.YtobpidmlgldnmaaGreatDoorAq
import Derived.Lib.OthersKept
import Derived.Lib.AppendStr
import Derived.Maps.AppendAt
import Derived.RegionTactic
import Derived.Laws.OwnMore
import Derived.OneCell
import Derived.Deep.RegionLaw
import Derived.Deep.DrawnRows
import Derived.Test.YtobpidmlgldnmaaGreatDoorYg
import Derived.Test.YtobpidmlgldnmaaGreatDoorYj
import Derived.Lib.AtoiAllCases
import Derived.Lib.ItoaNum
import Derived.Lib.AtoiErrMem
import Derived.Test.YtobpidmlgldnmaaGreatDoorVy
import Derived.Deep.RegionHeld3
import Derived.Laws.EntriesVeiled
import Derived.Test.YtobpidmlgldnmaaGreatDoorVc3
import Derived.Deep.AppendLies
import Derived.Deep.LoopGhost
import Derived.WalkSmall
import Derived.Test.YtobpidmlgldnmaaGreatDoorVd3
import Derived.Test.YtobpidmlgldnmaaGreatDoorYm
import Derived.Test.YtobpidmlgldnmaaGreatDoorYp
import Derived.Test.YtobpidmlgldnmaaGreatDoorVe1
import Derived.Shelf.Spec.SlicesInsert
import Derived.Shelf.Spec.SlicesInsertGrow
import Derived.Test.YtobpidmlgldnmaaGreatDoorYt
import Derived.Test.YtobpidmlgldnmaaGreatDoorYua
import Derived.Test.YtobpidmlgldnmaaGreatDoorYx
import Derived.Test.YtobpidmlgldnmaaGreatDoorVj
import Derived.Test.YtobpidmlgldnmaaGreatDoorYy
import Derived.Test.YtobpidmlgldnmaaGreatDoorOc
import Derived.Lib.AppendIntMem
import Derived.Test.YtobpidmlgldnmaaGreatDoorOe
import Derived.Test.YtobpidmlgldnmaaGreatDoorOh
import Derived.Lib.Builder
import Derived.Lib.Walk
import Derived.Laws.Externs
import Derived.Lib.UnsafeStr
import Derived.Test.YtobpidmlgldnmaaGreatDoorCb
import Derived.Lib.ValidLaws
import Derived.Lib.MapLaws
import Derived.Lib.RuneBytes
import Derived.Test.YtobpidmlgldnmaaGreatDoorCp
import Derived.Lib.LaidU8
import Derived.PinnedBridge
import Derived.Test.YtobpidmlgldnmaaGreatDoorAm
import Derived.Laws.IdiomStrings
import Derived.Lib.FrozenHead
import Derived.Test.YtobpidmlgldnmaaGreatDoorGc
import Derived.Laws.BitsLemmas
import Derived.Maps.OwnSet
import Derived.Maps.OwnOps
import Derived.Carry
import Derived.Test.YtobpidmlgldnmaaGreatDoorCe
import Derived.Test.YtobpidmlgldnmaaGreatDoorGh
import Derived.Lib.SlTrimSet
import Derived.Maps.StringElems
import Derived.WideKeyElems2
import Derived.Laws.IdiomRangeMap
import Derived.Test.YtobpidmlgldnmaaGreatDoorCh
import Derived.Laws.DeepBits32
import Derived.Test.YtobpidmlgldnmaaGreatDoorCk
import Derived.Maps.RangeWalk
import Derived.LoopN
import Derived.Test.YtobpidmlgldnmaaGreatDoorGf
import Derived.Test.YtobpidmlgldnmaaGreatDoorMb
import Derived.Deep.AppendSrc
import Derived.Test.YtobpidmlgldnmaaGreatDoorIb
import Derived.Deep.MidRow
import Derived.OwnWalk
import Derived.Test.YtobpidmlgldnmaaGreatDoorIl
import Derived.Test.YtobpidmlgldnmaaGreatDoorIs
import Derived.Test.YtobpidmlgldnmaaGreatDoorIn
import Derived.Test.YtobpidmlgldnmaaGreatDoorIv
import Derived.Test.YtobpidmlgldnmaaGreatDoorIk
import Derived.Test.YtobpidmlgldnmaaGreatDoorIp
import Derived.Test.YtobpidmlgldnmaaGreatDoorIh
import Derived.Test.YtobpidmlgldnmaaGreatDoorJa
import Derived.Test.YtobpidmlgldnmaaGreatDoorJd
import Derived.Test.YtobpidmlgldnmaaGreatDoorTie
import Derived.Test.YtobpidmlgldnmaaGreatDoorCards
import Derived.OpenShut
import Derived.Deep.DeepHandedRow
import Derived.Lib.LaidTab
import Derived.Shelf.Vars
import Derived.Stop.LaidErr
import Derived.Test.YtobpidmlgldnmaaGreatDoorJf

/-
  Values in memory: a tree, and the cells that hold it; what is read as an argument is one.
-/
namespace Go.Proofs.YtobpidmlgldnmaaGreatDoor
open Go.RowKit Go.WideShapes Go.ChangeShapes Go.Deep Go.Joins
set_option maxRecDepth 100000

/-- How much there is in a tree: letters and values. -/
def bulkN : Nat → V → Nat
  | 0, _ => 0
  | d + 1, v => 1 + v.s.size + (v.l.map (bulkN d)).sum + (v.f.map fun q => 1 + q.1.size + bulkN d q.2).sum

theorem bulk_eq : ∀ {d d' : Nat} {w : World} {v : V} {cs : List Value}, RepN d w v cs → d ≤ d' → bulkN d' v = bulkN d v
  | 0, _, _, _, _, h, _ => h.elim
  | d + 1, 0, _, _, _, _, hd => by omega
  | d + 1, d' + 1, w, v, cs, h, hd => by
    obtain ⟨al, af, cl, cf, h1, h2, h3, h4⟩ := h
    have e1 : v.l.map (bulkN d') = v.l.map (bulkN d) := List.map_congr_left fun x hx => by
      obtain ⟨i, hi⟩ := List.getElem?_of_mem hx
      obtain ⟨b, off, c, e, hb, hc, hr⟩ := h3 i x hi
      exact bulk_eq hr (by omega)
    have e2 : (v.f.map fun q => 1 + q.1.size + bulkN d' q.2) = v.f.map fun q => 1 + q.1.size + bulkN d q.2 := List.map_congr_left fun q hq => by
      obtain ⟨i, hi⟩ := List.getElem?_of_mem hq
      obtain ⟨b, off, c, e, hb, hs, hn, hc, hr⟩ := h4 i q hi
      rw [bulk_eq hr (show d ≤ d' by omega)]
    rw [bulkN, bulkN, e1, e2]
theorem sum_le {α : Type} {H : Type} (g : α → Nat) : ∀ (l : List α) (ds : List (DataW H)), l.length = ds.length → (∀ (i : Nat) (a : α) (d : DataW H), l[i]? = some a → ds[i]? = some d → g a ≤ Rows.uptoBulk d) → (l.map g).sum ≤ Rows.uptoBulkAll ds
  | [], [], _, _ => by simp [Rows.uptoBulkAll]
  | a :: l, d :: ds, hl, h => by
    have h0 := h 0 a d rfl rfl
    have ih := sum_le g l ds (by simpa using hl) (fun i a d h1 h2 => h (i + 1) a d (by simpa using h1) (by simpa using h2))
    simp only [List.map_cons, List.sum_cons, Rows.uptoBulkAll]; omega
  | [], _ :: _, hl, _ => by simp at hl
  | _ :: _, [], hl, _ => by simp at hl

theorem cellsV : Tryz.prog.cellsOf 38 = 5 := by kernel_rfl
theorem cellsF : Tryz.prog.cellsOf 111 = 6 := by kernel_rfl
theorem list5 {α : Type} {cs : List α} (h : cs.length = 5) : ∃ c0 c1 c2 c3 c4, cs = [c0, c1, c2, c3, c4] := by
  match cs, h with
  | [c0, c1, c2, c3, c4], _ => exact ⟨c0, c1, c2, c3, c4, rfl⟩
theorem list6 {α : Type} {cs : List α} (h : cs.length = 6) : ∃ c0 c1 c2 c3 c4 c5, cs = [c0, c1, c2, c3, c4, c5] := by
  match cs, h with
  | [c0, c1, c2, c3, c4, c5], _ => exact ⟨c0, c1, c2, c3, c4, c5, rfl⟩

section
variable {H : Type} {enc : TypeId × Value → H} {W : World}
theorem trod_value (fuel : Nat) : ∀ (cs : List Value) (x : DataW H × List MemPlace), DataW.trod enc Tryz.prog W 0 (fun _ => true) true fuel 38 cs = some x → ∃ v, RepN fuel W v cs ∧ bulkN fuel v ≤ Rows.uptoBulk x.1 := by
  induction fuel using Nat.strongRecOn with
  | ind fuel ih =>
    intro cs x h
    obtain ⟨xs, n, rfl, hxx, hl, hlen, hx⟩ := DataW.trod_struct Tryz.underlying38 h
    obtain ⟨c0, c1, c2, c3, c4, rfl⟩ := list5 (hl.trans cellsV)
    have hxl : xs.length = 5 := hlen
    have get : ∀ i, i < 5 → ∃ y, xs[i]? = some y := fun i hi => ⟨xs[i]'(by omega), List.getElem?_eq_getElem _⟩
    have g0 := hx 0 _ rfl
    have g1 := hx 1 _ rfl
    have g2 := hx 2 _ rfl
    have g3 := hx 3 _ rfl
    have g4 := hx 4 _ rfl
    obtain ⟨y0, e0⟩ := get 0 (by omega)
    obtain ⟨y1, e1⟩ := get 1 (by omega)
    obtain ⟨y2, e2⟩ := get 2 (by omega)
    obtain ⟨y3, e3⟩ := get 3 (by omega)
    obtain ⟨y4, e4⟩ := get 4 (by omega)
    have g0' : DataW.trod enc Tryz.prog W 0 (fun _ => true) true n 3 [c0] = some y0 := g0.trans e0
    have g1' : DataW.trod enc Tryz.prog W 0 (fun _ => true) true n 3 [c1] = some y1 := g1.trans e1
    have g2' : DataW.trod enc Tryz.prog W 0 (fun _ => true) true n 9 [c2] = some y2 := g2.trans e2
    have g3' : DataW.trod enc Tryz.prog W 0 (fun _ => true) true n 35 [c3] = some y3 := g3.trans e3
    have g4' : DataW.trod enc Tryz.prog W 0 (fun _ => true) true n 36 [c4] = some y4 := g4.trans e4
    obtain ⟨k0, q0, p0, _⟩ := DataW.trod_int Tryz.underlying3 g0'
    obtain ⟨n0, q1, p1, _⟩ := DataW.trod_int Tryz.underlying3 g1'
    obtain ⟨s0, q2, p2, hs⟩ := DataW.trod_string Tryz.underlying9 g2'
    obtain ⟨al, ll, cl, esL, q3, hll, hlenL, hbL, hL⟩ := trod_list Tryz.underlying35 cellsV (by omega) g3'
    obtain ⟨af, lf, cf, esF, q4, hlf, hlenF, hbF, hF⟩ := trod_list Tryz.underlying36 cellsF (by omega) g4'
    simp only [List.cons.injEq, and_true] at q0 q1 q2
    subst q0 q1 q2 q3 q4
    have hL2 : ∀ i : Nat, ∃ x : V, ∀ y, esL[i]? = some y → (∃ b off c, al = some ⟨b, off, none⟩ ∧ b < W.heap.size ∧ CellsAt W b (off + i * 5) c ∧ RepN n W x c) ∧ bulkN n x ≤ Rows.uptoBulk y.1 := fun i => by
      cases hi : esL[i]? with
      | none => exact ⟨⟨0, 0, ByteArray.empty, [], []⟩, fun y h => by cases h⟩
      | some y =>
        obtain ⟨b, off, c, z1, z2, z3, z4, z5⟩ := hL i y hi
        obtain ⟨x, hx, hbx⟩ := ih (n - 1) (by omega) c y z5
        refine ⟨x, fun y' h => ?_⟩
        cases h
        exact ⟨⟨b, off, c, z1, z2, z4, hx.mono (by omega)⟩, by rw [bulk_eq hx (by omega)]; exact hbx⟩
    have hF2 : ∀ i : Nat, ∃ q : ByteArray × V, ∀ y, esF[i]? = some y → (∃ b off c, af = some ⟨b, off, none⟩ ∧ b < W.heap.size ∧ q.1.size ≤ maxLen ∧ W.cell? ⟨b, off + i * 6, none⟩ = some (.string q.1) ∧ CellsAt W b (off + i * 6 + 1) c ∧ RepN n W q.2 c) ∧ 1 + q.1.size + bulkN n q.2 ≤ Rows.uptoBulk y.1 := fun i => by
      cases hi : esF[i]? with
      | none => exact ⟨(ByteArray.empty, ⟨0, 0, ByteArray.empty, [], []⟩), fun y h => by cases h⟩
      | some y =>
        obtain ⟨b, off, c, z1, z2, z3, z4, z5⟩ := hF i y hi
        obtain ⟨xs', n', hn', hxx, hl', hlen', hx'⟩ := DataW.trod_struct Tryz.underlying111 z5
        obtain ⟨f0, v0, v1, v2, v3, v4, rfl⟩ := list6 z3
        have hxl' : xs'.length = 2 := hlen'
        obtain ⟨w0, w1, rfl⟩ : ∃ w0 w1, xs' = [w0, w1] := by
          match xs', hxl' with
          | [w0, w1], _ => exact ⟨w0, w1, rfl⟩
        have u0' : DataW.trod enc Tryz.prog W 0 (fun _ => true) true n' 9 [f0] = some w0 := hx' 0 _ rfl
        have u1' : DataW.trod enc Tryz.prog W 0 (fun _ => true) true n' 38 [v0, v1, v2, v3, v4] = some w1 := hx' 1 _ rfl
        obtain ⟨nm, r0, r1, hnm⟩ := DataW.trod_string Tryz.underlying9 u0'
        simp only [List.cons.injEq, and_true] at r0
        subst r0
        obtain ⟨x, hx, hbx⟩ := ih n' (by omega) _ _ u1'
        refine ⟨(nm, x), fun y' h => ?_⟩
        cases h
        refine ⟨⟨b, off, [v0, v1, v2, v3, v4], z1, z2, hnm, z4 0 _ rfl, fun j cc hj => ?_, hx.mono (by omega)⟩, ?_⟩
        · have := z4 (j + 1) cc (by simpa using hj)
          rw [show off + i * 6 + 1 + j = off + i * 6 + (j + 1) by omega]; exact this
        · rw [bulk_eq hx (by omega), hxx]
          simp only [List.map_cons, List.map_nil, Rows.uptoBulk, Rows.uptoBulkAll, r1]
          have : nm.data.toList.length = nm.size := by simp
          omega
    obtain ⟨gL, hgL⟩ := Classical.axiomOfChoice hL2
    obtain ⟨gF, hgF⟩ := Classical.axiomOfChoice hF2
    have rng : ∀ {α : Type} (g : Nat → α) (m i : Nat) (a : α), ((List.range m).map g)[i]? = some a → i < m ∧ a = g i := fun g m i a h => by
      simp only [List.getElem?_map, Option.map_eq_some_iff] at h
      obtain ⟨j, hj, rfl⟩ := h
      have hi := (List.getElem?_eq_some_iff.1 hj).1
      simp at hi
      have : j = i := by simpa [List.getElem?_range hi] using hj.symm
      subst this
      exact ⟨hi, rfl⟩
    refine ⟨⟨k0, n0, s0, (List.range ll).map gL, (List.range lf).map gF⟩, ⟨al, af, cl, cf, by simp, ⟨hs, by simpa using hll, by simpa using hlf⟩, fun i x hx => ?_, fun i q hq => ?_⟩, ?_⟩
    · obtain ⟨hi, rfl⟩ := rng gL ll i x hx
      exact (hgL i _ (List.getElem?_eq_getElem (by omega))).1
    · obtain ⟨hi, rfl⟩ := rng gF lf i q hq
      exact (hgF i _ (List.getElem?_eq_getElem (by omega))).1
    · have sL := sum_le (bulkN n) ((List.range ll).map gL) (esL.map (·.1)) (by simp [hlenL]) (fun i a d h1 h2 => by
        obtain ⟨hi, rfl⟩ := rng gL ll i a h1
        simp only [List.getElem?_map, Option.map_eq_some_iff] at h2
        obtain ⟨y, hy, rfl⟩ := h2
        exact (hgL i y hy).2)
      have sF := sum_le (fun q : ByteArray × V => 1 + q.1.size + bulkN n q.2) ((List.range lf).map gF) (esF.map (·.1)) (by simp [hlenF]) (fun i a d h1 h2 => by
        obtain ⟨hi, rfl⟩ := rng gF lf i a h1
        simp only [List.getElem?_map, Option.map_eq_some_iff] at h2
        obtain ⟨y, hy, rfl⟩ := h2
        exact (hgF i y hy).2)
      obtain ⟨u0, u1, u2, u3, u4, rfl⟩ := list5 hxl
      cases e0; cases e1; cases e2; cases e3; cases e4
      rw [hxx]
      simp only [List.map_cons, List.map_nil, Rows.uptoBulk, Rows.uptoBulkAll, p0, p1, p2, bulkN]
      have : s0.data.toList.length = s0.size := by simp
      omega
end
end Go.Proofs.YtobpidmlgldnmaaGreatDoor

/-
  Plain functions over values as trees: how many, how deep, how much, whether it may be.
-/
namespace Go.Proofs.YtobpidmlgldnmaaGreatDoor
open Go.RowKit
set_option maxRecDepth 100000

theorem cntL_le_bulk : ∀ (l : List V), (∀ x ∈ l, x.cnt ≤ x.bulk) → cntL l ≤ bulkL l
  | [], _ => by simp [cntL]
  | y :: l, h => by
    have := cntL_le_bulk l (fun x hx => h x (by simp [hx]))
    have := h y (by simp)
    rw [cntL, bulkL]; omega
theorem cntF_le_bulk : ∀ (l : List (ByteArray × V)), (∀ q ∈ l, q.2.cnt ≤ q.2.bulk) → cntF l ≤ bulkF l
  | [], _ => by simp [cntF]
  | y :: l, h => by
    have := cntF_le_bulk l (fun x hx => h x (by simp [hx]))
    have := h y (by simp)
    rw [cntF_cons, bulkF_cons]; omega
theorem cnt_le_bulk (v : V) : v.cnt ≤ v.bulk := by
  induction v using V.ind with
  | h v hl hf =>
    have a := cntL_le_bulk v.l hl
    have b := cntF_le_bulk v.f hf
    rw [cnt_eq, bulk_eq']; omega
theorem bulkN_eq : ∀ {d : Nat} {w : World} {v : V} {cs : List Value}, RepN d w v cs → bulkN d v = v.bulk
  | 0, _, _, _, h => h.elim
  | d + 1, w, v, cs, h => by
    obtain ⟨al, af, cl, cf, h1, h2, h3, h4⟩ := h
    have e1 : ∀ l : List V, (∀ x ∈ l, bulkN d x = x.bulk) → (l.map (bulkN d)).sum = bulkL l := fun l => by
      induction l with
      | nil => intro _; rfl
      | cons y l ih => intro h; rw [List.map_cons, List.sum_cons, bulkL, ih (fun x hx => h x (by simp [hx])), h y (by simp)]
    have e2 : ∀ l : List (ByteArray × V), (∀ q ∈ l, bulkN d q.2 = q.2.bulk) → (l.map fun q => 1 + q.1.size + bulkN d q.2).sum = bulkF l := fun l => by
      induction l with
      | nil => intro _; rfl
      | cons y l ih => intro h; rw [List.map_cons, List.sum_cons, bulkF_cons, ih (fun x hx => h x (by simp [hx])), h y (by simp)]
    have q1 : ∀ x ∈ v.l, bulkN d x = x.bulk := fun x hx => by
      obtain ⟨i, hi⟩ := List.getElem?_of_mem hx
      obtain ⟨b, off, c, e, hb, hc, hr⟩ := h3 i x hi
      exact bulkN_eq hr
    have q2 : ∀ q ∈ v.f, bulkN d q.2 = q.2.bulk := fun q hq => by
      obtain ⟨i, hi⟩ := List.getElem?_of_mem hq
      obtain ⟨b, off, c, e, hb, hs, hn, hc, hr⟩ := h4 i q hi
      exact bulkN_eq hr
    rw [bulkN, bulk_eq', e1 v.l q1, e2 v.f q2]
end Go.Proofs.YtobpidmlgldnmaaGreatDoor

/-
  Aids for contracts over values: the cells of one, the block in which a call keeps one.
-/
namespace Go.Proofs.YtobpidmlgldnmaaGreatDoor
open Go.RowKit
set_option maxRecDepth 100000

/-- The whole block of a value that a call has boxed. -/
abbrev BoxV (w : World) (b : Nat) (v : V) (al af : Option Addr) (cl cf : Nat) : Prop := At w b 38 #[.int .i64 v.k, .int .i64 v.n, .string v.s, .slice al v.l.length cl, .slice af v.f.length cf]

end Go.Proofs.YtobpidmlgldnmaaGreatDoor

/-
  A value's text; the document's own.
-/
namespace Go.Proofs.YtobpidmlgldnmaaGreatDoor
open Go.RowKit
set_option maxRecDepth 100000

theorem nmOk_sizeV {s : ByteArray} (h : nmOk s = true) : s.size ≤ 200 := by
  by_cases hs : s.size ≤ 200
  · exact hs
  · rw [nmOk_len (by omega)] at h; cases h
theorem own_s {v : V} (h : Own v) : v.s.size ≤ 200 := by
  rcases h with h | h | h | h | h | h | h | h
  · omega
  · omega
  · omega
  · omega
  · exact nmOk_sizeV h.2.2.1
  · omega
  · omega
  · omega
end Go.Proofs.YtobpidmlgldnmaaGreatDoor

/-
  Two lists of operators that are the same.
-/
namespace Go.Proofs.YtobpidmlgldnmaaGreatDoor
open Go.RowKit
set_option maxRecDepth 100000

/-- A list of values in memory: its slice, and each value. -/
theorem rep_list {d : Nat} {w : World} {l : List V} {t : Value} (h : RepN d w (listV5 l) (listC t)) : ∃ a c, t = .slice a l.length c ∧ l.length ≤ maxLen ∧ ∀ (i : Nat) x, l[i]? = some x → ∃ b off cs, a = some ⟨b, off, none⟩ ∧ b < w.heap.size ∧ CellsAt w b (off + i * 5) cs ∧ RepN (d - 1) w x cs := by
  match d, h with
  | d + 1, h =>
    obtain ⟨al, af, cl, cf, h1, h2, h3, _⟩ := h
    unfold listC listV5 at h1
    simp only [List.cons.injEq, and_true] at h1
    exact ⟨al, cl, h1.2.2.2.1, h2.2.1, fun i x hx => by simpa using h3 i x hx⟩
end Go.Proofs.YtobpidmlgldnmaaGreatDoor

/-
  Contracts over values that only look: how heavy one is (some number), how many parts it has and how deep it is.
-/
namespace Go.Proofs.YtobpidmlgldnmaaGreatDoor
open Go.RowKit
set_option maxRecDepth 100000

set_option maxHeartbeats 1000000 in
theorem weight_step (d : Nat) (most : Int)
    (ih : ∀ (v : V) (cs : List Value) (w : World), RepN d w v cs → Calls Tryz.prog 29 #[.agg cs.toArray, .int .i64 most] w fun e w' => (∃ z : Int, e = .returned (.int .i64 z)) ∧ Below w.heap.size w w')
    (v : V) (cs : List Value) (w : World) (hv : RepN (d + 1) w v cs) :
    Calls Tryz.prog 29 #[.agg cs.toArray, .int .i64 most] w fun e w' => (∃ z : Int, e = .returned (.int .i64 z)) ∧ Below w.heap.size w w' := by
  obtain ⟨al, af, cl, cf, rfl, ⟨hs, hl, hf⟩, hL, hF⟩ := hv
  unfold maxLen at hs hl hf
  have HL := hid hL
  have HF := hid hF
  clear hL hF
  go_enter Tryz.func29, Tryz.ntmps29
  go_upto_block 0 with fail
  go_cut [5] from 12 to 32 (fun t wx => ∃ z : Int, t = .int .i64 z ∧ BoxV wx w.heap.size v al af cl cf ∧ Below w.heap.size w wx)
  case first =>
    go_wp2_with fail
    go_loopw [5, 6] (fun t i wr => ∃ (j : Nat) (z : Int), i = .int .i64 j ∧ t = .int .i64 z ∧ j ≤ v.l.length ∧ BoxV wr w.heap.size v al af cl cf ∧ Below w.heap.size w wr) (fun _ i _ => v.l.length - (intOf i).toNat)
    case atStart => exact ⟨0, _, rfl, rfl, Nat.zero_le _, At.new _ _ _ rfl, by go_grown⟩
    case round =>
      obtain ⟨j, z, rfl, rfl, hj, hA, hB⟩ := hrel
      have mc := hA.cell
      have mz := hA.lt
      by_cases hjl : j < v.l.length
      · have hjl' : (j : Int) < v.l.length := by omega
        by_cases hzm : z ≤ most
        · obtain ⟨b, off, c, rfl, hbl, hc, hr⟩ := HL.out j v.l[j] (List.getElem?_eq_getElem hjl)
          have hr' := hr.later (hB : Below w.heap.size w wr)
          have hbr : b < wr.heap.size := Nat.lt_of_lt_of_le hbl hB.size
          obtain ⟨k1, n1, s1, a1, l1, c1, a2, l2, c2, rfl, g0, g1, g2, g3, g4⟩ := rep_cells hr' (hc.later hbl hB)
          have HR := hid hr'
          clear hr hr' hc
          go_wp2_with (go_at_call 29; refine (ih v.l[j] _ _ HR.out).mono ?_; rintro e w1 ⟨⟨z1, rfl⟩, hb1⟩)
          go_roundw
          case rel => exact ⟨j + 1, _, by go_num, rfl, by omega, hA.later hb1, hB.trans (hb1.mono hB.size)⟩
          case measure => simp [intOf]; omega
        · go_wp2_with fail
          go_meet
          case rel => exact ⟨z, rfl, hA, hB⟩
      · have hjl' : ¬ (j : Int) < v.l.length := by omega
        go_wp2_with fail
        go_meet
        case rel => exact ⟨z, rfl, hA, hB⟩
  case rest =>
    obtain ⟨z, rfl, hA, hB⟩ := hcut
    go_wp2_with fail
    go_loopw [5, 7] (fun t i wq => ∃ (p : Nat) (y : Int), i = .int .i64 p ∧ t = .int .i64 y ∧ p ≤ v.f.length ∧ BoxV wq w.heap.size v al af cl cf ∧ Below w.heap.size w wq) (fun _ i _ => v.f.length - (intOf i).toNat)
    case atStart => exact ⟨0, z, rfl, rfl, Nat.zero_le _, hA, hB⟩
    case round =>
      clear hA hB
      obtain ⟨p, y, rfl, rfl, hp, hA, hB⟩ := hrel
      have mc := hA.cell
      have mz := hA.lt
      by_cases hpl : p < v.f.length
      · have hpl' : (p : Int) < v.f.length := by omega
        by_cases hym : y ≤ most
        · obtain ⟨b, off, c, rfl, hbl, hnm, hcn, hc, hr⟩ := HF.out p v.f[p] (List.getElem?_eq_getElem hpl)
          have hr' := hr.later hB
          have hbr : b < wr.heap.size := Nat.lt_of_lt_of_le hbl hB.size
          obtain ⟨k1, n1, s1, a1, l1, c1, a2, l2, c2, rfl, g0, g1, g2, g3, g4⟩ := rep_cells hr' (hc.later hbl hB)
          have hcn' := (hB.cell (p := ⟨b, off + p * 6, none⟩) hbl).trans hcn
          have HR := hid hr'
          clear hr hr' hc hcn
          generalize v.f[p].1 = nm at *
          go_upto_block 3 with fail
          go_cut [5] from 33 to 62 (fun t wx => ∃ z : Int, t = .int .i64 z ∧ BoxV wx w.heap.size v al (some ⟨b, off, none⟩) cl cf ∧ Below w.heap.size w wx)
          case first =>
            go_wp2_with fail
            go_region_with (go_at_call 29; refine (ih v.f[p].2 _ _ (HR.out.later (by go_grown))).mono ?_; rintro e w1 ⟨⟨z1, rfl⟩, hb1⟩; have x1 := hb1.cell (p := ⟨b, off + p * 6, none⟩) hbr; have x2 := fun o => hb1.cell (p := ⟨w.heap.size, o, none⟩) mz)
            all_goals
              go_wp2_with fail
              go_meet
              case rel => exact ⟨_, rfl, hA.later (below_undrew hb1), hB.trans ((below_undrew hb1).mono hB.size)⟩
          case rest =>
            clear hA hB mc mz
            obtain ⟨y', rfl, hA, hB⟩ := hcut
            go_wp2_with fail
            go_roundw
            case rel => exact ⟨p + 1, y', by go_num, rfl, by omega, hA, hB⟩
            case measure => simp [intOf]; omega
        · go_wp2_with fail
          go_ret
          exact ⟨⟨y, rfl⟩, hB⟩
      · have hpl' : ¬ (p : Int) < v.f.length := by omega
        go_wp2_with fail
        go_ret
        exact ⟨⟨y, rfl⟩, hB⟩
theorem weight_any (d : Nat) (most : Int) : ∀ (v : V) (cs : List Value) (w : World), RepN d w v cs → Calls Tryz.prog 29 #[.agg cs.toArray, .int .i64 most] w fun e w' => (∃ z : Int, e = .returned (.int .i64 z)) ∧ Below w.heap.size w w' := by
  induction d with
  | zero => intro v cs w h; exact h.elim
  | succ d ih => exact fun v cs w h => weight_step d most ih v cs w h
end Go.Proofs.YtobpidmlgldnmaaGreatDoor

/-
  ops.Write, whole.
-/
namespace Go.Proofs.YtobpidmlgldnmaaGreatDoor
open Go.RowKit
set_option maxRecDepth 100000

/-- How much operators hold. -/
def opsBulk : List OpP → Nat
  | [] => 0
  | o :: r => 1 + o.1.size + bulkL o.2 + opsBulk r
theorem opsBulk_mem : ∀ (l : List OpP) (o : OpP), o ∈ l → 1 + o.1.size + bulkL o.2 ≤ opsBulk l
  | x :: l, o, h => by
    rw [opsBulk]
    rcases List.mem_cons.1 h with rfl | h
    · omega
    · have := opsBulk_mem l o h; omega
end Go.Proofs.YtobpidmlgldnmaaGreatDoor

/-
  Operators as an argument: what the law asks first, and how they are read.
-/
namespace Go.Proofs.YtobpidmlgldnmaaGreatDoor
open Go.RowKit
set_option maxRecDepth 100000

set_option maxHeartbeats 4000000 in
theorem lightOps_any (d : Nat) (L : List OpP) (t : Value) (w : World) (hL : OpsN d w t L) :
    Calls Tryz.prog 21 #[t] w fun e w' => (∃ r : Bool, e = .returned (.bool r)) ∧ Below w.heap.size w w' := by
  obtain ⟨al, cl, rfl, hlL, hL⟩ := hL
  have HL := hid hL
  unfold maxLen at hlL
  clear hL
  by_cases h3 : (300 : Int) < L.length
  · go_enter Tryz.func21, Tryz.ntmps21
    go_wp2
    go_ret
    first | exact ⟨⟨_, rfl⟩, by go_grown⟩ | exact ⟨.inl rfl, by go_grown⟩
  · go_enter Tryz.func21, Tryz.ntmps21
    go_wp2
    go_loopw [3, 4] (fun nv i wr => ∃ (k : Nat) (n : Int), nv = .int .i64 n ∧ i = .int .i64 k ∧ k ≤ L.length ∧ Below w.heap.size w wr) (fun _ i _ => L.length - (intOf i).toNat)
    case atStart => exact ⟨0, 0, rfl, rfl, by omega, Below.refl _ _⟩
    case round =>
      obtain ⟨k, n, rfl, rfl, hk, hW⟩ := hrel
      have hk0 : (0 : Int) ≤ k := by omega
      by_cases hkl : k < L.length
      · have hkl' : (k : Int) < L.length := by omega
        obtain ⟨b, off, tA, rfl, hbl, k0, k1, hsz, hrp⟩ := HL.out k L[k] (List.getElem?_eq_getElem hkl)
        generalize L[k] = o at hrp hsz k0 k1
        obtain ⟨nm, A⟩ := o
        simp only at hrp hsz k0 k1
        obtain ⟨aA, cA, rfl, hlA, hLA⟩ := rep_list hrp
        have HLA := hid hLA
        unfold maxLen at hlA
        have m0 := (hW.cell (p := ⟨b, _, none⟩) hbl).trans k0
        have m1 := (hW.cell (p := ⟨b, _, none⟩) hbl).trans k1
        have zb : b < wr.heap.size := Nat.lt_of_lt_of_le hbl hW.size
        clear hLA hrp
        by_cases hn : nm.size ≤ 50
        · have hn' : decide ((50 : Int) < nm.size) = false := decide_eq_false (by omega)
          by_cases ha : A.length ≤ 12
          · have ha' : decide ((12 : Int) < A.length) = false := decide_eq_false (by omega)
            have hn2 : ¬ (50 : Int) < nm.size := by omega
            have ha2 : ¬ (12 : Int) < A.length := by omega
            go_wp2_with fail
            go_loopw [3, 5] (fun nv i wx => ∃ (j : Nat) (n : Int), nv = .int .i64 n ∧ i = .int .i64 j ∧ j ≤ A.length ∧ Below w.heap.size w wx) (fun _ i _ => A.length - (intOf i).toNat)
            case atStart => exact ⟨0, n, rfl, rfl, by omega, hW⟩
            case round =>
              clear m0 m1
              obtain ⟨j, n2, rfl, rfl, hj, hY⟩ := hrel
              have m1 := (hY.cell (p := ⟨b, _, none⟩) hbl).trans k1
              have zb2 : b < wr.heap.size := Nat.lt_of_lt_of_le hbl hY.size
              have hj0 : (0 : Int) ≤ j := by omega
              by_cases hjl : j < A.length
              · have hjl' : (j : Int) < A.length := by omega
                obtain ⟨g, og, cs, rfl, hgl, hc, hr0⟩ := HLA.out j A[j] (List.getElem?_eq_getElem hjl)
                generalize A[j] = x at hr0
                have q1 := hr0.later hY
                obtain ⟨x1, n1, s1, a1, l1, c1, a2, l2, c2, rfl, g0, g1, g2, g3, g4⟩ := rep_cells q1 (hc.later hgl hY)
                have zg : g < wr.heap.size := Nat.lt_of_lt_of_le hgl hY.size
                have HRx := hid q1
                clear q1 hc hr0
                go_wp2_with (go_at_call 29; go_must (refine (weight_any _ 9000 x _ _ (HRx.out.later (by go_grown))).mono ?_); rintro e w1 ⟨⟨z1, rfl⟩, hb1⟩)
                exact ⟨⟨j + 1, _, rfl, by go_num, by omega, hY.trans (hb1.mono hY.size)⟩, by simp [intOf]; omega⟩
              · have hjl' : ¬ (j : Int) < A.length := by omega
                by_cases h9 : (9000 : Int) < n2
                · go_wp2_with fail
                  go_ret
                  first | exact ⟨⟨_, rfl⟩, hY⟩ | exact ⟨.inl rfl, hY⟩ | exact ⟨.inr rfl, hY⟩
                · go_wp2_with fail
                  exact ⟨⟨k + 1, n2, rfl, by go_num, by omega, hY⟩, by simp [intOf]; omega⟩
          · have ha2 : (12 : Int) < A.length := by omega
            have hn2 : ¬ (50 : Int) < nm.size := by omega
            go_wp2
            go_ret
            first | exact ⟨⟨_, rfl⟩, hW⟩ | exact ⟨.inl rfl, hW⟩ | exact ⟨.inr rfl, hW⟩
        · have hn2 : (50 : Int) < nm.size := by omega
          go_wp2
          go_ret
          first | exact ⟨⟨_, rfl⟩, hW⟩ | exact ⟨.inl rfl, hW⟩ | exact ⟨.inr rfl, hW⟩
      · have hkl' : ¬ (k : Int) < L.length := by omega
        go_wp2
        go_ret
        first | exact ⟨⟨_, rfl⟩, hW⟩ | exact ⟨.inl rfl, hW⟩ | exact ⟨.inr rfl, hW⟩
end Go.Proofs.YtobpidmlgldnmaaGreatDoor

/-
  Operators that are read as an argument.
-/
namespace Go.Proofs.YtobpidmlgldnmaaGreatDoor
open Go.RowKit Go.WideShapes Go.ChangeShapes Go.Deep Go.Joins
set_option maxRecDepth 100000

theorem cellsOp : Tryz.prog.cellsOf 41 = 2 := by kernel_rfl
theorem list2 {α : Type} {cs : List α} (h : cs.length = 2) : ∃ c0 c1, cs = [c0, c1] := by
  match cs, h with
  | [c0, c1], _ => exact ⟨c0, c1, rfl⟩
theorem bulkL_sum : ∀ (l : List V), bulkL l = (l.map V.bulk).sum
  | [] => rfl
  | x :: l => by rw [bulkL, List.map_cons, List.sum_cons, bulkL_sum l]
theorem opsBulk_sum : ∀ (l : List OpP), opsBulk l = (l.map fun o => 1 + o.1.size + bulkL o.2).sum
  | [] => rfl
  | x :: l => by rw [opsBulk, List.map_cons, List.sum_cons, opsBulk_sum l]
section
variable {H : Type} {enc : TypeId × Value → H} {W : World}
theorem trod_op (fuel : Nat) (cs : List Value) (x : DataW H × List MemPlace) (hl : cs.length = 2) (h : DataW.trod enc Tryz.prog W 0 (fun _ => true) true fuel 41 cs = some x) :
    ∃ (o : OpP) (tA : Value), cs = [.string o.1, tA] ∧ o.1.size ≤ maxLen ∧ RepN (fuel + 1) W (listV5 o.2) (listC tA) ∧ 1 + o.1.size + bulkL o.2 ≤ Rows.uptoBulk x.1 := by
  obtain ⟨xs, n, hn, hxx, hl', hlen, hx⟩ := DataW.trod_struct Tryz.underlying41 h
  obtain ⟨c0, c1, rfl⟩ := list2 hl
  have hxl : xs.length = 2 := hlen
  obtain ⟨y0, y1, rfl⟩ := list2 hxl
  have g0 : DataW.trod enc Tryz.prog W 0 (fun _ => true) true n 9 [c0] = some y0 := hx 0 _ rfl
  have g1 : DataW.trod enc Tryz.prog W 0 (fun _ => true) true n 35 [c1] = some y1 := hx 1 _ rfl
  obtain ⟨nm, q0, p0, hnm⟩ := DataW.trod_string Tryz.underlying9 g0
  obtain ⟨al, ll, cl, es, q1, hll, hel, hbL, hL⟩ := trod_list Tryz.underlying35 cellsV (by omega) g1
  simp only [List.cons.injEq, and_true] at q0
  subst q0 q1
  have hL2 : ∀ i : Nat, ∃ v : V, ∀ y, es[i]? = some y → (∃ b off c, al = some ⟨b, off, none⟩ ∧ b < W.heap.size ∧ CellsAt W b (off + i * 5) c ∧ RepN fuel W v c) ∧ v.bulk ≤ Rows.uptoBulk y.1 := fun i => by
    cases hi : es[i]? with
    | none => exact ⟨⟨0, 0, ByteArray.empty, [], []⟩, fun y h => by cases h⟩
    | some y =>
      obtain ⟨b, off, c, z1, z2, z3, z4, z5⟩ := hL i y hi
      obtain ⟨v, hv, hbv⟩ := trod_value (n - 1) c y z5
      refine ⟨v, fun y' h => ?_⟩
      cases h
      exact ⟨⟨b, off, c, z1, z2, z4, hv.mono (by omega)⟩, by rw [← bulkN_eq hv]; exact hbv⟩
  obtain ⟨gL, hgL⟩ := Classical.axiomOfChoice hL2
  have hget : ∀ (i : Nat) v, ((List.range ll).map gL)[i]? = some v → i < ll ∧ v = gL i := fun i v hv => by
    simp only [List.getElem?_map, Option.map_eq_some_iff] at hv
    obtain ⟨j, hj, rfl⟩ := hv
    have hi := (List.getElem?_eq_some_iff.1 hj).1
    simp at hi
    have : j = i := by simpa [List.getElem?_range hi] using hj.symm
    subst this
    exact ⟨hi, rfl⟩
  refine ⟨(nm, (List.range ll).map gL), .slice al ll cl, rfl, hnm, ⟨al, none, cl, 0, ?_, ?_, fun i v hv => ?_, fun i q h => by simp [listV5] at h⟩, ?_⟩
  · simp [listC, listV5]
  · simp only [listV5, List.length_map, List.length_range, List.length_nil]
    exact ⟨by decide, hll, by decide⟩
  · obtain ⟨hi, rfl⟩ := hget i v hv
    exact (hgL i _ (List.getElem?_eq_getElem (by omega))).1
  · have hsum : bulkL ((List.range ll).map gL) ≤ Rows.uptoBulkAll (es.map (·.1)) := by
      rw [bulkL_sum]
      refine sum_le V.bulk _ _ (by simp [hel]) fun i v dd hv hd => ?_
      obtain ⟨hi, rfl⟩ := hget i v hv
      rw [List.getElem?_map, Option.map_eq_some_iff] at hd
      obtain ⟨y, hy, rfl⟩ := hd
      exact (hgL i y hy).2
    rw [hxx]
    simp only [List.map_cons, List.map_nil, Rows.uptoBulk, Rows.uptoBulkAll, p0]
    have : nm.data.toList.length = nm.size := by simp
    omega
theorem open_ops {base : Nat} {v : Value} {d : DataW H} {p : List MemPlace} (hv : Value.okWide Tryz.prog W .any base 22 v) (h : DataW.Trod enc Tryz.prog W 0 (fun _ => true) true 22 v d p) :
    ∃ dep L, OpsN dep W v L ∧ opsBulk L ≤ Rows.uptoBulk d := by
  obtain ⟨a0, n0, c0, rfl⟩ := okWide_slice Tryz.underlying22 hv
  obtain ⟨fuel, hf⟩ := h
  obtain ⟨al, len, cap, es, q, hl, hlen, hbl, hL⟩ := trod_list Tryz.underlying22 cellsOp (by omega) hf
  have hL2 : ∀ i : Nat, ∃ o : OpP, ∀ y, es[i]? = some y → (∃ b off tA, al = some ⟨b, off, none⟩ ∧ b < W.heap.size ∧ W.cell? ⟨b, off + i * 2, none⟩ = some (.string o.1) ∧ W.cell? ⟨b, off + i * 2 + 1, none⟩ = some tA ∧ o.1.size ≤ maxLen ∧ RepN (fuel + 1) W (listV5 o.2) (listC tA)) ∧ 1 + o.1.size + bulkL o.2 ≤ Rows.uptoBulk y.1 := fun i => by
    cases hi : es[i]? with
    | none => exact ⟨(ByteArray.empty, []), fun y h => by cases h⟩
    | some y =>
      obtain ⟨b, off, c, z1, z2, z3, z4, z5⟩ := hL i y hi
      obtain ⟨o, tA, rfl, ho, hr, hb⟩ := trod_op _ c y z3 z5
      refine ⟨o, fun y' h => ?_⟩
      cases h
      exact ⟨⟨b, off, tA, z1, z2, z4 0 _ rfl, z4 1 _ rfl, ho, hr.mono (by omega)⟩, hb⟩
  obtain ⟨gL, hgL⟩ := Classical.axiomOfChoice hL2
  injection q with q1 q2 q3
  subst q1 q2 q3
  have hget : ∀ (i : Nat) v, ((List.range n0).map gL)[i]? = some v → i < n0 ∧ v = gL i := fun i v hv => by
    simp only [List.getElem?_map, Option.map_eq_some_iff] at hv
    obtain ⟨j, hj, rfl⟩ := hv
    have hi := (List.getElem?_eq_some_iff.1 hj).1
    simp at hi
    have : j = i := by simpa [List.getElem?_range hi] using hj.symm
    subst this
    exact ⟨hi, rfl⟩
  refine ⟨fuel + 1, (List.range n0).map gL, ⟨a0, c0, by simp, by simpa using hl, fun i o ho => ?_⟩, ?_⟩
  · obtain ⟨hi, rfl⟩ := hget i o ho
    exact (hgL i _ (List.getElem?_eq_getElem (by omega))).1
  · have hsum : opsBulk ((List.range n0).map gL) ≤ Rows.uptoBulkAll (es.map (·.1)) := by
      rw [opsBulk_sum]
      refine sum_le (fun o : OpP => 1 + o.1.size + bulkL o.2) _ _ (by simp [hlen]) fun i v dd hv hd => ?_
      obtain ⟨hi, rfl⟩ := hget i v hv
      rw [List.getElem?_map, Option.map_eq_some_iff] at hd
      obtain ⟨y, hy, rfl⟩ := hd
      exact (hgL i y hy).2
    have hbl' : Rows.uptoBulkAll (es.map (·.1)) + 1 ≤ Rows.uptoBulk d := hbl
    omega
end
end Go.Proofs.YtobpidmlgldnmaaGreatDoor

/-
  Names and fonts as an argument.
-/
namespace Go.Proofs.YtobpidmlgldnmaaGreatDoor
open Go.RowKit Go.WideShapes Go.ChangeShapes Go.Deep Go.Joins Go.Maps
open Go.WideMaps Go.Maps
set_option maxRecDepth 100000

section
variable {H : Type} {enc : TypeId × Value → H} {W : World}
theorem font_cells {fuel : Nat} {c0 c1 c2 c3 c4 : Value} {x : DataW H × List MemPlace} (hf : DataW.trod enc Tryz.prog W 0 (fun _ => true) true fuel 56 [c0, c1, c2, c3, c4] = some x) :
    ∃ F mw mn al c, (.agg #[c0, c1, c2, c3, c4] : Value) = ftV F mw mn al c ∧ FtIn W F mw mn al ∧ WdIn W mw ∧ (∃ i, mw = .map i) ∧ (∃ j, mn = .map j) := by
  obtain ⟨xs, n, _, _, hl, hlen, hx⟩ := DataW.trod_struct Tryz.underlying56 hf
  have hxl : xs.length = 5 := hlen
  obtain ⟨x0, x1, x2, x3, x4, rfl⟩ : ∃ x0 x1 x2 x3 x4, xs = [x0, x1, x2, x3, x4] := by
    match xs, hxl with
    | [x0, x1, x2, x3, x4], _ => exact ⟨x0, x1, x2, x3, x4, rfl⟩
  have g0 : DataW.trod enc Tryz.prog W 0 (fun _ => true) true n 4 [c0] = some x0 := hx 0 _ rfl
  have g1 : DataW.trod enc Tryz.prog W 0 (fun _ => true) true n 52 [c1] = some x1 := hx 1 _ rfl
  have g2 : DataW.trod enc Tryz.prog W 0 (fun _ => true) true n 3 [c2] = some x2 := hx 2 _ rfl
  have g3 : DataW.trod enc Tryz.prog W 0 (fun _ => true) true n 53 [c3] = some x3 := hx 3 _ rfl
  have g4 : DataW.trod enc Tryz.prog W 0 (fun _ => true) true n 54 [c4] = some x4 := hx 4 _ rfl
  obtain ⟨wide, e0, _⟩ := DataW.trod_bool Tryz.underlying4 g0
  obtain ⟨miss, e2, _, _⟩ := DataW.trod_int Tryz.underlying3 g2
  simp only [List.cons.injEq, and_true] at e0 e2
  subst e0 e2
  obtain ⟨al, l, c, rfl, hll, hSp⟩ := spans_cell g4
  have hW : ∃ wf : Int → Option Int, (∀ c : Int, 0 ≤ c → c ≤ 65535 → ∀ W', Below W.heap.size W W' → (Instr.lookup 52 c1 (.int .i64 c) true).run Tryz.prog W' = .ok (.tuple #[.int .i64 ((wf c).getD 0), .bool (wf c).isSome]) W') ∧ (∃ k : Nat, ∀ W' ty, Below W.heap.size W W' → (Builtin.len_ #[52] ty #[c1]).run Tryz.prog W' = .ok (.int .i64 (k : Int)) W') ∧ WdIn W c1 := by
    rcases WideElems.open_map Tryz.underlying52 g1 with ⟨e, _⟩ | ⟨b, es, clock, m, _, e, hb, _, Fi, _⟩
    · simp only [List.cons.injEq, and_true] at e
      subst e
      exact ⟨fun _ => none, fun c h0 h1 W' _ => by simpa using Maps.look_nil (w := W') true lawI Tryz.underlying52 (zeroI _) (keyI h0 h1), ⟨0, fun W' ty _ => Maps.len_nil Tryz.underlying52 ty⟩, .inl rfl⟩
    · simp only [List.cons.injEq, and_true] at e
      subst e
      have hown := World.ownsMap_of_fit (R := plainElem Tryz.prog 3) hb Fi (fun x _ z hz => elemAt_plainElem_int Tryz.underlying3 hz)
      obtain ⟨wf, hwf⟩ := Classical.axiomOfChoice (look_w hown)
      exact ⟨wf, hwf, ⟨_, fun W' ty hB => (kept_below hown hB).len Tryz.underlying52 ty⟩, .inr ⟨H, b, _, _, rfl, hown⟩⟩
  have hN : ∃ nf : Int → Option ByteArray, (∀ c s, nf c = some s → s.size ≤ maxLen) ∧ (∀ c : Int, 0 ≤ c → c ≤ 65535 → ∀ W', Below W.heap.size W W' → (Instr.lookup 53 c3 (.int .i64 c) true).run Tryz.prog W' = .ok (.tuple #[.string ((nf c).getD ⟨#[]⟩), .bool (nf c).isSome]) W') ∧ (∃ k : Nat, ∀ W' ty, Below W.heap.size W W' → (Builtin.len_ #[53] ty #[c3]).run Tryz.prog W' = .ok (.int .i64 (k : Int)) W') ∧
      (c3 = .map none ∨ ∃ (H : Type) (b n : Nat) (D : DataW H), c3 = .map (some b) ∧ W.ownsMap Tryz.prog 3 (plainElem Tryz.prog 9) b n D) := by
    rcases WideElems.open_map Tryz.underlying53 g3 with ⟨e, _⟩ | ⟨b, es, clock, m, _, e, hb, _, Fi, _⟩
    · simp only [List.cons.injEq, and_true] at e
      subst e
      exact ⟨fun _ => none, fun c s h => (by cases h), fun c h0 h1 W' _ => by simpa using Maps.look_nil (w := W') true lawI Tryz.underlying53 (zeroS _) (keyI h0 h1), ⟨0, fun W' ty _ => Maps.len_nil Tryz.underlying53 ty⟩, .inl rfl⟩
    · simp only [List.cons.injEq, and_true] at e
      subst e
      have hown := World.ownsMap_of_fit (R := plainElem Tryz.prog 9) hb Fi (fun x _ z hz => elemAt_plainElem_string Tryz.underlying9 hz)
      obtain ⟨nf, hnf⟩ := Classical.axiomOfChoice (look_n hown)
      exact ⟨nf, fun c => (hnf c).1, fun c => (hnf c).2, ⟨_, fun W' ty hB => (kept_below hown hB).len Tryz.underlying53 ty⟩, .inr ⟨H, b, _, _, rfl, hown⟩⟩
  obtain ⟨wf, hw1, hw2, hw3⟩ := hW
  have hi : ∃ i, c1 = .map i := by
    rcases hw3 with h | ⟨H, b, n, D, h, _⟩
    · exact ⟨_, h⟩
    · exact ⟨_, h⟩
  obtain ⟨nf, hn0, hn1, hn2, hn3⟩ := hN
  exact ⟨⟨wide, wf, miss, nf, l⟩, c1, c3, al, c, rfl, ⟨⟨fun W' hB c h0 h1 => hw1 c h0 h1 W' hB, fun W' hB c h0 h1 => hn1 c h0 h1 W' hB, hn0, hSp, hll⟩, hw2, hn2, hn3⟩, hw3, hi, by
    rcases hn3 with h | ⟨H, b, n, D, h, _⟩
    · exact ⟨_, h⟩
    · exact ⟨_, h⟩⟩
theorem cellsNm : Tryz.prog.cellsOf 58 = 6 := by kernel_rfl
theorem list6N {α : Type} {cs : List α} (h : cs.length = 6) : ∃ c0 c1 c2 c3 c4 c5, cs = [c0, c1, c2, c3, c4, c5] := by
  match cs, h with
  | [c0, c1, c2, c3, c4, c5], _ => exact ⟨c0, c1, c2, c3, c4, c5, rfl⟩
theorem trod_named (fuel : Nat) (cs : List Value) (x : DataW H × List MemPlace) (hl : cs.length = 6) (h : DataW.trod enc Tryz.prog W 0 (fun _ => true) true fuel 58 cs = some x) :
    ∃ n : Nm, cs = [.string n.s, .bool n.F.wide, .map n.i, .int .i64 n.F.miss, .map n.j, .slice n.al n.F.l.length n.cap] ∧ NmIn W n := by
  obtain ⟨xs, k, hn, hxx, hl', hlen, hx⟩ := DataW.trod_struct Tryz.underlying58 h
  obtain ⟨c0, c1, c2, c3, c4, c5, rfl⟩ := list6N hl
  have hxl : xs.length = 2 := hlen
  obtain ⟨y0, y1, rfl⟩ := list2 hxl
  have g0 : DataW.trod enc Tryz.prog W 0 (fun _ => true) true k 9 [c0] = some y0 := hx 0 _ rfl
  have g1 : DataW.trod enc Tryz.prog W 0 (fun _ => true) true k 56 [c1, c2, c3, c4, c5] = some y1 := hx 1 _ rfl
  obtain ⟨nm, q0, p0, hnm⟩ := DataW.trod_string Tryz.underlying9 g0
  obtain ⟨F, mw, mn, al, c, e, hF, hW, ⟨i, rfl⟩, ⟨j, rfl⟩⟩ := font_cells g1
  simp only [List.cons.injEq, and_true] at q0
  subst q0
  unfold ftV at e
  injection e with e
  have e' := congrArg Array.toList e
  simp at e'
  obtain ⟨rfl, rfl, rfl, rfl, rfl⟩ := e'
  exact ⟨⟨nm, F, i, j, al, c⟩, rfl, hF, hW, hnm⟩
theorem open_named {base : Nat} {v : Value} {d : DataW H} {p : List MemPlace} (hv : Value.okWide Tryz.prog W .any base 23 v) (h : DataW.Trod enc Tryz.prog W 0 (fun _ => true) true 23 v d p) :
    ∃ N, NmsAt W v N := by
  obtain ⟨a0, n0, c0, rfl⟩ := okWide_slice Tryz.underlying23 hv
  obtain ⟨fuel, hf⟩ := h
  obtain ⟨al, len, cap, es, q, hl, hlen, hbl, hL⟩ := trod_list Tryz.underlying23 cellsNm (by omega) hf
  have hL2 : ∀ i : Nat, ∃ n : Nm, ∀ y, es[i]? = some y → ∃ b off, al = some ⟨b, off, none⟩ ∧ b < W.heap.size ∧ W.cell? ⟨b, off + i * 6, none⟩ = some (.string n.s) ∧ W.cell? ⟨b, off + i * 6 + 1, none⟩ = some (.bool n.F.wide) ∧ W.cell? ⟨b, off + i * 6 + 2, none⟩ = some (.map n.i) ∧ W.cell? ⟨b, off + i * 6 + 3, none⟩ = some (.int .i64 n.F.miss) ∧ W.cell? ⟨b, off + i * 6 + 4, none⟩ = some (.map n.j) ∧ W.cell? ⟨b, off + i * 6 + 5, none⟩ = some (.slice n.al n.F.l.length n.cap) ∧ NmIn W n := fun i => by
    cases hi : es[i]? with
    | none => exact ⟨⟨ByteArray.empty, ⟨false, fun _ => none, 0, fun _ => none, []⟩, none, none, none, 0⟩, fun y h => by cases h⟩
    | some y =>
      obtain ⟨b, off, c, z1, z2, z3, z4, z5⟩ := hL i y hi
      obtain ⟨n, rfl, hn⟩ := trod_named _ c y z3 z5
      refine ⟨n, fun y' h => ?_⟩
      cases h
      exact ⟨b, off, z1, z2, z4 0 _ rfl, z4 1 _ rfl, z4 2 _ rfl, z4 3 _ rfl, z4 4 _ rfl, z4 5 _ rfl, hn⟩
  obtain ⟨gL, hgL⟩ := Classical.axiomOfChoice hL2
  injection q with q1 q2 q3
  subst q1 q2 q3
  have hget : ∀ (i : Nat) v, ((List.range n0).map gL)[i]? = some v → i < n0 ∧ v = gL i := fun i v hv => by
    simp only [List.getElem?_map, Option.map_eq_some_iff] at hv
    obtain ⟨j, hj, rfl⟩ := hv
    have hi := (List.getElem?_eq_some_iff.1 hj).1
    simp at hi
    have : j = i := by simpa [List.getElem?_range hi] using hj.symm
    subst this
    exact ⟨hi, rfl⟩
  refine ⟨(List.range n0).map gL, a0, c0, by simp, by simpa using hl, fun i o ho => ?_⟩
  obtain ⟨hi, rfl⟩ := hget i o ho
  exact hgL i _ (List.getElem?_eq_getElem (by omega))
end
end Go.Proofs.YtobpidmlgldnmaaGreatDoor

/-
  How many operators, and how many parts of their values, a bulk has.
-/
namespace Go.Proofs.YtobpidmlgldnmaaGreatDoor
open Go.RowKit
set_option maxRecDepth 100000
theorem opsBulk_len : ∀ (l : List OpP), l.length ≤ opsBulk l
  | [] => Nat.zero_le _
  | o :: r => by have := opsBulk_len r; rw [opsBulk, List.length_cons]; omega
theorem opsBulk_cnt {L : List OpP} {n : Nat} (h : opsBulk L ≤ n) : ∀ o ∈ L, ∀ v ∈ o.2, v.cnt ≤ n := fun o ho v hv => by
  have h1 := opsBulk_mem L o ho
  have h2 := bulkL_mem o.2 v hv
  have h3 := cnt_le_bulk v
  omega
end Go.Proofs.YtobpidmlgldnmaaGreatDoor

/-
  Operators that a law makes, in memory.
-/
namespace Go.Proofs.YtobpidmlgldnmaaGreatDoor
open Go.RowKit
set_option maxRecDepth 100000

theorem rep_nil (d : Nat) (w : World) : RepN (d + 1) w (listV5 []) (listC (.slice none 0 0)) :=
  ⟨none, none, 0, 0, rfl, ⟨by unfold listV5 eB; unfold maxLen; decide, Nat.zero_le _, Nat.zero_le _⟩, fun i x h => by simp [listV5] at h, fun i q h => by simp [listV5] at h⟩
def opsC (l : List (OpP × Value)) : List Value := l.flatMap fun o => [.string o.1.1, o.2]
theorem opsC_at : ∀ (l : List (OpP × Value)) (i : Nat) x, l[i]? = some x → (opsC l)[i * 2]? = some (.string x.1.1) ∧ (opsC l)[i * 2 + 1]? = some x.2
  | [], i, x, h => by simp at h
  | y :: l, 0, x, h => by
    simp at h; subst h
    exact ⟨rfl, rfl⟩
  | y :: l, i + 1, x, h => by
    have q := opsC_at l i x (by simpa using h)
    have e : opsC (y :: l) = .string y.1.1 :: y.2 :: opsC l := rfl
    rw [e, show (i + 1) * 2 = i * 2 + 1 + 1 by omega, show i * 2 + 1 + 1 + 1 = (i * 2 + 1) + 1 + 1 by omega]
    simp only [List.getElem?_cons_succ]
    exact q
/-- Operators in a row that was made. -/
theorem ops_own {d : Nat} {w : World} {B : Nat} {v : Value} (l : List (OpP × Value)) (h : w.ownsRow B 41 2 v l.length (opsC l)) (hr : ∀ x ∈ l, x.1.1.size ≤ maxLen ∧ RepN d w (listV5 x.1.2) (listC x.2)) (hn : l.length ≤ maxLen) : OpsN d w v (l.map (·.1)) := by
  have hc := fun g => World.ownsRow.cells h (g := g)
  obtain ⟨_, ⟨rfl, h2⟩ | ⟨g, cap, cur, rfl, h2, h3, h4, _⟩⟩ := h
  · obtain rfl := List.eq_nil_of_length_eq_zero h2
    exact ⟨none, 0, rfl, Nat.zero_le _, fun i x hx => by simp at hx⟩
  · refine ⟨_, cap, by rw [List.length_map], by rw [List.length_map]; exact hn, fun i x hx => ?_⟩
    rw [List.getElem?_map] at hx
    cases hy : l[i]? with
    | none => rw [hy] at hx; cases hx
    | some y =>
      rw [hy] at hx
      injection hx with hx
      subst hx
      obtain ⟨q0, q1⟩ := opsC_at l i y hy
      have k0 := hc g rfl _ _ q0
      have k1 := hc g rfl _ _ q1
      rw [Lib.add_plain, Nat.zero_add] at k0 k1
      have hh := hr y (List.mem_of_getElem? hy)
      exact ⟨g, 0, y.2, rfl, (Array.getElem?_eq_some_iff.1 h3).1, by rw [Nat.zero_add]; exact k0, by rw [Nat.zero_add]; exact k1, hh.1, hh.2⟩
/-- What stands ahead of a string that is shown. -/
structure HeadAt (w : World) (a1 a2 a3 hb Hp : Nat) (n c z : Int) : Prop where
  h1 : At w a1 38 #[.int .i64 4, .int .i64 0, .string ⟨#[70]⟩, .slice none 0 0, .slice none 0 0, .int .i64 2, .int .i64 n, .string ⟨#[]⟩, .slice none 0 0, .slice none 0 0]
  h2 : At w a2 38 #[.int .i64 2, .int .i64 c, .string ⟨#[]⟩, .slice none 0 0, .slice none 0 0]
  h3 : At w a3 38 #[.int .i64 2, .int .i64 z, .string ⟨#[]⟩, .slice none 0 0, .slice none 0 0]
  h4 : At w hb 41 #[.string ⟨#[66, 84]⟩, .slice none 0 0, .string ⟨#[84, 102]⟩, .slice (some ⟨a1, 0, none⟩) 2 2, .string ⟨#[84, 99]⟩, .slice (some ⟨a2, 0, none⟩) 1 1, .string ⟨#[84, 122]⟩, .slice (some ⟨a3, 0, none⟩) 1 1]
  h5 : At w Hp 22 #[.slice (some ⟨hb, 0, none⟩) 4 4]
theorem HeadAt.later {w w' : World} {a1 a2 a3 hb Hp : Nat} {n c z : Int} (h : HeadAt w a1 a2 a3 hb Hp n c z) (b : Below w.heap.size w w') : HeadAt w' a1 a2 a3 hb Hp n c z := ⟨h.h1.later b, h.h2.later b, h.h3.later b, h.h4.later b, h.h5.later b⟩
end Go.Proofs.YtobpidmlgldnmaaGreatDoor

/-
  A row that a literal made.
-/
namespace Go.Proofs.YtobpidmlgldnmaaGreatDoor
open Go.RowKit
set_option maxRecDepth 100000

theorem lit_row {w : World} {B g n z : Nat} {T : TypeId} {cs : Array Value} (h : At w g T cs) (hB : B ≤ g) (hz : cs.size = n * z) (hn : n ≤ maxLen) : w.ownsRow B T z (.slice (some ⟨g, 0, none⟩) n n) n cs.toList := by
  refine ⟨by simpa using hz, .inr ⟨g, n, cs, rfl, hB, h, Nat.le_refl _, hn, hz, ?_⟩⟩
  rw [List.take_of_length_le (by simpa using Nat.le_of_eq hz)]
/-- Operators as a slice: their cells one behind the other. -/
theorem ops_cells {d : Nat} {w : World} {t : Value} {L : List OpP} (h : OpsN d w t L) : ∃ (a : Option Addr) (c : Nat) (X : List (OpP × Value)), t = .slice a L.length c ∧ X.map (·.1) = L ∧ (∀ x ∈ X, x.1.1.size ≤ maxLen ∧ RepN d w (listV5 x.1.2) (listC x.2)) ∧ (∀ (i : Nat) x, X[i]? = some x → ∃ b off, a = some ⟨b, off, none⟩ ∧ b < w.heap.size ∧ w.cell? ⟨b, off + i * 2, none⟩ = some (.string x.1.1) ∧ w.cell? ⟨b, off + i * 2 + 1, none⟩ = some x.2) := by
  obtain ⟨a, c, rfl, hl, hx⟩ := h
  have h2 : ∀ i : Nat, ∃ tA : Value, ∀ o, L[i]? = some o → ∃ b off, a = some ⟨b, off, none⟩ ∧ b < w.heap.size ∧ w.cell? ⟨b, off + i * 2, none⟩ = some (.string o.1) ∧ w.cell? ⟨b, off + i * 2 + 1, none⟩ = some tA ∧ o.1.size ≤ maxLen ∧ RepN d w (listV5 o.2) (listC tA) := fun i => by
    cases hi : L[i]? with
    | none => exact ⟨.nilIface, fun o h => by cases h⟩
    | some o =>
      obtain ⟨b, off, tA, q1, q2, q3, q4, q5, q6⟩ := hx i o hi
      exact ⟨tA, fun o' h => by cases h; exact ⟨b, off, q1, q2, q3, q4, q5, q6⟩⟩
  obtain ⟨f, hf⟩ := Classical.axiomOfChoice h2
  have hg : ∀ (i : Nat) x, (L.zipIdx.map fun p => (p.1, f p.2))[i]? = some x → L[i]? = some x.1 ∧ x.2 = f i := by
    intro i x hx
    rw [List.getElem?_map, List.getElem?_zipIdx] at hx
    cases hi : L[i]? with
    | none => rw [hi] at hx; cases hx
    | some o =>
      rw [hi] at hx
      simp at hx
      subst hx
      exact ⟨rfl, rfl⟩
  refine ⟨a, c, L.zipIdx.map fun p => (p.1, f p.2), rfl, ?_, fun x hx => ?_, fun i x hx => ?_⟩
  · rw [List.map_map]
    apply List.ext_getElem?
    intro i
    rw [List.getElem?_map, List.getElem?_zipIdx]
    cases L[i]? <;> simp
  · obtain ⟨i, hi⟩ := List.getElem?_of_mem hx
    obtain ⟨e1, e2⟩ := hg i x hi
    obtain ⟨b, off, _, _, _, _, q5, q6⟩ := hf i x.1 e1
    rw [e2]; exact ⟨q5, q6⟩
  · obtain ⟨e1, e2⟩ := hg i x hx
    obtain ⟨b, off, q1, q2, q3, q4, _, _⟩ := hf i x.1 e1
    rw [e2]; exact ⟨b, off, q1, q2, q3, q4⟩
end Go.Proofs.YtobpidmlgldnmaaGreatDoor

/-
  Numbers that are no great ones; a law's closure; what is told of a page that is moved along.
-/
namespace Go.Proofs.YtobpidmlgldnmaaGreatDoor
open Go.RowKit
set_option maxRecDepth 100000

def AllIn (l : List Int) : Prop := ∀ z ∈ l, -1000000 ≤ z ∧ z ≤ 1000000
theorem AllIn.snoc {l : List Int} {p : Nat} {z : Int} (h : AllIn (l.take p)) (ho : l[p]? = some z) (k : -1000000 ≤ z ∧ z ≤ 1000000) : AllIn (l.take (p + 1)) := by
  rw [List.take_add_one, ho]
  intro x hx
  rcases List.mem_append.1 hx with hx | hx
  · exact h x hx
  · simp at hx; rw [hx]; exact k
end Go.Proofs.YtobpidmlgldnmaaGreatDoor

/-
  Operators whose values may be.
-/
namespace Go.Proofs.YtobpidmlgldnmaaGreatDoor
open Go.RowKit
set_option maxRecDepth 100000

theorem shp_ok {v : V} (h : v.Shp) : v.s.size ≤ 1000 ∧ ∀ u ∈ v.l, u.s.size ≤ 1000 := by
  rw [shp_eq] at h
  refine ⟨Nat.le_trans (own_s h.1) (by omega), fun u hu => ?_⟩
  obtain ⟨i, hi⟩ := List.getElem?_of_mem hu
  have := (shpL_iff v.l).1 h.2.1 i u hi
  rw [shp_eq] at this
  exact Nat.le_trans (own_s this.1) (by omega)
theorem fault_shp {v : V} (h : faultV v = 0) : v.Shp := by
  unfold faultV at h
  split at h
  · cases h
  · split at h
    · assumption
    · cases h
/-- Operators whose values may be. -/
def GoodL (L : List OpP) : Prop := ∀ o ∈ L, okA o.2
theorem GoodL.snoc {L : List OpP} {p : Nat} {o : OpP} (h : GoodL (L.take p)) (ho : L[p]? = some o) (k : okA o.2) : GoodL (L.take (p + 1)) := by
  rw [List.take_add_one, ho]
  intro x hx
  rcases List.mem_append.1 hx with hx | hx
  · exact h x hx
  · simp at hx; rw [hx]; exact k
theorem okA_snoc {A : List V} {p : Nat} {v : V} (h : okA (A.take p)) (ho : A[p]? = some v) (k : faultV v = 0) : okA (A.take (p + 1)) := by
  rw [List.take_add_one, ho]
  intro x hx
  rcases List.mem_append.1 hx with hx | hx
  · exact h x hx
  · simp at hx; rw [hx]; exact shp_ok (fault_shp k)
theorem fault_23 (v : V) : faultV v = 0 ∨ errN (faultV v) = .iface 68 (.int .i64 2) ∨ errN (faultV v) = .iface 68 (.int .i64 3) := by
  unfold faultV
  split
  · exact .inr (.inl rfl)
  · split
    · exact .inl rfl
    · exact .inr (.inr rfl)
set_option maxHeartbeats 4000000 in
theorem good_says (d : Nat) (L : List OpP) (t : Value) (w : World) (hL : OpsN d w t L) (hc : ∀ o ∈ L, ∀ v ∈ o.2, v.cnt ≤ 1048576) :
    Calls Tryz.prog 8 #[t] w fun e w' => (e = .returned (.bool false) ∨ e = .returned (.bool true) ∧ GoodL L) ∧ Below w.heap.size w w' := by
  have HL := hid (lightOps_any d L t w hL)
  obtain ⟨a, c, rfl, hl, hx⟩ := hL
  unfold maxLen at hl
  have HX := hid hx
  have HC := hid hc
  clear hx hc
  go_enter Tryz.func8, Tryz.ntmps8
  go_wp2_with (go_at_call 21; fail)
  go_at_call 21
  refine HL.out.mono ?_
  rintro e w1 ⟨⟨r, rfl⟩, hb⟩
  have B1 := hid hb
  clear hb HL
  cases r with
  | false =>
    go_wp2_with fail
    go_ret
    exact ⟨.inl rfl, B1.out⟩
  | true =>
    go_wp2_with fail
    go_loopw [3] (fun i wr => ∃ (p : Nat) , i = .int .i64 p ∧ p ≤ L.length ∧ GoodL (L.take p) ∧ Below w.heap.size w wr) (fun i _ => L.length - (intOf i).toNat)
    case atStart => exact ⟨0, rfl, Nat.zero_le _, fun o ho => by simp at ho, B1.out⟩
    case round =>
      obtain ⟨p, rfl, hp, hok, hB⟩ := hrel
      have HO := hid hok
      have HB := hid hB
      clear hok
      by_cases hpl : p < L.length
      · have hpl' : (p : Int) < L.length := by omega
        obtain ⟨o, ho⟩ : ∃ o, L[p]? = some o := ⟨L[p], by simp [hpl]⟩
        have HG := hid ho
        obtain ⟨b, off, tA, rfl, hb, m0, m1, hsz, hr⟩ := HX.out p o ho
        obtain ⟨a2, c2, rfl, hl2, hx2⟩ := rep_list hr
        unfold maxLen at hl2
        have HX2 := hid hx2
        have M1 := hid m1
        have HBB := hid hb
        have m1 := (hB.cell (p := ⟨b, off + p * 2 + 1, none⟩) hb).trans m1
        have hb2 := Nat.lt_of_lt_of_le hb hB.size
        clear ho hr hx2 m0 hsz hb
        go_wp2_with fail
        go_loopw [4] (fun k wx => ∃ (q : Nat), k = .int .i64 q ∧ q ≤ o.2.length ∧ okA (o.2.take q) ∧ Below w.heap.size w wx) (fun k _ => o.2.length - (intOf k).toNat)
        case atStart => exact ⟨0, rfl, Nat.zero_le _, fun v hv => by simp at hv, HB.out⟩
        case round =>
          obtain ⟨q, rfl, hq, hoq, hBq⟩ := hrel
          have HOQ := hid hoq
          have HBQ := hid hBq
          have n1 := (hBq.cell (p := ⟨b, off + p * 2 + 1, none⟩) HBB.out).trans M1.out
          have nb := Nat.lt_of_lt_of_le HBB.out hBq.size
          clear hoq m1 hb2
          by_cases hql : q < o.2.length
          · have hql' : (q : Int) < o.2.length := by omega
            obtain ⟨x, hx⟩ : ∃ x, o.2[q]? = some x := ⟨o.2[q], by simp [hql]⟩
            have HX3 := hid hx
            obtain ⟨b3, off3, cs, rfl, hb3, hc3, hr3⟩ := HX2.out q x hx
            have HR3 := hid (hr3.later hBq)
            obtain ⟨e', he'⟩ := hr3.inv
            have hr4 := hr3
            rw [he'] at hr4
            obtain ⟨al, af, cl, cf, rfl, _⟩ := hr4
            have hc4 := hc3.later hb3 hBq
            have hb4 := Nat.lt_of_lt_of_le hb3 hBq.size
            have k0 := hc4 0 _ rfl
            have k1 := hc4 1 _ rfl
            have k2 := hc4 2 _ rfl
            have k3 := hc4 3 _ rfl
            have k4 := hc4 4 _ rfl
            simp only [Nat.add_zero] at k0
            clear hx hr3 hc3 hc4 hb3 he'
            go_wp2_with (go_at_call 22; fail)
            go_at_call 22
            refine (check_says HR3.out (HC.out o (List.mem_of_getElem? HG.out) x (List.mem_of_getElem? HX3.out))).mono ?_
            rintro e w2 ⟨rfl, hb5⟩
            have HB5 := hid (chn0 hBq hb5)
            clear hb5 k0 k1 k2 k3 k4 n1
            rcases fault_23 x with hf | hf | hf
            · have HF := hid hf
              rw [hf, errN_0]
              clear hf
              go_wp2_with fail
              go_roundw
              case rel => exact ⟨q + 1, by go_num, by omega, okA_snoc HOQ.out HX3.out HF.out, HB5.out⟩
              case measure => simp [intOf]; omega
            · rw [hf]
              clear hf
              go_wp2_with fail
              go_ret
              exact ⟨.inl rfl, HB5.out⟩
            · rw [hf]
              clear hf
              go_wp2_with fail
              go_ret
              exact ⟨.inl rfl, HB5.out⟩
          · have hql' : ¬ (q : Int) < o.2.length := by omega
            have hqe : q = o.2.length := by omega
            subst hqe
            have h0 := HOQ.out
            rw [List.take_length] at h0
            have HE := hid h0
            clear h0
            go_wp2_with fail
            go_roundw
            case rel => exact ⟨p + 1, by go_num, by omega, HO.out.snoc HG.out HE.out, HBQ.out⟩
            case measure => simp [intOf]; omega
      · have hpl' : ¬ (p : Int) < L.length := by omega
        have hpe : p = L.length := by omega
        subst hpe
        have h0 := HO.out
        rw [List.take_length] at h0
        have HE := hid h0
        clear h0
        go_wp2_with fail
        go_ret
        exact ⟨.inr ⟨rfl, HE.out⟩, HB.out⟩
end Go.Proofs.YtobpidmlgldnmaaGreatDoor

/-
  A page that is moved along: operators with one more ahead of them.
-/
namespace Go.Proofs.YtobpidmlgldnmaaGreatDoor
open Go.RowKit
set_option maxRecDepth 100000

theorem OpsN.mono {d d' : Nat} {w : World} {t : Value} {L : List OpP} (h : OpsN d w t L) (hd : d ≤ d') : OpsN d' w t L := by
  obtain ⟨a, c, h1, h2, h3⟩ := h
  refine ⟨a, c, h1, h2, fun i o ho => ?_⟩
  obtain ⟨b, off, tA, q1, q2, q3, q4, q5, q6⟩ := h3 i o ho
  exact ⟨b, off, tA, q1, q2, q3, q4, q5, q6.mono hd⟩
theorem run_app_nil {w : World} (base : Nat) (ty e : TypeId) (i : TypeInfo) (size c : Nat) (t : TypeId) (ht : Tryz.prog.underlying t = some (.slice e)) (hi : Tryz.prog.info? e = some i)
    (v : Value) (n : Nat) (xs : List Value) (hown : w.ownsRow base e size v n xs) : (Builtin.append_ #[t, t] ty #[v, .slice none 0 c]).run Tryz.prog w = .ok v w := by
  rcases hown.2 with ⟨rfl, rfl⟩ | ⟨g, cap, cur, rfl, _, _, hnc, _⟩
  · simp [Builtin.append_, run_underlying ht, sizeOf, typeInfo, hi, Builtin.lenOf, Builtin.firstCells]
  · simp [Builtin.append_, run_underlying ht, sizeOf, typeInfo, hi, Builtin.lenOf, Builtin.firstCells, hnc, storeCells]
theorem opsC_len (l : List (OpP × Value)) : (opsC l).length = l.length * 2 := by
  induction l with
  | nil => rfl
  | cons x l ih => simp only [opsC, List.flatMap_cons, List.length_append, List.length_cons, List.length_nil] at *; omega
theorem opsC_one (l : List (OpP × Value)) (h : ∀ x ∈ l, x.2.oneCell' = true) : ∀ u ∈ opsC l, u.oneCell' = true := by
  intro u hu
  simp only [opsC, List.mem_flatMap] at hu
  obtain ⟨x, hx, hu⟩ := hu
  simp at hu
  rcases hu with rfl | rfl
  · rfl
  · exact h x hx
theorem listC_one {d : Nat} {w : World} {l : List V} {t : Value} (h : RepN d w (listV5 l) (listC t)) : ∃ a n c, t = .slice a n c := by
  cases d with
  | zero => exact absurd h (by simp [RepN])
  | succ d =>
    obtain ⟨al, af, cl, cf, e, _⟩ := h
    unfold listC at e
    injection e with _ e
    injection e with _ e
    injection e with _ e
    injection e with e _
    exact ⟨_, _, _, e⟩
section
variable {W0 : World} {ops : Array Oper} {rest : List Oper} {o : Oper} {act : Act} {Q : Exit → Act → World → Prop}
end
end Go.Proofs.YtobpidmlgldnmaaGreatDoor

/-
  Operators, and glyphs, in rows that a call makes piece by piece.
-/
namespace Go.Proofs.YtobpidmlgldnmaaGreatDoor
open Go.RowKit
set_option maxRecDepth 100000

/-- Operators in a row of a call's own; their values stood before. -/
structure OwnOps (d : Nat) (W0 w : World) (v : Value) (X : List (OpP × Value)) : Prop where
  own : w.ownsRow W0.heap.size 41 2 v X.length (opsC X)
  rep : ∀ x ∈ X, x.1.1.size ≤ maxLen ∧ RepN d W0 (listV5 x.1.2) (listC x.2)
  below : Below W0.heap.size W0 w
theorem OwnOps.start {d : Nat} {W0 : World} (n0 : ByteArray) (h0 : n0.size ≤ maxLen) : OwnOps (d + 1) W0 (W0.alloc (.cells #[.string n0, .slice none 0 0] 41)) (.slice (some ⟨W0.heap.size, 0, none⟩) 1 1) [((n0, []), .slice none 0 0)] :=
  ⟨lit_row (At.new W0 #[.string n0, .slice none 0 0] 41 rfl) (Nat.le_refl _) rfl (by unfold maxLen; omega), fun x hx => by
    rw [List.mem_singleton] at hx
    subst hx
    exact ⟨h0, rep_nil d W0⟩, (Below.refl _ _).alloc (Nat.le_refl _) _⟩
theorem OwnOps.ops {d : Nat} {W0 w : World} {v : Value} {X : List (OpP × Value)} (h : OwnOps d W0 w v X) (hn : X.length ≤ 100000000) : OpsN d w v (X.map (·.1)) :=
  ops_own X h.own (fun x hx => ⟨(h.rep x hx).1, (h.rep x hx).2.later h.below⟩) (by unfold maxLen; omega)
theorem opsC_app (X Y : List (OpP × Value)) : opsC (X ++ Y) = opsC X ++ opsC Y := by simp [opsC]
section
variable {W0 W : World} {ops : Array Oper} {rest : List Oper} {o : Oper} {act : Act} {Q : Exit → Act → World → Prop}
theorem wpAppO (hgd : o.guard = none) (s x : Operand) (ho : o.op = .call { callee := .builtin .append, args := #[s, x], argTypes := #[22, 22] })
    (d : Nat) (X Y : List (OpP × Value)) (v : Value) (hs : act.eval s = v) (hO : OwnOps d W0 W v X) (a : Option Addr) (n c : Nat) (hn : Y.length = n) (hx : act.eval x = .slice a n c)
    (hc : ∀ (i : Nat) y, Y[i]? = some y → ∃ b off, a = some ⟨b, off, none⟩ ∧ W.cell? ⟨b, off + i * 2, none⟩ = some (.string y.1.1) ∧ W.cell? ⟨b, off + i * 2 + 1, none⟩ = some y.2)
    (hr : ∀ x ∈ Y, x.1.1.size ≤ maxLen ∧ RepN d W0 (listV5 x.1.2) (listC x.2)) (hl : X.length + Y.length ≤ 100000000)
    (h : ∀ v' w', OwnOps d W0 w' v' (X ++ Y) → wpList Tryz.prog ops Q rest (act.put o.dst v') w') : wpList Tryz.prog ops Q (o :: rest) act W := by
  subst hn
  obtain ⟨iV, hiV, hv0, hv1, hv2⟩ := info_parts infoOp
  have one : ∀ x ∈ Y, x.2.oneCell' = true := fun x hx => by
    obtain ⟨_, _, _, e⟩ := listC_one (hr x hx).2
    rw [e]; rfl
  have rep : ∀ x ∈ X ++ Y, x.1.1.size ≤ maxLen ∧ RepN d W0 (listV5 x.1.2) (listC x.2) := fun x hx => (List.mem_append.1 hx).elim (hO.rep x) (hr x)
  cases a with
  | none =>
    have hX0 : Y = [] := by
      cases Y with
      | nil => rfl
      | cons y Y => obtain ⟨b, off, e, _⟩ := hc 0 y rfl; cases e
    subst hX0
    have hrun := run_app_nil W0.heap.size o.type 41 iV 2 c 22 Tryz.underlying22 hiV _ _ _ hO.own
    refine wpList_plain hgd fun K hK => ?_
    unfold Oper.wp execOp
    simp only [ho, resolve, invoke, builtin, Sem.run_bind, Sem.run_pure, Result.andThen_ok, List.map_toArray, List.map_cons, List.map_nil, hs, hx, List.length_nil, hrun]
    exact hK _ _ (h _ _ (by rw [List.append_nil]; exact hO))
  | some ad =>
    have hcells : ∀ (j : Nat) u, (opsC Y)[j]? = some u → W.cell? (ad.add j) = some u := fun j u hj => by
      have hj2 := (List.getElem?_eq_some_iff.1 hj).1
      rw [opsC_len] at hj2
      have hi : j / 2 < Y.length := by omega
      obtain ⟨b, off, e, k0, k1⟩ := hc (j / 2) Y[j / 2] (List.getElem?_eq_getElem hi)
      injection e with e
      subst e
      obtain ⟨m0, m1⟩ := opsC_at Y (j / 2) Y[j / 2] (List.getElem?_eq_getElem hi)
      rw [Lib.add_plain]
      rcases Nat.mod_two_eq_zero_or_one j with q | q
      · have ej : j = j / 2 * 2 := by omega
        rw [ej] at hj ⊢
        rw [m0] at hj
        rw [← hj]; exact k0
      · have ej : j = j / 2 * 2 + 1 := by omega
        rw [ej] at hj ⊢
        rw [m1] at hj
        rw [← hj]; exact k1
    refine wpList_append_own_at (P := Tryz.prog) _ hgd s x _ ho W0.heap.size _ iV _ 2 40 Tryz.underlying22 hiV hv0 hv1 hv2 rfl (by decide) _ X.length _ hs hO.own ad Y.length c (opsC Y) hx (by rw [opsC_len]) hcells (opsC_one Y one) (by unfold maxLen; omega) (by omega) hO.below.size ?_
    intro v' w' O2 g2 _ _
    exact h v' w' ⟨by rw [List.length_append, opsC_app]; exact O2, rep, hO.below.grown g2 hO.below.size (fun j hj => (hO.own.lt j hj).1)⟩
end
theorem OwnOps.alloc {d : Nat} {W0 w : World} {v : Value} {X : List (OpP × Value)} (h : OwnOps d W0 w v X) (o : Obj) : OwnOps d W0 (w.alloc o) v X := ⟨h.own.alloc o, h.rep, h.below.alloc h.below.size o⟩
theorem one_op (w : World) (n : ByteArray) (t : Value) : ∀ (i : Nat) y, ([((n, []), t)] : List (OpP × Value))[i]? = some y → ∃ b off, some (⟨w.heap.size, 0, none⟩ : Addr) = some ⟨b, off, none⟩ ∧ (w.alloc (.cells #[.string n, t] 41)).cell? ⟨b, off + i * 2, none⟩ = some (.string y.1.1) ∧ (w.alloc (.cells #[.string n, t] 41)).cell? ⟨b, off + i * 2 + 1, none⟩ = some y.2 := fun i y hy => by
  have hA := At.new w #[.string n, t] 41 rfl
  match i, hy with
  | 0, hy =>
    injection hy with hy
    subst hy
    exact ⟨_, 0, rfl, hA.cell 0, hA.cell 1⟩
  | i + 1, hy => simp at hy
theorem one_rep {d : Nat} {W0 : World} {n : ByteArray} (h : n.size ≤ maxLen) : ∀ x ∈ ([((n, []), .slice none 0 0)] : List (OpP × Value)), x.1.1.size ≤ maxLen ∧ RepN (d + 1) W0 (listV5 x.1.2) (listC x.2) := fun x hx => by
  rw [List.mem_singleton] at hx
  subst hx
  exact ⟨h, rep_nil d W0⟩
theorem infoGly : (Tryz.prog.info? 48).map (fun i => (i.zero.map (fun z => z.cells.size), i.size, i.bytes)) = some (some 10, 10, 88) := by kernel_rfl
theorem info_gly : ∃ i z, Tryz.prog.info? 48 = some i ∧ i.zero = some z ∧ i.size = 10 ∧ i.bytes = 88 ∧ z.cells.size = 10 := by
  obtain ⟨i, hi, h⟩ := Option.map_eq_some_iff.1 infoGly
  simp only [Prod.mk.injEq, Option.map_eq_some_iff] at h
  obtain ⟨⟨z, hz, hz2⟩, h1, h2⟩ := h
  exact ⟨i, z, hi, hz, h1, h2, hz2⟩
theorem flatG_len (l : List Gl) : (flatG l).length = l.length * 10 := by
  induction l with
  | nil => rfl
  | cons x l ih => rw [show flatG (x :: l) = x.cs ++ flatG l by simp [flatG], List.length_append, ih, List.length_cons, show x.cs.length = 10 from rfl]; omega
theorem flatG_one (l : List Gl) : ∀ u ∈ flatG l, u.oneCell' = true := by
  intro u hu
  simp only [flatG, List.mem_flatMap] at hu
  obtain ⟨x, _, hu⟩ := hu
  simp only [Gl.cs, List.mem_cons, List.not_mem_nil, or_false] at hu
  rcases hu with rfl | rfl | rfl | rfl | rfl | rfl | rfl | rfl | rfl | rfl <;> rfl
/-- Glyphs in a row of a call's own. -/
def OwnGl (B : Nat) (w : World) (v : Value) (l : List Gl) : Prop := w.ownsRow B 48 10 v l.length (flatG l)
section
variable {W : World} {ops : Array Oper} {rest : List Oper} {o : Oper} {act : Act} {Q : Exit → Act → World → Prop}
theorem wpAppGl (hgd : o.guard = none) (s x : Operand) (ho : o.op = .call { callee := .builtin .append, args := #[s, x], argTypes := #[30, 30] })
    (B : Nat) (l k : List Gl) (v : Value) (hs : act.eval s = v) (hO : OwnGl B W v l) (hB : B ≤ W.heap.size) (a : Option Addr) (n c : Nat) (hn : k.length = n) (hx : act.eval x = .slice a n c) (hG : GlAt W a k) (hl : l.length + k.length ≤ 100000000)
    (h : ∀ v' w', OwnGl B w' v' (l ++ k) → Below B W w' → wpList Tryz.prog ops Q rest (act.put o.dst v') w') : wpList Tryz.prog ops Q (o :: rest) act W := by
  subst hn
  obtain ⟨iV, zV, hiV, hv0, hv1, hv2, hv3⟩ := info_gly
  cases a with
  | none =>
    have hX0 : k = [] := by
      cases k with
      | nil => rfl
      | cons y k => obtain ⟨b, off, e, _⟩ := hG 0 y rfl; cases e
    subst hX0
    have hrun := run_app_nil B o.type 48 iV 10 c 30 Tryz.underlying30 hiV _ _ _ hO
    refine wpList_plain hgd fun K hK => ?_
    unfold Oper.wp execOp
    simp only [ho, resolve, invoke, builtin, Sem.run_bind, Sem.run_pure, Result.andThen_ok, List.map_toArray, List.map_cons, List.map_nil, hs, hx, List.length_nil, hrun]
    exact hK _ _ (h _ _ (by rw [List.append_nil]; exact hO) (Below.refl _ _))
  | some ad =>
    have hcells : ∀ (j : Nat) u, (flatG k)[j]? = some u → W.cell? (ad.add j) = some u := fun j u hj => by
      have hj2 := (List.getElem?_eq_some_iff.1 hj).1
      rw [flatG_len] at hj2
      have hi : j / 10 < k.length := by omega
      obtain ⟨b, off, e, _, k0⟩ := hG (j / 10) k[j / 10] (List.getElem?_eq_getElem hi)
      injection e with e
      subst e
      have hq : j % 10 < (k[j / 10]).cs.length := by show j % 10 < 10; omega
      have m0 := flatG_at k (j / 10) k[j / 10] (List.getElem?_eq_getElem hi) (j % 10) _ (List.getElem?_eq_getElem hq)
      have ej : j / 10 * 10 + j % 10 = j := by omega
      rw [ej, hj] at m0
      rw [Lib.add_plain, m0]
      have := k0 (j % 10) _ (List.getElem?_eq_getElem hq)
      rw [Nat.add_assoc, ej] at this
      exact this
    refine wpList_append_own_at (P := Tryz.prog) _ hgd s x _ ho B _ iV zV 10 88 Tryz.underlying30 hiV hv0 hv1 hv2 hv3 (by decide) _ l.length _ hs hO ad k.length c (flatG k) hx (by rw [flatG_len]) hcells (flatG_one k) (by unfold maxLen; omega) (by omega) hB ?_
    intro v' w' O2 g2 _ _
    exact h v' w' (by unfold OwnGl; rw [List.length_append, show flatG (l ++ k) = flatG l ++ flatG k by simp [flatG]]; exact O2) ((Below.refl _ _).grown g2 hB (fun j hj => (World.ownsRow.lt hO j hj).1))
end
end Go.Proofs.YtobpidmlgldnmaaGreatDoor

/-
  What is done between saving and taking back, plainly.
-/
namespace Go.Proofs.YtobpidmlgldnmaaGreatDoor
open Go.RowKit
set_option maxRecDepth 100000

/-- One more state lies below all that are saved. -/
def dpP (s0 : StP) (p : PS) : PS := { p with saved := s0 :: p.saved }
/-- Glyphs stand ahead. -/
def alP (O : List Gl) (p : PS) : PS := { p with out := O ++ p.out }
def Lk (φ : PS → PS) (r r' : Ex PS) : Prop := ∀ p, r = .ok p → ∀ q, r' = .ok q → q = φ p
theorem Lk.of {φ : PS → PS} {r r' : Ex PS} (h : r' = r.bind fun q => .ok (φ q)) : Lk φ r r' := by
  intro p hp q hq
  rw [hp] at h
  rw [h] at hq
  injection hq with hq
  exact hq.symm
theorem Lk.bind {φ : PS → PS} {r r' : Ex PS} {f : PS → Ex PS} (h : Lk φ r r') (k : ∀ p, Lk φ (f p) (f (φ p))) : Lk φ (r.bind f) (r'.bind f) := by
  intro p hp q hq
  obtain ⟨a, h1, h2⟩ := bindX hp
  obtain ⟨b, h3, h4⟩ := bindX hq
  have e := h a h1 b h3
  subst e
  exact k a p h2 q h4
theorem set1_dp (s0 : StP) (p : PS) (A : List V) : set1X (dpP s0 p) A = (set1X p A).bind fun q => .ok (dpP s0 q) := by
  unfold set1X
  split <;> rfl
theorem set2_dp (s0 : StP) (p : PS) (A : List V) : set2X (dpP s0 p) A = (set2X p A).bind fun q => .ok (dpP s0 q) := by
  unfold set2X
  split <;> rfl
theorem set3_dp (s0 : StP) (p : PS) (A : List V) : set3X (dpP s0 p) A = (set3X p A).bind fun q => .ok (dpP s0 q) := by
  unfold set3X
  split <;> rfl
theorem set4_dp (s0 : StP) (p : PS) (A : List V) : set4X (dpP s0 p) A = (set4X p A).bind fun q => .ok (dpP s0 q) := by
  unfold set4X
  split <;> rfl
theorem set5_dp (s0 : StP) (p : PS) (A : List V) : set5X (dpP s0 p) A = (set5X p A).bind fun q => .ok (dpP s0 q) := by
  unfold set5X
  split <;> rfl
theorem page_dp (s0 : StP) (p : PS) (A : List V) : pageX (dpP s0 p) A = (pageX p A).bind fun q => .ok (dpP s0 q) := by
  unfold pageX
  cases matX A with
  | error k => rfl
  | ok m =>
    show ((conX m p.now.m).bind _) = ((conX m p.now.m).bind _).bind _
    cases conX m p.now.m <;> rfl
theorem turn_dp (s0 : StP) (p : PS) (on : Bool) (A : List V) : turnX (dpP s0 p) on A = (turnX p on A).bind fun q => .ok (dpP s0 q) := by
  unfold turnX
  show (if p.inn = on then _ else _) = _
  split
  · rfl
  · split <;> rfl
theorem choose_dp (s0 : StP) (ff : ByteArray → Option FnC) (p : PS) (A : List V) : chooseX ff (dpP s0 p) A = (chooseX ff p A).bind fun q => .ok (dpP s0 q) := by
  unfold chooseX
  split
  · split
    · split
      · split <;> rfl
      · rfl
    · rfl
  · rfl
theorem line_dp (s0 : StP) (p : PS) (u v : Int) : lineX (dpP s0 p) u v = (lineX p u v).bind fun q => .ok (dpP s0 q) := by
  unfold lineX
  show ((alongX u v p.l).bind _) = ((alongX u v p.l).bind _).bind _
  cases alongX u v p.l <;> rfl
theorem back_dp (s0 : StP) (p : PS) (n : Int) : bckX (dpP s0 p) n = (bckX p n).bind fun q => .ok (dpP s0 q) := by
  unfold bckX textX
  show ((mulX (wrap64 (-n)) p.now.size).bind fun x => (mulX x p.now.scale).bind fun x => (alongX x 0 p.t).bind _) = ((mulX (wrap64 (-n)) p.now.size).bind fun x => (mulX x p.now.scale).bind fun x => (alongX x 0 p.t).bind _).bind _
  cases mulX (wrap64 (-n)) p.now.size with
  | error k => rfl
  | ok a =>
    show ((mulX a p.now.scale).bind fun x => (alongX x 0 p.t).bind _) = ((mulX a p.now.scale).bind fun x => (alongX x 0 p.t).bind _).bind _
    cases mulX a p.now.scale with
    | error k => rfl
    | ok b =>
      show ((alongX b 0 p.t).bind _) = ((alongX b 0 p.t).bind _).bind _
      cases alongX b 0 p.t <;> rfl
theorem move_dp (s0 : StP) (p : PS) (A : List V) : moveX (dpP s0 p) A = (moveX p A).bind fun q => .ok (dpP s0 q) := by
  unfold moveX
  cases pairX A with
  | error k => rfl
  | ok a => exact line_dp s0 p a.1 a.2
theorem lead_dp (s0 : StP) (p : PS) (A : List V) : leadX (dpP s0 p) A = (leadX p A).bind fun q => .ok (dpP s0 q) := by
  unfold leadX
  cases pairX A with
  | error k => rfl
  | ok a => exact line_dp s0 { p with now := { p.now with lead := wrap64 (-a.2) } } a.1 a.2
theorem put_dp (s0 : StP) (p : PS) (A : List V) : putX (dpP s0 p) A = (putX p A).bind fun q => .ok (dpP s0 q) := by
  unfold putX
  cases matX A <;> rfl
theorem next_dp (s0 : StP) (p : PS) (A : List V) : nextX (dpP s0 p) A = (nextX p A).bind fun q => .ok (dpP s0 q) := by
  unfold nextX
  split
  · exact line_dp s0 p 0 (wrap64 (-p.now.lead))
  · rfl
theorem set1_al (O : List Gl) (p : PS) (A : List V) : set1X (alP O p) A = (set1X p A).bind fun q => .ok (alP O q) := by
  unfold set1X
  split <;> rfl
theorem set2_al (O : List Gl) (p : PS) (A : List V) : set2X (alP O p) A = (set2X p A).bind fun q => .ok (alP O q) := by
  unfold set2X
  split <;> rfl
theorem set3_al (O : List Gl) (p : PS) (A : List V) : set3X (alP O p) A = (set3X p A).bind fun q => .ok (alP O q) := by
  unfold set3X
  split <;> rfl
theorem set4_al (O : List Gl) (p : PS) (A : List V) : set4X (alP O p) A = (set4X p A).bind fun q => .ok (alP O q) := by
  unfold set4X
  split <;> rfl
theorem set5_al (O : List Gl) (p : PS) (A : List V) : set5X (alP O p) A = (set5X p A).bind fun q => .ok (alP O q) := by
  unfold set5X
  split <;> rfl
theorem page_al (O : List Gl) (p : PS) (A : List V) : pageX (alP O p) A = (pageX p A).bind fun q => .ok (alP O q) := by
  unfold pageX
  cases matX A with
  | error k => rfl
  | ok m =>
    show ((conX m p.now.m).bind _) = ((conX m p.now.m).bind _).bind _
    cases conX m p.now.m <;> rfl
theorem turn_al (O : List Gl) (p : PS) (on : Bool) (A : List V) : turnX (alP O p) on A = (turnX p on A).bind fun q => .ok (alP O q) := by
  unfold turnX
  show (if p.inn = on then _ else _) = _
  split
  · rfl
  · split <;> rfl
theorem choose_al (O : List Gl) (ff : ByteArray → Option FnC) (p : PS) (A : List V) : chooseX ff (alP O p) A = (chooseX ff p A).bind fun q => .ok (alP O q) := by
  unfold chooseX
  split
  · split
    · split
      · split <;> rfl
      · rfl
    · rfl
  · rfl
theorem line_al (O : List Gl) (p : PS) (u v : Int) : lineX (alP O p) u v = (lineX p u v).bind fun q => .ok (alP O q) := by
  unfold lineX
  show ((alongX u v p.l).bind _) = ((alongX u v p.l).bind _).bind _
  cases alongX u v p.l <;> rfl
theorem back_al (O : List Gl) (p : PS) (n : Int) : bckX (alP O p) n = (bckX p n).bind fun q => .ok (alP O q) := by
  unfold bckX textX
  show ((mulX (wrap64 (-n)) p.now.size).bind fun x => (mulX x p.now.scale).bind fun x => (alongX x 0 p.t).bind _) = ((mulX (wrap64 (-n)) p.now.size).bind fun x => (mulX x p.now.scale).bind fun x => (alongX x 0 p.t).bind _).bind _
  cases mulX (wrap64 (-n)) p.now.size with
  | error k => rfl
  | ok a =>
    show ((mulX a p.now.scale).bind fun x => (alongX x 0 p.t).bind _) = ((mulX a p.now.scale).bind fun x => (alongX x 0 p.t).bind _).bind _
    cases mulX a p.now.scale with
    | error k => rfl
    | ok b =>
      show ((alongX b 0 p.t).bind _) = ((alongX b 0 p.t).bind _).bind _
      cases alongX b 0 p.t <;> rfl
theorem move_al (O : List Gl) (p : PS) (A : List V) : moveX (alP O p) A = (moveX p A).bind fun q => .ok (alP O q) := by
  unfold moveX
  cases pairX A with
  | error k => rfl
  | ok a => exact line_al O p a.1 a.2
theorem lead_al (O : List Gl) (p : PS) (A : List V) : leadX (alP O p) A = (leadX p A).bind fun q => .ok (alP O q) := by
  unfold leadX
  cases pairX A with
  | error k => rfl
  | ok a => exact line_al O { p with now := { p.now with lead := wrap64 (-a.2) } } a.1 a.2
theorem put_al (O : List Gl) (p : PS) (A : List V) : putX (alP O p) A = (putX p A).bind fun q => .ok (alP O q) := by
  unfold putX
  cases matX A <;> rfl
theorem next_al (O : List Gl) (p : PS) (A : List V) : nextX (alP O p) A = (nextX p A).bind fun q => .ok (alP O q) := by
  unfold nextX
  split
  · exact line_al O p 0 (wrap64 (-p.now.lead))
  · rfl
theorem sign_dp (s0 : StP) (p : PS) (g : Sp) : Lk (dpP s0) (signX p g) (signX (dpP s0 p) g) := by
  intro p' h q' h'
  unfold signX at h h'
  split at h
  · cases h
  · rename_i hl
    rw [if_neg (show ¬ 1000 ≤ (dpP s0 p).out.length from hl)] at h'
    obtain ⟨m, h1, h⟩ := bindX h
    obtain ⟨gl, h2, h⟩ := bindX h
    obtain ⟨a, h3, h⟩ := bindX h
    obtain ⟨t, h4, h⟩ := bindX h
    injection h with h
    rw [show placeX (dpP s0 p).now (dpP s0 p).t = .ok m from h1] at h'
    replace h' : ((glyphX m g).bind _) = .ok q' := h'
    rw [h2] at h'
    replace h' : ((advX p.now g).bind _) = .ok q' := h'
    rw [h3] at h'
    replace h' : ((alongX a 0 p.t).bind _) = .ok q' := h'
    rw [h4] at h'
    injection h' with h'
    rw [← h', ← h]; rfl
theorem sign_al (O : List Gl) (p : PS) (g : Sp) : Lk (alP O) (signX p g) (signX (alP O p) g) := by
  intro p' h q' h'
  unfold signX at h h'
  split at h
  · cases h
  · split at h'
    · cases h'
    · obtain ⟨m, h1, h⟩ := bindX h
      obtain ⟨gl, h2, h⟩ := bindX h
      obtain ⟨a, h3, h⟩ := bindX h
      obtain ⟨t, h4, h⟩ := bindX h
      injection h with h
      rw [show placeX (alP O p).now (alP O p).t = .ok m from h1] at h'
      replace h' : ((glyphX m g).bind _) = .ok q' := h'
      rw [h2] at h'
      replace h' : ((advX p.now g).bind _) = .ok q' := h'
      rw [h3] at h'
      replace h' : ((alongX a 0 p.t).bind _) = .ok q' := h'
      rw [h4] at h'
      injection h' with h'
      rw [← h', ← h]
      unfold alP
      simp
theorem take_dp (s0 : StP) (p : PS) (A : List V) : Lk (dpP s0) (takeX p A) (takeX (dpP s0 p) A) := by
  intro p' h q' h'
  unfold takeX at h h'
  split at h
  · cases h
  · rename_i s hs
    have hne : p.saved ≠ [] := fun e => by rw [e] at hs; cases hs
    have hs' : (dpP s0 p).saved.getLast? = some s := by
      show (s0 :: p.saved).getLast? = some s
      cases hp : p.saved with
      | nil => exact absurd hp hne
      | cons a l => rw [List.getLast?_cons_cons, ← hp]; exact hs
    rw [hs'] at h'
    split at h
    · rename_i h0
      injection h with h
      replace h' : (if A.length = 0 then _ else _) = _ := h'
      rw [if_pos h0] at h'
      injection h' with h'
      rw [← h', ← h]
      unfold dpP
      cases hp : p.saved with
      | nil => exact absurd hp hne
      | cons a l => rfl
    · cases h
theorem save_dp (s0 : StP) (p : PS) (A : List V) : Lk (dpP s0) (saveX p A) (saveX (dpP s0 p) A) := by
  intro p' h q' h'
  unfold saveX at h h'
  split at h
  · cases h
  · split at h
    · injection h with h
      split at h'
      · cases h'
      · injection h' with h'
        rw [← h', ← h]; rfl
    · cases h
theorem take_al (O : List Gl) (p : PS) (A : List V) : takeX (alP O p) A = (takeX p A).bind fun q => .ok (alP O q) := by
  unfold takeX
  show (match p.saved.getLast? with | none => _ | some s => _) = _
  cases p.saved.getLast? with
  | none => rfl
  | some s =>
    show (if A.length = 0 then _ else _) = Except.bind (if A.length = 0 then _ else _) _
    split <;> rfl
theorem save_al (O : List Gl) (p : PS) (A : List V) : saveX (alP O p) A = (saveX p A).bind fun q => .ok (alP O q) := by
  unfold saveX
  show (if 8 ≤ p.saved.length then _ else _) = _
  split
  · rfl
  · split <;> rfl
theorem signs_dp (s0 : StP) : ∀ (l : List Sp) (p : PS), Lk (dpP s0) (signsX p l) (signsX (dpP s0 p) l)
  | [], p => fun a h b h' => by injection h with h; injection h' with h'; rw [← h, ← h']
  | g :: l, p => by unfold signsX; exact (sign_dp s0 p g).bind fun q => signs_dp s0 l q
theorem show_dp (s0 : StP) (sg : FnC → ByteArray → Ex (List Sp)) (p : PS) (s : ByteArray) : Lk (dpP s0) (showX sg p s) (showX sg (dpP s0 p) s) := by
  intro a h b h'
  unfold showX at h h'
  split at h
  · rename_i hh
    rw [if_pos (show (dpP s0 p).now.has = true ∧ (dpP s0 p).inn = true from hh)] at h'
    obtain ⟨l, h1, h⟩ := bindX h
    rw [show sg (dpP s0 p).now.x s = .ok l from h1] at h'
    exact signs_dp s0 l p a h b h'
  · cases h
theorem prt_dp (s0 : StP) (sg : FnC → ByteArray → Ex (List Sp)) (p : PS) (v : V) : Lk (dpP s0) (prtX sg p v) (prtX sg (dpP s0 p) v) := by
  unfold prtX
  split
  · exact show_dp s0 sg p v.s
  · split
    · exact .of (back_dp s0 p _)
    · intro a h; cases h
theorem prts_dp (s0 : StP) (sg : FnC → ByteArray → Ex (List Sp)) : ∀ (l : List V) (p : PS), Lk (dpP s0) (prtsX sg p l) (prtsX sg (dpP s0 p) l)
  | [], p => fun a h b h' => by injection h with h; injection h' with h'; rw [← h, ← h']
  | v :: l, p => by unfold prtsX; exact (prt_dp s0 sg p v).bind fun q => prts_dp s0 sg l q
theorem str_dp (s0 : StP) (sg : FnC → ByteArray → Ex (List Sp)) (p : PS) (A : List V) : Lk (dpP s0) (strX sg p A) (strX sg (dpP s0 p) A) := by
  unfold strX
  cases onlyX A 3 with
  | error k => intro a h; cases h
  | ok v => exact show_dp s0 sg p v.s
theorem nxt_dp (s0 : StP) (sg : FnC → ByteArray → Ex (List Sp)) (p : PS) (A : List V) : Lk (dpP s0) (nxtX sg p A) (nxtX sg (dpP s0 p) A) := by
  unfold nxtX
  cases onlyX A 3 with
  | error k => intro a h; cases h
  | ok v => exact (Lk.of (next_dp s0 p [])).bind fun q => show_dp s0 sg q v.s
theorem lst_dp (s0 : StP) (sg : FnC → ByteArray → Ex (List Sp)) (p : PS) (A : List V) : Lk (dpP s0) (lstX sg p A) (lstX sg (dpP s0 p) A) := by
  unfold lstX
  cases onlyX A 5 with
  | error k => intro a h; cases h
  | ok v => exact prts_dp s0 sg v.l p
theorem step_dp (s0 : StP) (sg : FnC → ByteArray → Ex (List Sp)) (ff : ByteArray → Option FnC) (p : PS) (s : ByteArray) (A : List V) : Lk (dpP s0) (stepX sg ff p s A) (stepX sg ff (dpP s0 p) s A) := by
  unfold stepX
  by_cases h0 : s = ⟨#[84, 99]⟩
  · rw [if_pos h0, if_pos h0]; exact .of (set1_dp s0 p A)
  rw [if_neg h0, if_neg h0]
  by_cases h1 : s = ⟨#[84, 119]⟩
  · rw [if_pos h1, if_pos h1]; exact .of (set2_dp s0 p A)
  rw [if_neg h1, if_neg h1]
  by_cases h2 : s = ⟨#[84, 122]⟩
  · rw [if_pos h2, if_pos h2]; exact .of (set3_dp s0 p A)
  rw [if_neg h2, if_neg h2]
  by_cases h3 : s = ⟨#[84, 76]⟩
  · rw [if_pos h3, if_pos h3]; exact .of (set4_dp s0 p A)
  rw [if_neg h3, if_neg h3]
  by_cases h4 : s = ⟨#[84, 115]⟩
  · rw [if_pos h4, if_pos h4]; exact .of (set5_dp s0 p A)
  rw [if_neg h4, if_neg h4]
  by_cases h5 : s = ⟨#[113]⟩
  · rw [if_pos h5, if_pos h5]; exact save_dp s0 p A
  rw [if_neg h5, if_neg h5]
  by_cases h6 : s = ⟨#[81]⟩
  · rw [if_pos h6, if_pos h6]; exact take_dp s0 p A
  rw [if_neg h6, if_neg h6]
  by_cases h7 : s = ⟨#[99, 109]⟩
  · rw [if_pos h7, if_pos h7]; exact .of (page_dp s0 p A)
  rw [if_neg h7, if_neg h7]
  by_cases h8 : s = ⟨#[66, 84]⟩
  · rw [if_pos h8, if_pos h8]; exact .of (turn_dp s0 p true A)
  rw [if_neg h8, if_neg h8]
  by_cases h9 : s = ⟨#[69, 84]⟩
  · rw [if_pos h9, if_pos h9]; exact .of (turn_dp s0 p false A)
  rw [if_neg h9, if_neg h9]
  by_cases h10 : s = ⟨#[84, 102]⟩
  · rw [if_pos h10, if_pos h10]; exact .of (choose_dp s0 ff p A)
  rw [if_neg h10, if_neg h10]
  by_cases h11 : s = ⟨#[84, 100]⟩
  · rw [if_pos h11, if_pos h11]; exact .of (move_dp s0 p A)
  rw [if_neg h11, if_neg h11]
  by_cases h12 : s = ⟨#[84, 68]⟩
  · rw [if_pos h12, if_pos h12]; exact .of (lead_dp s0 p A)
  rw [if_neg h12, if_neg h12]
  by_cases h13 : s = ⟨#[84, 109]⟩
  · rw [if_pos h13, if_pos h13]; exact .of (put_dp s0 p A)
  rw [if_neg h13, if_neg h13]
  by_cases h14 : s = ⟨#[84, 42]⟩
  · rw [if_pos h14, if_pos h14]; exact .of (next_dp s0 p A)
  rw [if_neg h14, if_neg h14]
  by_cases h15 : s = ⟨#[84, 106]⟩
  · rw [if_pos h15, if_pos h15]; exact str_dp s0 sg p A
  rw [if_neg h15, if_neg h15]
  by_cases h16 : s = ⟨#[39]⟩
  · rw [if_pos h16, if_pos h16]; exact nxt_dp s0 sg p A
  rw [if_neg h16, if_neg h16]
  by_cases h17 : s = ⟨#[84, 74]⟩
  · rw [if_pos h17, if_pos h17]; exact lst_dp s0 sg p A
  rw [if_neg h17, if_neg h17]
  intro a h b h'
  injection h with h
  injection h' with h'
  rw [← h, ← h']
theorem steps_dp (s0 : StP) (sg : FnC → ByteArray → Ex (List Sp)) (ff : ByteArray → Option FnC) : ∀ (L : List OpP) (p : PS), Lk (dpP s0) (stepsX sg ff p L) (stepsX sg ff (dpP s0 p) L)
  | [], p => fun a h b h' => by injection h with h; injection h' with h'; rw [← h, ← h']
  | o :: L, p => by unfold stepsX; exact (step_dp s0 sg ff p o.1 o.2).bind fun q => steps_dp s0 sg ff L q
theorem signs_al (O : List Gl) : ∀ (l : List Sp) (p : PS), Lk (alP O) (signsX p l) (signsX (alP O p) l)
  | [], p => fun a h b h' => by injection h with h; injection h' with h'; rw [← h, ← h']
  | g :: l, p => by unfold signsX; exact (sign_al O p g).bind fun q => signs_al O l q
theorem show_al (O : List Gl) (sg : FnC → ByteArray → Ex (List Sp)) (p : PS) (s : ByteArray) : Lk (alP O) (showX sg p s) (showX sg (alP O p) s) := by
  intro a h b h'
  unfold showX at h h'
  split at h
  · rename_i hh
    rw [if_pos (show (alP O p).now.has = true ∧ (alP O p).inn = true from hh)] at h'
    obtain ⟨l, h1, h⟩ := bindX h
    rw [show sg (alP O p).now.x s = .ok l from h1] at h'
    exact signs_al O l p a h b h'
  · cases h
theorem prt_al (O : List Gl) (sg : FnC → ByteArray → Ex (List Sp)) (p : PS) (v : V) : Lk (alP O) (prtX sg p v) (prtX sg (alP O p) v) := by
  unfold prtX
  split
  · exact show_al O sg p v.s
  · split
    · exact .of (back_al O p _)
    · intro a h; cases h
theorem prts_al (O : List Gl) (sg : FnC → ByteArray → Ex (List Sp)) : ∀ (l : List V) (p : PS), Lk (alP O) (prtsX sg p l) (prtsX sg (alP O p) l)
  | [], p => fun a h b h' => by injection h with h; injection h' with h'; rw [← h, ← h']
  | v :: l, p => by unfold prtsX; exact (prt_al O sg p v).bind fun q => prts_al O sg l q
theorem str_al (O : List Gl) (sg : FnC → ByteArray → Ex (List Sp)) (p : PS) (A : List V) : Lk (alP O) (strX sg p A) (strX sg (alP O p) A) := by
  unfold strX
  cases onlyX A 3 with
  | error k => intro a h; cases h
  | ok v => exact show_al O sg p v.s
theorem nxt_al (O : List Gl) (sg : FnC → ByteArray → Ex (List Sp)) (p : PS) (A : List V) : Lk (alP O) (nxtX sg p A) (nxtX sg (alP O p) A) := by
  unfold nxtX
  cases onlyX A 3 with
  | error k => intro a h; cases h
  | ok v => exact (Lk.of (next_al O p [])).bind fun q => show_al O sg q v.s
theorem lst_al (O : List Gl) (sg : FnC → ByteArray → Ex (List Sp)) (p : PS) (A : List V) : Lk (alP O) (lstX sg p A) (lstX sg (alP O p) A) := by
  unfold lstX
  cases onlyX A 5 with
  | error k => intro a h; cases h
  | ok v => exact prts_al O sg v.l p
theorem step_al (O : List Gl) (sg : FnC → ByteArray → Ex (List Sp)) (ff : ByteArray → Option FnC) (p : PS) (s : ByteArray) (A : List V) : Lk (alP O) (stepX sg ff p s A) (stepX sg ff (alP O p) s A) := by
  unfold stepX
  by_cases h0 : s = ⟨#[84, 99]⟩
  · rw [if_pos h0, if_pos h0]; exact .of (set1_al O p A)
  rw [if_neg h0, if_neg h0]
  by_cases h1 : s = ⟨#[84, 119]⟩
  · rw [if_pos h1, if_pos h1]; exact .of (set2_al O p A)
  rw [if_neg h1, if_neg h1]
  by_cases h2 : s = ⟨#[84, 122]⟩
  · rw [if_pos h2, if_pos h2]; exact .of (set3_al O p A)
  rw [if_neg h2, if_neg h2]
  by_cases h3 : s = ⟨#[84, 76]⟩
  · rw [if_pos h3, if_pos h3]; exact .of (set4_al O p A)
  rw [if_neg h3, if_neg h3]
  by_cases h4 : s = ⟨#[84, 115]⟩
  · rw [if_pos h4, if_pos h4]; exact .of (set5_al O p A)
  rw [if_neg h4, if_neg h4]
  by_cases h5 : s = ⟨#[113]⟩
  · rw [if_pos h5, if_pos h5]; exact .of (save_al O p A)
  rw [if_neg h5, if_neg h5]
  by_cases h6 : s = ⟨#[81]⟩
  · rw [if_pos h6, if_pos h6]; exact .of (take_al O p A)
  rw [if_neg h6, if_neg h6]
  by_cases h7 : s = ⟨#[99, 109]⟩
  · rw [if_pos h7, if_pos h7]; exact .of (page_al O p A)
  rw [if_neg h7, if_neg h7]
  by_cases h8 : s = ⟨#[66, 84]⟩
  · rw [if_pos h8, if_pos h8]; exact .of (turn_al O p true A)
  rw [if_neg h8, if_neg h8]
  by_cases h9 : s = ⟨#[69, 84]⟩
  · rw [if_pos h9, if_pos h9]; exact .of (turn_al O p false A)
  rw [if_neg h9, if_neg h9]
  by_cases h10 : s = ⟨#[84, 102]⟩
  · rw [if_pos h10, if_pos h10]; exact .of (choose_al O ff p A)
  rw [if_neg h10, if_neg h10]
  by_cases h11 : s = ⟨#[84, 100]⟩
  · rw [if_pos h11, if_pos h11]; exact .of (move_al O p A)
  rw [if_neg h11, if_neg h11]
  by_cases h12 : s = ⟨#[84, 68]⟩
  · rw [if_pos h12, if_pos h12]; exact .of (lead_al O p A)
  rw [if_neg h12, if_neg h12]
  by_cases h13 : s = ⟨#[84, 109]⟩
  · rw [if_pos h13, if_pos h13]; exact .of (put_al O p A)
  rw [if_neg h13, if_neg h13]
  by_cases h14 : s = ⟨#[84, 42]⟩
  · rw [if_pos h14, if_pos h14]; exact .of (next_al O p A)
  rw [if_neg h14, if_neg h14]
  by_cases h15 : s = ⟨#[84, 106]⟩
  · rw [if_pos h15, if_pos h15]; exact str_al O sg p A
  rw [if_neg h15, if_neg h15]
  by_cases h16 : s = ⟨#[39]⟩
  · rw [if_pos h16, if_pos h16]; exact nxt_al O sg p A
  rw [if_neg h16, if_neg h16]
  by_cases h17 : s = ⟨#[84, 74]⟩
  · rw [if_pos h17, if_pos h17]; exact lst_al O sg p A
  rw [if_neg h17, if_neg h17]
  intro a h b h'
  injection h with h
  injection h' with h'
  rw [← h, ← h']
theorem steps_al (O : List Gl) (sg : FnC → ByteArray → Ex (List Sp)) (ff : ByteArray → Option FnC) : ∀ (L : List OpP) (p : PS), Lk (alP O) (stepsX sg ff p L) (stepsX sg ff (alP O p) L)
  | [], p => fun a h b h' => by injection h with h; injection h' with h'; rw [← h, ← h']
  | o :: L, p => by unfold stepsX; exact (step_al O sg ff p o.1 o.2).bind fun q => steps_al O sg ff L q
end Go.Proofs.YtobpidmlgldnmaaGreatDoor

/-
  What is done between saving and taking back changes nothing behind it, plainly.
-/
namespace Go.Proofs.YtobpidmlgldnmaaGreatDoor
open Go.RowKit
set_option maxRecDepth 100000

open Classical in
noncomputable def dOf (s : ByteArray) : Int := if s = ⟨#[113]⟩ then 1 else if s = ⟨#[81]⟩ then -1 else 0
open Classical in
noncomputable def iOf (i : Bool) (s : ByteArray) : Bool := if s = ⟨#[66, 84]⟩ then true else if s = ⟨#[69, 84]⟩ then false else i
noncomputable def dAll (L : List OpP) : Int := (L.map fun o => dOf o.1).sum
noncomputable def iAll (i : Bool) (L : List OpP) : Bool := L.foldl (fun i o => iOf i o.1) i
open Classical in
/-- Does text begin ahead of what is shown, or moved, in it? -/
noncomputable def begL : List OpP → Bool
  | [] => true
  | o :: L => if o.1 = ⟨#[66, 84]⟩ then true else if o.1 = ⟨#[84, 100]⟩ ∨ o.1 = ⟨#[84, 68]⟩ ∨ o.1 = ⟨#[84, 109]⟩ ∨ o.1 = ⟨#[84, 42]⟩ ∨ o.1 = ⟨#[84, 106]⟩ ∨ o.1 = ⟨#[39]⟩ ∨ o.1 = ⟨#[84, 74]⟩ ∨ o.1 = ⟨#[69, 84]⟩ then false else begL L
theorem dOf_no {s : ByteArray} (h1 : s ≠ ⟨#[113]⟩) (h2 : s ≠ ⟨#[81]⟩) : dOf s = 0 := by unfold dOf; rw [if_neg h1, if_neg h2]
theorem iOf_no {i : Bool} {s : ByteArray} (h1 : s ≠ ⟨#[66, 84]⟩) (h2 : s ≠ ⟨#[69, 84]⟩) : iOf i s = i := by unfold iOf; rw [if_neg h1, if_neg h2]
/-- How deep a step goes, and whether it is in text. -/
def DI (p q : PS) (d : Int) (i : Bool) : Prop := (q.saved.length : Int) = p.saved.length + d ∧ q.inn = i
theorem DI.same {p q : PS} (h1 : q.saved = p.saved) (h2 : q.inn = p.inn) : DI p q 0 p.inn := ⟨by rw [h1]; omega, h2⟩
theorem back_i {p q : PS} {n : Int} (h : bckX p n = .ok q) : q.saved = p.saved ∧ q.inn = p.inn := by
  unfold bckX at h
  obtain ⟨_, _, h⟩ := bindX h
  obtain ⟨_, _, h⟩ := bindX h
  obtain ⟨_, _, h⟩ := bindX (by unfold textX at h; exact h)
  injection h with h
  rw [← h]; exact ⟨rfl, rfl⟩
theorem prt_i {sg : FnC → ByteArray → Ex (List Sp)} {p q : PS} {v : V} (h : prtX sg p v = .ok q) : q.saved = p.saved ∧ q.inn = p.inn := by
  unfold prtX at h
  split at h
  · have := show_same h; exact ⟨this.2.2.1, this.2.1⟩
  · split at h
    · exact back_i h
    · cases h
theorem prts_i {sg : FnC → ByteArray → Ex (List Sp)} : ∀ (l : List V) {p q : PS}, prtsX sg p l = .ok q → q.saved = p.saved ∧ q.inn = p.inn
  | [], p, q, h => by injection h with h; rw [← h]; exact ⟨rfl, rfl⟩
  | v :: l, p, q, h => by
    unfold prtsX at h
    obtain ⟨r, h1, h2⟩ := bindX h
    have a := prt_i h1
    have b := prts_i l h2
    exact ⟨b.1.trans a.1, b.2.trans a.2⟩
theorem step_di {sg : FnC → ByteArray → Ex (List Sp)} {ff : ByteArray → Option FnC} {p q : PS} {s : ByteArray} {A : List V} (h : stepX sg ff p s A = .ok q) : DI p q (dOf s) (iOf p.inn s) := by
  unfold stepX at h
  by_cases h0 : s = ⟨#[84, 99]⟩
  · rw [if_pos h0] at h
    subst h0
    rw [dOf_no (by decide) (by decide), iOf_no (by decide) (by decide)]
    unfold set1X at h
    split at h
    · injection h with h
      rw [← h]; exact DI.same rfl rfl
    · cases h
    · cases h
  rw [if_neg h0] at h
  by_cases h1 : s = ⟨#[84, 119]⟩
  · rw [if_pos h1] at h
    subst h1
    rw [dOf_no (by decide) (by decide), iOf_no (by decide) (by decide)]
    unfold set2X at h
    split at h
    · injection h with h
      rw [← h]; exact DI.same rfl rfl
    · cases h
    · cases h
  rw [if_neg h1] at h
  by_cases h2 : s = ⟨#[84, 122]⟩
  · rw [if_pos h2] at h
    subst h2
    rw [dOf_no (by decide) (by decide), iOf_no (by decide) (by decide)]
    unfold set3X at h
    split at h
    · injection h with h
      rw [← h]; exact DI.same rfl rfl
    · cases h
    · cases h
  rw [if_neg h2] at h
  by_cases h3 : s = ⟨#[84, 76]⟩
  · rw [if_pos h3] at h
    subst h3
    rw [dOf_no (by decide) (by decide), iOf_no (by decide) (by decide)]
    unfold set4X at h
    split at h
    · injection h with h
      rw [← h]; exact DI.same rfl rfl
    · cases h
    · cases h
  rw [if_neg h3] at h
  by_cases h4 : s = ⟨#[84, 115]⟩
  · rw [if_pos h4] at h
    subst h4
    rw [dOf_no (by decide) (by decide), iOf_no (by decide) (by decide)]
    unfold set5X at h
    split at h
    · injection h with h
      rw [← h]; exact DI.same rfl rfl
    · cases h
    · cases h
  rw [if_neg h4] at h
  by_cases h5 : s = ⟨#[113]⟩
  · rw [if_pos h5] at h
    subst h5
    rw [iOf_no (by decide) (by decide), show dOf ⟨#[113]⟩ = 1 by unfold dOf; rw [if_pos rfl]]
    unfold saveX at h
    split at h
    · cases h
    · split at h
      · injection h with h
        rw [← h]
        exact ⟨by simp, rfl⟩
      · cases h
  rw [if_neg h5] at h
  by_cases h6 : s = ⟨#[81]⟩
  · rw [if_pos h6] at h
    subst h6
    rw [iOf_no (by decide) (by decide), show dOf ⟨#[81]⟩ = -1 by unfold dOf; rw [if_neg (by decide), if_pos rfl]]
    unfold takeX at h
    split at h
    · cases h
    · rename_i z hz
      split at h
      · injection h with h
        rw [← h]
        have hl : 0 < p.saved.length := by
          cases hp : p.saved with
          | nil => rw [hp] at hz; cases hz
          | cons a l => simp
        exact ⟨by show ((p.saved.dropLast.length : Nat) : Int) = _; rw [List.length_dropLast]; omega, rfl⟩
      · cases h
  rw [if_neg h6] at h
  by_cases h7 : s = ⟨#[99, 109]⟩
  · rw [if_pos h7] at h
    subst h7
    rw [dOf_no (by decide) (by decide), iOf_no (by decide) (by decide)]
    unfold pageX at h
    obtain ⟨_, _, h⟩ := bindX h
    obtain ⟨_, _, h⟩ := bindX h
    injection h with h
    rw [← h]; exact DI.same rfl rfl
  rw [if_neg h7] at h
  by_cases h8 : s = ⟨#[66, 84]⟩
  · rw [if_pos h8] at h
    subst h8
    rw [dOf_no (by decide) (by decide), show iOf p.inn ⟨#[66, 84]⟩ = true by unfold iOf; rw [if_pos rfl]]
    unfold turnX at h
    split at h
    · cases h
    · split at h
      · injection h with h
        rw [← h]
        exact ⟨by show ((p.saved.length : Nat) : Int) = _; omega, rfl⟩
      · cases h
  rw [if_neg h8] at h
  by_cases h9 : s = ⟨#[69, 84]⟩
  · rw [if_pos h9] at h
    subst h9
    rw [dOf_no (by decide) (by decide), show iOf p.inn ⟨#[69, 84]⟩ = false by unfold iOf; rw [if_neg (by decide), if_pos rfl]]
    unfold turnX at h
    split at h
    · cases h
    · split at h
      · injection h with h
        rw [← h]
        exact ⟨by show ((p.saved.length : Nat) : Int) = _; omega, rfl⟩
      · cases h
  rw [if_neg h9] at h
  by_cases h10 : s = ⟨#[84, 102]⟩
  · rw [if_pos h10] at h
    subst h10
    rw [dOf_no (by decide) (by decide), iOf_no (by decide) (by decide)]
    unfold chooseX at h
    split at h
    · split at h
      · split at h
        · split at h
          · injection h with h
            rw [← h]; exact DI.same rfl rfl
          · cases h
        · cases h
      · cases h
    · cases h
  rw [if_neg h10] at h
  by_cases h11 : s = ⟨#[84, 100]⟩
  · rw [if_pos h11] at h
    subst h11
    rw [dOf_no (by decide) (by decide), iOf_no (by decide) (by decide)]
    unfold moveX at h
    obtain ⟨_, _, h⟩ := bindX h
    have := line_same h
    exact DI.same this.2.1 this.2.2.2
  rw [if_neg h11] at h
  by_cases h12 : s = ⟨#[84, 68]⟩
  · rw [if_pos h12] at h
    subst h12
    rw [dOf_no (by decide) (by decide), iOf_no (by decide) (by decide)]
    unfold leadX at h
    obtain ⟨_, _, h⟩ := bindX h
    have := line_same h
    exact DI.same this.2.1 this.2.2.2
  rw [if_neg h12] at h
  by_cases h13 : s = ⟨#[84, 109]⟩
  · rw [if_pos h13] at h
    subst h13
    rw [dOf_no (by decide) (by decide), iOf_no (by decide) (by decide)]
    unfold putX at h
    obtain ⟨_, _, h⟩ := bindX h
    injection h with h
    rw [← h]; exact DI.same rfl rfl
  rw [if_neg h13] at h
  by_cases h14 : s = ⟨#[84, 42]⟩
  · rw [if_pos h14] at h
    subst h14
    rw [dOf_no (by decide) (by decide), iOf_no (by decide) (by decide)]
    unfold nextX at h
    split at h
    · have := line_same h
      exact DI.same this.2.1 this.2.2.2
    · cases h
  rw [if_neg h14] at h
  by_cases h15 : s = ⟨#[84, 106]⟩
  · rw [if_pos h15] at h
    subst h15
    rw [dOf_no (by decide) (by decide), iOf_no (by decide) (by decide)]
    unfold strX at h
    obtain ⟨_, _, h⟩ := bindX h
    have := show_same h
    exact DI.same this.2.2.1 this.2.1
  rw [if_neg h15] at h
  by_cases h16 : s = ⟨#[39]⟩
  · rw [if_pos h16] at h
    subst h16
    rw [dOf_no (by decide) (by decide), iOf_no (by decide) (by decide)]
    unfold nxtX at h
    obtain ⟨_, _, h⟩ := bindX h
    obtain ⟨_, h1, h⟩ := bindX h
    unfold nextX at h1
    rw [if_pos (by rfl)] at h1
    have a := line_same h1
    have b := show_same h
    exact DI.same (b.2.2.1.trans a.2.1) (b.2.1.trans a.2.2.2)
  rw [if_neg h16] at h
  by_cases h17 : s = ⟨#[84, 74]⟩
  · rw [if_pos h17] at h
    subst h17
    rw [dOf_no (by decide) (by decide), iOf_no (by decide) (by decide)]
    unfold lstX at h
    obtain ⟨_, _, h⟩ := bindX h
    have := prts_i _ h
    exact DI.same this.1 this.2
  rw [if_neg h17] at h
  injection h with h
  rw [dOf_no h5 h6, iOf_no h8 h9, ← h]
  exact DI.same rfl rfl
theorem steps_di {sg : FnC → ByteArray → Ex (List Sp)} {ff : ByteArray → Option FnC} : ∀ (L : List OpP) {p q : PS}, stepsX sg ff p L = .ok q → DI p q (dAll L) (iAll p.inn L)
  | [], p, q, h => by injection h with h; rw [← h]; exact ⟨by simp [dAll], rfl⟩
  | o :: L, p, q, h => by
    unfold stepsX at h
    obtain ⟨r, h1, h2⟩ := bindX h
    have a := step_di h1
    have b := steps_di L h2
    refine ⟨?_, ?_⟩
    · have e : dAll (o :: L) = dOf o.1 + dAll L := by unfold dAll; simp
      rw [e, b.1, a.1]; omega
    · show q.inn = iAll (iOf p.inn o.1) L
      rw [b.2, a.2]
/-- Two painters that are alike but for where text stands; glyphs stand ahead in one of them. -/
def Pre (O : List Gl) (p q : PS) : Prop := q.now = p.now ∧ q.saved = p.saved ∧ q.inn = p.inn ∧ q.out = O ++ p.out
theorem pre_form {O : List Gl} {p q : PS} (h : Pre O p q) : q = ⟨p.now, p.saved, p.inn, q.t, q.l, O ++ p.out⟩ := by
  obtain ⟨h1, h2, h3, h4⟩ := h
  cases q
  simp at h1 h2 h3 h4
  simp [h1, h2, h3, h4]
theorem step_pre {O : List Gl} {sg : FnC → ByteArray → Ex (List Sp)} {ff : ByteArray → Option FnC} {p q p' q' : PS} {s : ByteArray} {A : List V} (hp : Pre O p q) (h : stepX sg ff p s A = .ok p') (h' : stepX sg ff q s A = .ok q') (b0 : s ≠ ⟨#[66, 84]⟩) (b1 : ¬ (s = ⟨#[84, 100]⟩ ∨ s = ⟨#[84, 68]⟩ ∨ s = ⟨#[84, 109]⟩ ∨ s = ⟨#[84, 42]⟩ ∨ s = ⟨#[84, 106]⟩ ∨ s = ⟨#[39]⟩ ∨ s = ⟨#[84, 74]⟩ ∨ s = ⟨#[69, 84]⟩)) : Pre O p' q' := by
  rw [pre_form hp] at h'
  generalize q.t = T at h'
  generalize q.l = L at h'
  unfold stepX at h h'
  by_cases h0 : s = ⟨#[84, 99]⟩
  · rw [if_pos h0] at h h'
    unfold set1X at h h'
    split at h
    · rename_i z hz
      rw [hz] at h'
      injection h with h
      injection h' with h'
      rw [← h, ← h']; exact ⟨rfl, rfl, rfl, rfl⟩
    · cases h
    · cases h
  rw [if_neg h0] at h h'
  by_cases h1 : s = ⟨#[84, 119]⟩
  · rw [if_pos h1] at h h'
    unfold set2X at h h'
    split at h
    · rename_i z hz
      rw [hz] at h'
      injection h with h
      injection h' with h'
      rw [← h, ← h']; exact ⟨rfl, rfl, rfl, rfl⟩
    · cases h
    · cases h
  rw [if_neg h1] at h h'
  by_cases h2 : s = ⟨#[84, 122]⟩
  · rw [if_pos h2] at h h'
    unfold set3X at h h'
    split at h
    · rename_i z hz
      rw [hz] at h'
      injection h with h
      injection h' with h'
      rw [← h, ← h']; exact ⟨rfl, rfl, rfl, rfl⟩
    · cases h
    · cases h
  rw [if_neg h2] at h h'
  by_cases h3 : s = ⟨#[84, 76]⟩
  · rw [if_pos h3] at h h'
    unfold set4X at h h'
    split at h
    · rename_i z hz
      rw [hz] at h'
      injection h with h
      injection h' with h'
      rw [← h, ← h']; exact ⟨rfl, rfl, rfl, rfl⟩
    · cases h
    · cases h
  rw [if_neg h3] at h h'
  by_cases h4 : s = ⟨#[84, 115]⟩
  · rw [if_pos h4] at h h'
    unfold set5X at h h'
    split at h
    · rename_i z hz
      rw [hz] at h'
      injection h with h
      injection h' with h'
      rw [← h, ← h']; exact ⟨rfl, rfl, rfl, rfl⟩
    · cases h
    · cases h
  rw [if_neg h4] at h h'
  by_cases h5 : s = ⟨#[113]⟩
  · rw [if_pos h5] at h h'
    unfold saveX at h h'
    split at h
    · cases h
    · rename_i k8
      rw [if_neg (by exact k8)] at h'
      split at h
      · rename_i k0
        rw [if_pos k0] at h'
        injection h with h
        injection h' with h'
        rw [← h, ← h']; exact ⟨rfl, rfl, rfl, rfl⟩
      · cases h
  rw [if_neg h5] at h h'
  by_cases h6 : s = ⟨#[81]⟩
  · rw [if_pos h6] at h h'
    unfold takeX at h h'
    split at h
    · cases h
    · rename_i z hz
      replace h' : (match p.saved.getLast? with | none => _ | some s => _) = _ := h'
      rw [hz] at h'
      split at h
      · rename_i h0
        replace h' : (if A.length = 0 then _ else _) = _ := h'
        rw [if_pos h0] at h'
        injection h with h
        injection h' with h'
        rw [← h, ← h']; exact ⟨rfl, rfl, rfl, rfl⟩
      · cases h
  rw [if_neg h6] at h h'
  by_cases h7 : s = ⟨#[99, 109]⟩
  · rw [if_pos h7] at h h'
    unfold pageX at h h'
    obtain ⟨m, h1, h⟩ := bindX h
    obtain ⟨r, h2, h⟩ := bindX h
    rw [h1] at h'
    replace h' : ((conX m p.now.m).bind _) = .ok q' := h'
    rw [h2] at h'
    injection h with h
    injection h' with h'
    rw [← h, ← h']; exact ⟨rfl, rfl, rfl, rfl⟩
  rw [if_neg h7] at h h'
  by_cases h8 : s = ⟨#[66, 84]⟩
  · exact absurd h8 b0
  rw [if_neg h8] at h h'
  by_cases h9 : s = ⟨#[69, 84]⟩
  · exact absurd (.inr (.inr (.inr (.inr (.inr (.inr (.inr (h9)))))))) b1
  rw [if_neg h9] at h h'
  by_cases h10 : s = ⟨#[84, 102]⟩
  · rw [if_pos h10] at h h'
    unfold chooseX at h h'
    split at h
    · split at h
      · rename_i k4
        split at h
        · rename_i k2
          split at h
          · rename_i z hz
            simp only [k4, k2, if_true, hz] at h'
            injection h with h
            injection h' with h'
            rw [← h, ← h']; exact ⟨rfl, rfl, rfl, rfl⟩
          · cases h
        · cases h
      · cases h
    · cases h
  rw [if_neg h10] at h h'
  by_cases h11 : s = ⟨#[84, 100]⟩
  · exact absurd (.inl h11) b1
  rw [if_neg h11] at h h'
  by_cases h12 : s = ⟨#[84, 68]⟩
  · exact absurd (.inr (.inl h12)) b1
  rw [if_neg h12] at h h'
  by_cases h13 : s = ⟨#[84, 109]⟩
  · exact absurd (.inr (.inr (.inl h13))) b1
  rw [if_neg h13] at h h'
  by_cases h14 : s = ⟨#[84, 42]⟩
  · exact absurd (.inr (.inr (.inr (.inl h14)))) b1
  rw [if_neg h14] at h h'
  by_cases h15 : s = ⟨#[84, 106]⟩
  · exact absurd (.inr (.inr (.inr (.inr (.inl h15))))) b1
  rw [if_neg h15] at h h'
  by_cases h16 : s = ⟨#[39]⟩
  · exact absurd (.inr (.inr (.inr (.inr (.inr (.inl h16)))))) b1
  rw [if_neg h16] at h h'
  by_cases h17 : s = ⟨#[84, 74]⟩
  · exact absurd (.inr (.inr (.inr (.inr (.inr (.inr (.inl h17))))))) b1
  rw [if_neg h17] at h h'
  injection h with h
  injection h' with h'
  rw [← h, ← h']; exact ⟨rfl, rfl, rfl, rfl⟩
theorem stepX_BTs (sg : FnC → ByteArray → Ex (List Sp)) (ff : ByteArray → Option FnC) (p : PS) (A : List V) : stepX sg ff p ⟨#[66, 84]⟩ A = turnX p true A := by
  unfold stepX
  rw [if_neg (by decide), if_neg (by decide), if_neg (by decide), if_neg (by decide), if_neg (by decide), if_neg (by decide), if_neg (by decide), if_neg (by decide), if_pos rfl]
theorem begins_run {O : List Gl} {sg : FnC → ByteArray → Ex (List Sp)} {ff : ByteArray → Option FnC} : ∀ (L : List OpP) {p q p' q' : PS}, Pre O p q → begL L = true → stepsX sg ff p L = .ok p' → stepsX sg ff q L = .ok q' → q'.out = O ++ p'.out
  | [], p, q, p', q', hp, _, h, h' => by
    injection h with h; injection h' with h'
    rw [← h, ← h']; exact hp.2.2.2
  | o :: L, p, q, p', q', hp, hb, h, h' => by
    unfold stepsX at h h'
    obtain ⟨a, h1, h⟩ := bindX h
    obtain ⟨b, h2, h'⟩ := bindX h'
    unfold begL at hb
    by_cases e0 : o.1 = ⟨#[66, 84]⟩
    · rw [e0, stepX_BTs] at h1 h2
      have hab : b = alP O a := by
        unfold turnX at h1 h2
        rw [pre_form hp] at h2
        split at h1
        · cases h1
        · rename_i k1
          replace h2 : (if p.inn = true then _ else _) = _ := h2
          rw [if_neg k1] at h2
          split at h1
          · rename_i k0
            injection h1 with h1
            rw [if_pos k0] at h2
            injection h2 with h2
            rw [← h1, ← h2]; rfl
          · cases h1
      subst hab
      have := steps_al O sg ff L a p' h q' h'
      rw [this]; rfl
    · rw [if_neg e0] at hb
      split at hb
      · cases hb
      · rename_i e1
        exact begins_run L (step_pre hp h1 h2 e0 e1) hb h h'
theorem steps_appS (sg : FnC → ByteArray → Ex (List Sp)) (ff : ByteArray → Option FnC) : ∀ (l k : List OpP) (p : PS), stepsX sg ff p (l ++ k) = (stepsX sg ff p l).bind fun q => stepsX sg ff q k
  | [], k, p => rfl
  | o :: l, k, p => by
    show (stepX sg ff p o.1 o.2).bind _ = ((stepX sg ff p o.1 o.2).bind _).bind _
    cases stepX sg ff p o.1 o.2 with
    | error e => rfl
    | ok q => exact steps_appS sg ff l k q
theorem stepX_qs (sg : FnC → ByteArray → Ex (List Sp)) (ff : ByteArray → Option FnC) (p : PS) (A : List V) : stepX sg ff p ⟨#[113]⟩ A = saveX p A := by
  unfold stepX
  rw [if_neg (by decide), if_neg (by decide), if_neg (by decide), if_neg (by decide), if_neg (by decide), if_pos rfl]
theorem stepX_Qs (sg : FnC → ByteArray → Ex (List Sp)) (ff : ByteArray → Option FnC) (p : PS) (A : List V) : stepX sg ff p ⟨#[81]⟩ A = takeX p A := by
  unfold stepX
  rw [if_neg (by decide), if_neg (by decide), if_neg (by decide), if_neg (by decide), if_neg (by decide), if_neg (by decide), if_pos rfl]
/-- What is done between saving and taking back changes nothing of what is painted behind it. -/
theorem save_plain (sg : FnC → ByteArray → Ex (List Sp)) (ff : ByteArray → Option FnC) (M L : List OpP) (a b c : PS) (h1 : pageR sg ff M = .ok a) (h2 : pageR sg ff L = .ok b) (h3 : pageR sg ff ((⟨#[113]⟩, []) :: (M ++ ((⟨#[81]⟩, []) :: L))) = .ok c) (hd : dAll M = 0) (hi : iAll false M = false) (hb : begL L = true) : c.out = a.out ++ b.out := by
  unfold pageR at h1 h2 h3
  split at h1
  · cases h1
  · split at h2
    · cases h2
    · split at h3
      · cases h3
      · unfold stepsX at h3
        obtain ⟨p1, k1, h3⟩ := bindX h3
        replace k1 : stepX sg ff ps0 ⟨#[113]⟩ [] = .ok p1 := k1
        rw [stepX_qs] at k1
        have e1 : p1 = dpP st0 ps0 := by
          have : saveX ps0 [] = .ok (dpP st0 ps0) := rfl
          rw [this] at k1
          injection k1 with k1
          exact k1.symm
        subst e1
        rw [steps_appS] at h3
        obtain ⟨p2, k2, h3⟩ := bindX h3
        have e2 := steps_dp st0 sg ff M ps0 a h1 p2 k2
        subst e2
        have di := steps_di M h1
        rw [hd] at di
        have hs : a.saved = [] := by
          have := di.1
          apply List.eq_nil_of_length_eq_zero
          have e : ps0.saved.length = 0 := rfl
          rw [e] at this
          omega
        have hn : a.inn = false := di.2.trans hi
        unfold stepsX at h3
        obtain ⟨p3, k3, h3⟩ := bindX h3
        replace k3 : stepX sg ff (dpP st0 a) ⟨#[81]⟩ [] = .ok p3 := k3
        rw [stepX_Qs] at k3
        have e3 : p3 = ⟨st0, [], false, a.t, a.l, a.out⟩ := by
          unfold takeX dpP at k3
          rw [hs] at k3
          simp at k3
          rw [← k3, hn]
        subst e3
        exact begins_run (O := a.out) L (p := ps0) (q := ⟨st0, [], false, a.t, a.l, a.out⟩) ⟨rfl, rfl, rfl, by show a.out = a.out ++ []; simp⟩ hb h2 h3
end Go.Proofs.YtobpidmlgldnmaaGreatDoor

/-
  Does text begin ahead of what is shown in it? (foliowrighttop.begins)
-/
namespace Go.Proofs.YtobpidmlgldnmaaGreatDoor
open Go.RowKit
set_option maxRecDepth 100000

theorem begL_BT (o : OpP) (L : List OpP) (h : o.1 = ⟨#[66, 84]⟩) : begL (o :: L) = true := by unfold begL; rw [if_pos h]
theorem begL_no (o : OpP) (L : List OpP) (h0 : o.1 ≠ ⟨#[66, 84]⟩) (h : o.1 = ⟨#[84, 100]⟩ ∨ o.1 = ⟨#[84, 68]⟩ ∨ o.1 = ⟨#[84, 109]⟩ ∨ o.1 = ⟨#[84, 42]⟩ ∨ o.1 = ⟨#[84, 106]⟩ ∨ o.1 = ⟨#[39]⟩ ∨ o.1 = ⟨#[84, 74]⟩ ∨ o.1 = ⟨#[69, 84]⟩) : begL (o :: L) = false := by
  conv => lhs; unfold begL
  rw [if_neg h0, if_pos h]
theorem begL_on (o : OpP) (L : List OpP) (h0 : o.1 ≠ ⟨#[66, 84]⟩) (h : ¬ (o.1 = ⟨#[84, 100]⟩ ∨ o.1 = ⟨#[84, 68]⟩ ∨ o.1 = ⟨#[84, 109]⟩ ∨ o.1 = ⟨#[84, 42]⟩ ∨ o.1 = ⟨#[84, 106]⟩ ∨ o.1 = ⟨#[39]⟩ ∨ o.1 = ⟨#[84, 74]⟩ ∨ o.1 = ⟨#[69, 84]⟩)) : begL (o :: L) = begL L := by
  conv => lhs; unfold begL
  rw [if_neg h0, if_neg h]
theorem dropCons {α : Type} (L : List α) (p : Nat) (h : p < L.length) : L.drop p = L[p] :: L.drop (p + 1) := List.drop_eq_getElem_cons h

theorem tl_ne {s : ByteArray} {l : List UInt8} (h : s ≠ ⟨l.toArray⟩) : (s.toList == l) = false := by
  rw [ByteArray.toList_eq, beq_eq_false_iff_ne]
  exact ba_list h
set_option maxHeartbeats 4000000 in
theorem begins_says (d : Nat) (L : List OpP) (t : Value) (w : World) (hL : OpsN d w t L) (hl : L.length ≤ 1048576) : Calls Tryz.prog 13 #[t] w fun e w' => e = .returned (.bool (begL L)) ∧ Below w.heap.size w w' := by
  obtain ⟨a, c, rfl, _, hx⟩ := hL
  have HX := hid hx
  clear hx
  obtain ⟨r, hr⟩ : ∃ r, begL L = r := ⟨_, rfl⟩
  rw [hr]
  have HR := hid hr
  clear hr
  go_enter Tryz.func13, Tryz.ntmps13
  go_wp2_with fail
  go_loopw [3] (fun i wr => ∃ p : Nat, i = .int .i64 p ∧ p ≤ L.length ∧ Hid (begL (L.drop p) = r) ∧ Below w.heap.size w wr) (fun i _ => L.length - (intOf i).toNat)
  case atStart => exact ⟨0, rfl, Nat.zero_le _, hid (by rw [List.drop_zero]; exact HR.out), Below.refl _ _⟩
  case round =>
    obtain ⟨p, rfl, hp, HB, hB⟩ := hrel
    by_cases hpl : p < L.length
    · have hpl' : (p : Int) < L.length := by omega
      obtain ⟨b, off, tA, rfl, hbl, g, _, hsz, _⟩ := HX.out p L[p] (List.getElem?_eq_getElem hpl)
      have g := (hB.cell (p := ⟨b, off + p * 2, none⟩) hbl).trans g
      have hb2 := Nat.lt_of_lt_of_le hbl hB.size
      have HD := hid (dropCons L p hpl)
      have HB2 := hid (show begL (L[p] :: L.drop (p + 1)) = r by rw [← HD.out]; exact HB.out)
      clear HB HD
      generalize L[p] = q at *
      obtain ⟨s, A⟩ := q
      simp only at g hsz
      by_cases h0 : s = ⟨#[66, 84]⟩
      · have e := HB2.out
        rw [begL_BT _ _ h0] at e
        subst h0 e
        go_wp2_with fail
        go_ret
        exact ⟨rfl, hB⟩
      by_cases h1 : s = ⟨#[84, 100]⟩
      · have e := HB2.out
        rw [begL_no (s, A) _ h0 (.inl h1)] at e
        subst h1 e
        go_wp2_with fail
        go_ret
        exact ⟨rfl, hB⟩
      by_cases h2 : s = ⟨#[84, 68]⟩
      · have e := HB2.out
        rw [begL_no (s, A) _ h0 (.inr (.inl h2))] at e
        subst h2 e
        go_wp2_with fail
        go_ret
        exact ⟨rfl, hB⟩
      by_cases h3 : s = ⟨#[84, 109]⟩
      · have e := HB2.out
        rw [begL_no (s, A) _ h0 (.inr (.inr (.inl h3)))] at e
        subst h3 e
        go_wp2_with fail
        go_ret
        exact ⟨rfl, hB⟩
      by_cases h4 : s = ⟨#[84, 42]⟩
      · have e := HB2.out
        rw [begL_no (s, A) _ h0 (.inr (.inr (.inr (.inl h4))))] at e
        subst h4 e
        go_wp2_with fail
        go_ret
        exact ⟨rfl, hB⟩
      by_cases h5 : s = ⟨#[84, 106]⟩
      · have e := HB2.out
        rw [begL_no (s, A) _ h0 (.inr (.inr (.inr (.inr (.inl h5)))))] at e
        subst h5 e
        go_wp2_with fail
        go_ret
        exact ⟨rfl, hB⟩
      by_cases h6 : s = ⟨#[39]⟩
      · have e := HB2.out
        rw [begL_no (s, A) _ h0 (.inr (.inr (.inr (.inr (.inr (.inl h6))))))] at e
        subst h6 e
        go_wp2_with fail
        go_ret
        exact ⟨rfl, hB⟩
      by_cases h7 : s = ⟨#[84, 74]⟩
      · have e := HB2.out
        rw [begL_no (s, A) _ h0 (.inr (.inr (.inr (.inr (.inr (.inr (.inl h7)))))))] at e
        subst h7 e
        go_wp2_with fail
        go_ret
        exact ⟨rfl, hB⟩
      by_cases h8 : s = ⟨#[69, 84]⟩
      · have e := HB2.out
        rw [begL_no (s, A) _ h0 (.inr (.inr (.inr (.inr (.inr (.inr (.inr (h8))))))))] at e
        subst h8 e
        go_wp2_with fail
        go_ret
        exact ⟨rfl, hB⟩
      have e := HB2.out
      rw [begL_on (s, A) _ h0 (by simp only [not_or]; exact ⟨h1, h2, h3, h4, h5, h6, h7, h8⟩)] at e
      have HE := hid e
      clear e
      have b0 : (s.toList == [66, 84]) = false := tl_ne h0
      have b1 : (s.toList == [84, 100]) = false := tl_ne h1
      have b2 : (s.toList == [84, 68]) = false := tl_ne h2
      have b3 : (s.toList == [84, 109]) = false := tl_ne h3
      have b4 : (s.toList == [84, 42]) = false := tl_ne h4
      have b5 : (s.toList == [84, 106]) = false := tl_ne h5
      have b6 : (s.toList == [39]) = false := tl_ne h6
      have b7 : (s.toList == [84, 74]) = false := tl_ne h7
      have b8 : (s.toList == [69, 84]) = false := tl_ne h8
      go_wp2_with fail
      go_roundw
      case rel => exact ⟨p + 1, by go_num, by omega, HE, hB⟩
      case measure => simp [intOf]; omega
    · have hpl' : ¬ (p : Int) < L.length := by omega
      have e := HB.out
      rw [List.drop_of_length_le (by omega)] at e
      have e2 : r = true := by rw [← e]; rfl
      subst e2
      clear e
      go_wp2_with fail
      go_ret
      exact ⟨rfl, hB⟩
end Go.Proofs.YtobpidmlgldnmaaGreatDoor

/-
  A closed page is shown beside a map of fonts.
-/
namespace Go.Proofs.YtobpidmlgldnmaaGreatDoor
open Go.RowKit Go.WideMaps Go.Maps
set_option maxRecDepth 100000

set_option maxHeartbeats 4000000 in
theorem shows_map (m : Int) (mb k : Nat) (D : DataW Value) (w : World) (hG : Gr m w) (hT : Tb w) (hM : w.ownsMap Tryz.prog 9 heldR mb k D) (hk : k ≤ 5) : Calls Tryz.prog 7 #[.map (some mb)] w fun e w' => e = .returned (.bool true) ∧ Below w.heap.size w w' := by
  have HM := hid hM
  have hsz := hM.size_le
  clear hM
  have hp := parseS m qS w hG (by decide)
  rw [page_fact] at hp
  unfold ParseSaid qS at hp
  simp only at hp
  rw [errN_0] at hp
  have hmm := @run_makeMap Tryz.prog
  go_enter Tryz.func7, Tryz.ntmps7
  go_wp2_with (go_at_call 20; go_must (refine hp.mono ?_); rintro e w1 ⟨t, rfl, hb1, HO⟩)
  have HT := hid hT
  have B1 := hid hb1
  clear hp hG hT hb1
  have o0 : (w1.alloc (.map #[] 0)).ownsMap Tryz.prog 9 heldR w1.heap.size 0 (.map []) := World.ownsMap_made _ _ _ _
  have b0 : Below w1.heap.size w1 (w1.alloc (.map #[] 0)) := (Below.refl _ _).alloc (Nat.le_refl _) _
  obtain ⟨v1, h1, o1, g1⟩ := o0.update lawS Tryz.underlying24 (by unfold maxLen; decide) (key := .string ⟨#[70]⟩) (keyOf_string_mk Tryz.underlying9 (by unfold maxLen; decide)) (val := x500.v) rfl
  have b1 := b0.grown g1 b0.size (fun j hj => by cases hj; exact Nat.le_refl _)
  have HO1 := hid o1
  have HB1 := hid b1
  have d0 := HO.out.later b1
  have HD := hid d0
  obtain ⟨a, c, rfl, _, _⟩ := d0
  unfold FnC.v x500 at h1
  clear o0 b0 o1 g1 b1 HO
  go_wp2_with (go_at_call 10; fail)
  go_at_call 10
  have hpg := page_says sg500 (ffOne qF x500) _ qO _ (some w1.heap.size) v1 HD.out qO_ok (fun K h hf => fonts_one qF x500 ⟨_, _, _, _, _, rfl, rfl, rfl⟩ hf (by rw [h]; exact HO1.out)) (fun K h s x hx => by
    unfold ffOne at hx
    split at hx
    · injection hx with hx
      rw [← hx]
      exact sig_of (F := F500) (i := none) (j := none) (al := none) (cap := 0) sg500 (fun s => rfl) (ft500 _) (by rw [h]; exact HT.out.below (chn0 B1.out HB1.out)) (by decide)
    · cases hx)
  obtain ⟨q, hq, hq1⟩ := page_plain
  rw [hq] at hpg
  refine hpg.mono ?_
  rintro e w2 ⟨⟨_, tG, B, rfl, _, hown⟩, hb2⟩
  obtain ⟨aG, cG, rfl⟩ := own_sliceO hown
  rw [hq1]
  have B2 := hid (chn0 (chn0 B1.out HB1.out) hb2)
  have hln := fun ty => (kept_below HM.out B2.out).len Tryz.underlying24 ty
  have hlt : (Maps.size D : Int) < 100 := by omega
  clear hown hb2 hpg hq hq1
  go_wp2_with fail
  go_ret
  exact ⟨rfl, B2.out⟩
/-- Fonts of several names. -/
noncomputable def ffN (N : List Nm) (s : ByteArray) : Option FnC := open Classical in (N.reverse.find? (fun n => decide (n.s = s))).map Nm.x
noncomputable def sgN (N : List Nm) (x : FnC) (s : ByteArray) : Ex (List Sp) := open Classical in match N.find? (fun n => decide (n.x = x)) with
  | some n => sgR n.F s
  | none => .error 0
theorem nmD_map (N : List Nm) : IsMap (nmD N) := by
  have : ∀ (l : List Nm) (D : DataW Value), IsMap D → IsMap (l.foldl (fun D n => D.put (.string n.s.data.toList) (.held n.x.v)) D) := by
    intro l
    induction l with
    | nil => intro D h; exact h
    | cons a l ih => intro D h; exact ih _ (isMap_putH h _ _)
  exact this N _ ⟨[], rfl⟩
theorem nmD_look : ∀ (N : List Nm) (s : ByteArray), (∃ n, n ∈ N ∧ ffN N s = some n.x ∧ Maps.has (nmD N) (.string s.data.toList) = true ∧ (nmD N).atKey (.string s.data.toList) (.held fnt0) = .held n.x.v) ∨ (ffN N s = none ∧ Maps.has (nmD N) (.string s.data.toList) = false) := by
  intro N s
  rw [← List.reverse_reverse N]
  generalize N.reverse = R
  induction R with
  | nil => exact .inr ⟨rfl, rfl⟩
  | cons n R ih =>
    rw [List.reverse_cons]
    generalize R.reverse = N at ih ⊢
    rw [nmD_snoc]
    unfold ffN at ih ⊢
    rw [List.reverse_append]
    by_cases h : n.s = s
    · subst h
      refine .inl ⟨n, by simp, ?_, has_put_same (nmD_map N) (keyLit _) _, atKey_put_same (nmD_map N) (keyLit _) _ _⟩
      simp
    · have hne : Lit.string s.data.toList ≠ Lit.string n.s.data.toList := fun e => h (ba_ext (by injection e with e; exact e.symm))
      rw [has_put_other hne, atKey_put_other hne]
      have e : (List.find? (fun n' => decide (n'.s = s)) ([n].reverse ++ N.reverse)) = List.find? (fun n' => decide (n'.s = s)) N.reverse := by
        simp [h]
      rw [e]
      rcases ih with ⟨n', h1, h2, h3, h4⟩ | h1
      · exact .inl ⟨n', by simp [h1], h2, h3, h4⟩
      · exact .inr h1
theorem fonts_many {K : Pk} {mb m : Nat} (N : List Nm) (hfm : K.fm = .map (some mb)) (hO : K.w0.ownsMap Tryz.prog 9 heldR mb m (nmD N)) : FontsAt K (ffN N) := by
  refine fonts_at hfm hO _ (fun s => ?_)
  rcases nmD_look N s with ⟨n, _, h2, h3, h4⟩ | h
  · exact .inl ⟨n.x, h2, ⟨_, _, _, _, _, rfl, rfl, rfl⟩, h3, h4⟩
  · exact .inr h
theorem sig_many {K : Pk} (N : List Nm) (hN : ∀ n ∈ N, NmIn K.w0 n) (hT : Tb K.w0) (hf : ∀ n ∈ N, spFault n.F.l n.F.wide = 0) (s : ByteArray) (x : FnC) (hx : ffN N s = some x) : SigOk K (sgN N) x := by
  rcases nmD_look N s with ⟨n, hn, h2, _, _⟩ | h
  · rw [hx] at h2
    injection h2 with h2
    subst h2
    cases hf' : N.find? (fun n' => open Classical in decide (n'.x = n.x)) with
    | none => exact absurd (List.find?_eq_none.1 hf' n hn) (by simp)
    | some n' =>
      have e : n'.x = n.x := by have := List.find?_some hf'; simpa using this
      have hm := List.mem_of_find?_eq_some hf'
      rw [← e]
      exact sig_of (F := n'.F) (sgN N) (fun s => by
        show sgN N n'.x s = _
        unfold sgN
        rw [e, hf']) (hN n' hm).1.at_ hT (hf n' hm)
  · rw [hx] at h; cases h.1
end Go.Proofs.YtobpidmlgldnmaaGreatDoor
