/-
  Joined: Lj, Ld, Lm.
-/
import Derived.Test.YtflcibmjblioaaaGreatDoorLj0
import Derived.Test.YtflcibmjblioaaaGreatDoorShelf
import Derived.Test.YtflcibmjblioaaaGreatDoorLc
import Derived.Lib.LastIndexLaws
import Derived.Carry

/-
  The tables of a file, the last one first (file.readTables).
-/
namespace Go.Proofs.YtflcibmjblioaaaGreatDoor
open Go.RowKit Go.Lib Go.Maps
set_option maxRecDepth 1000000

theorem not_before {A : List Nat} {x y : Nat} {R : List Nat} (h : (A ++ x :: y :: R).Nodup) : y ∉ A ++ [x] := by
  rw [List.nodup_append] at h
  obtain ⟨_, h2, h3⟩ := h
  intro hm
  rcases List.mem_append.1 hm with q | q
  · exact h3 y q y (by simp) rfl
  · simp at q
    subst q
    simp at h2
theorem contains_not {w : World} {B c N : Nat} {al : Option Addr} {xs : List Nat} {a : Nat} (h : Own64 w B (.slice al N c) xs) (hN : xs.length = N) (hne : xs ≠ []) (hb : xs.length ≤ 1000) (ha : a ∉ xs) :
    Calls Tryz.prog 51 #[.slice al N c, .int .i64 (a : Int)] w fun e w' => e = .returned (.bool false) ∧ w' = w := by
  obtain ⟨al', c', e, hc⟩ := h.cells
  injection e with e1 e2 e3
  subst e1 e3
  obtain ⟨x, r, rfl⟩ : ∃ x r, xs = x :: r := by cases xs with | nil => exact absurd rfl hne | cons x r => exact ⟨x, r, rfl⟩
  obtain ⟨g, rfl, _, _, _⟩ := hc 0 x rfl
  have q := Tryz.slices_Contains_int g 0 N c ((x :: r).map fun n : Nat => (n : Int)) (a : Int) w (by rw [List.length_map]; omega) (by omega) (fun j hj => by
    rw [List.length_map] at hj
    obtain ⟨g', e', _, _, hcell⟩ := hc j (x :: r)[j] (List.getElem?_eq_getElem hj)
    injection e' with e'
    injection e' with e' _ _
    subst e'
    rw [Nat.zero_add, hcell, List.getD_eq_getElem?_getD, List.getElem?_map, List.getElem?_eq_getElem hj]
    rfl)
  have hno : (((x :: r).map fun n : Nat => (n : Int)).take N).contains (a : Int) = false := by
    rw [List.take_of_length_le (by rw [List.length_map]; omega), List.contains_eq_mem, decide_eq_false_iff_not]
    intro hm
    obtain ⟨n, hn, e⟩ := List.mem_map.1 hm
    have : n = a := by omega
    exact ha (this ▸ hn)
  rw [hno] at q
  exact q
set_option maxHeartbeats 2000000 in
theorem readTables_says (M : Int) (F mb n : Nat) (s : ByteArray) (x0 : TabF) (T0 : List TabF) (c0 c1 c2 c3 c4 : Value) (m : Int → Option Int) (w0 w : World) (hs : s.size ≤ 60000) (hL : Links s x0 T0) (hN : ((x0 :: T0).map (·.a)).Nodup) (hT : T0.length ≤ 6) (hn : n + 100 * totS (x0 :: T0) < 50000)
    (hG : Gr M w0) (hBw : Below w0.heap.size w0 w) (hmb : w0.heap.size ≤ mb) (hF0 : w0.heap.size ≤ F) (hF : FileAt w F s (.map (some mb)) (x0.a : Int) c0 c1 c2 c3 c4) (hM : MapZ w mb n m) (hFm : F ≠ mb) :
    Calls Tryz.prog 22 #[.pointer (some ⟨F, 0, none⟩)] w fun e w' => e = .returned .nilIface ∧ TabsRes F mb n s (x0.a : Int) m x0 T0 w w' := by
  have HF := hid hF
  have HG := hid hG
  have HN := hid hN
  have hFl := hF.lt
  have hml := hM.lt
  have fc := hF.cell 2
  simp at fc
  have HL := hid hL
  have HO := hid (show Been F mb w.heap.size n s (x0.a : Int) m [] w w from ⟨c0, c1, c2, c3, c4, hF, ⟨n, by simp [totS], hM⟩, .refl _ _, Nat.le_refl _, Nat.le_refl _, fun y T h => by cases h⟩)
  clear hF hM hG hN hL
  go_enter Tryz.func22, Tryz.ntmps22
  go_wp2_with fail
  go_loopw [3, 4] (fun t3 t4 wr => ∃ (done : List TabF) (x : TabF) (rest : List TabF) (B : Nat) (al : Option Addr) (cl : Nat), t3 = .slice al done.length cl ∧ t4 = .int .i64 (x.a : Int) ∧ Hid (done = [] → t3 = .slice none 0 0) ∧ Hid (x0 :: T0 = done ++ x :: rest) ∧ Hid (Links s x rest) ∧ Hid (Own64 wr B t3 (done.map (·.a))) ∧ Hid (Been F mb B n s (x0.a : Int) m done w wr)) (fun t3 _ _ => match t3 with | .slice _ l _ => 100 - l | _ => 0)
  case atStart => exact ⟨[], x0, T0, w.heap.size, none, 0, rfl, rfl, hid (fun _ => rfl), hid rfl, HL, hid (Own64.nil _ _), HO⟩
  case round =>
    obtain ⟨done, x, rest, B, al, cl, rfl, rfl, HZ, HE, HLk, HOw, HB⟩ := hrel
    clear HO HL fc HF
    obtain ⟨d0, d1, d2, d3, d4, hF1, ⟨n', hn', hM1⟩, hK1, hB1, hB2, hR1⟩ := HB.out
    obtain ⟨hw1, hw2, hw3, hw4, hw5, b, c, z, hw6, hw7, hw8⟩ := HLk.out.tab
    have htot : totS done + x.sp.length + totS rest = totS (x0 :: T0) := by rw [HE.out, totS_app, totS]; omega
    have hlenD : done.length + 1 + rest.length = T0.length + 1 := by have := congrArg List.length HE.out; simp at this; omega
    have hBr : Below w0.heap.size w0 wr := hK1.below hBw (by rintro k (rfl | rfl) <;> omega)
    have hxa : x.a ≤ 60000 := by omega
    have HX := hid (readTable_says M F mb n' s x.a b c z x.sp x.v (x0.a : Int) d0 d1 d2 d3 d4 _ w0 wr hs hw3 (by omega) hw1 hw2 hw6 hw7 hw8 hw4 HG.out hBr hmb hF1 hM1 hFm)
    have HWs := hid hK1.size
    have HF1 := hid hF1
    clear hw1 hw3 hw6 hw7 hw8 hM1 hR1 hF1 hK1 hBr
    go_wp2_with fail
    go_at_call 49
    refine HX.out.mono ?_
    rintro e w5 ⟨k, q, t, a1, a2, l1, p1, l2, p2, rfl, H5, hM5, hK5⟩
    have hG5 := got_c H5 hM5 hK5
    have zs5 := hK5.size
    clear HX H5 hM5 hK5
    go_upto_region 6 with fail
    generalize w5.alloc (.cells #[.int .i64 k, .int .i64 q, .string t, .slice a1 l1 p1, .slice a2 l2 p2] 40) = wq at hG5 ⊢
    generalize w5.heap.size = Q at hG5 zs5 ⊢
    have HGt := hid hG5
    have HFq := hid (show FileAt wq F s (.map (some mb)) (x0.a : Int) d0 d1 d2 d3 d4 from hG5.keep.at_ HF1.out (by simp [hFm]))
    have gA := hid hG5.at_
    have zq := hG5.keep.size
    obtain ⟨B', hB', HOq⟩ : ∃ B', (w.heap.size ≤ B' ∧ B' ≤ wq.heap.size ∧ (done ≠ [] → B' = B) ∧ (done = [] → B' = wq.heap.size)) ∧ Hid (Own64 wq B' (.slice al done.length cl) (done.map (·.a))) := by
      have hws := HWs.out
      rcases done with _ | ⟨y, T⟩
      · have e := HZ.out rfl
        injection e with e1 _ e2
        subst e1 e2
        exact ⟨wq.heap.size, ⟨by omega, Nat.le_refl _, fun h => absurd rfl h, fun _ => rfl⟩, hid (Own64.nil _ _)⟩
      · exact ⟨B, ⟨by omega, by omega, fun _ => rfl, fun h => by cases h⟩, hid (HOw.out.keepS hG5.keep (by omega))⟩
    clear hG5
    have hlim : (done.map (·.a)).length + 1 ≤ 1000000000 := by simp; omega
    have hB7 : B' ≤ (wq.alloc (.cells #[.int .i64 (x.a : Int)] 3)).heap.size := by simp; omega
    have hev : (done.map (·.a)).length = done.length := by simp
    go_upto_region 7 with (at_builtin; go_loud (refine wpApp64 rfl (.tmp 22) (.tmp 24) rfl B' (.slice al done.length cl) (done.map (·.a)) rfl (HOq.out.alloc _) wq.heap.size [x.a] 1 1 rfl rfl (one64) hlim hB7 ?_); intro v' w8 hO8 hg8)
    obtain ⟨al8, c8, rfl⟩ : ∃ a c, v' = Value.slice a (done.length + 1) c := by
      obtain ⟨a, c, e, _⟩ := hO8.cells
      exact ⟨a, c, by rw [e]; simp⟩
    have HO8 := hid hO8
    have Hg8 := hid hg8
    have h7 := below_box wq (.cells #[.int .i64 (x.a : Int)] 3)
    have hB8 : Below B' (wq.alloc (.cells #[.int .i64 (x.a : Int)] 3)) w8 := (HOq.out.alloc _).below hg8 hB7
    have hK8 := KeepS.appended HOw.out hg8
    have A8 : At w8 Q 40 #[.int .i64 k, .int .i64 q, .string t, .slice a1 l1 p1, .slice a2 l2 p2] := hK8.at_ (gA.out.alloc _) (by have := HGt.out.le; omega)
    have F8 : FileAt w8 F s (.map (some mb)) (x0.a : Int) d0 d1 d2 d3 d4 := (hB8.block F (by omega)).trans (HFq.out.alloc _)
    have z8 := A8.lt
    have zF := F8.lt
    obtain ⟨⟨cq0, cq1, cq2, cq3, cq4⟩, _⟩ := five_cells A8
    clear hO8 hg8 hlim hB7 hev
    rcases done with _ | ⟨y, T⟩
    · have eB' := hB'.2.2.2 rfl
      subst eB'
      have f3 := F8.cell 3
      have f4 := F8.cell 4
      have f5 := F8.cell 5
      have f6 := F8.cell 6
      have f7 := F8.cell 7
      have g3 := F8.free 3
      have g4 := F8.free 4
      have g5 := F8.free 5
      have g6 := F8.free 6
      have g7 := F8.free 7
      simp at f3 f4 f5 f6 f7
      have hM9 := mid_first HB.out HGt.out (by simp [totS] at hn'; omega) h7 hB8 hFl hml hFm
      have hO9 := HO8.out.keepS (keep_file5 (w := w8) (F := F) (.int .i64 k) (.int .i64 q) (.string t) (.slice a1 l1 p1) (.slice a2 l2 p2)) (by omega)
      have HM9 := hid hM9
      have HO9 := hid hO9
      clear hM9 hO9 hB8 hK8 h7
      simp only [List.length_nil, Nat.zero_add] at *
      go_upto_region 9 with fail
      generalize World.setCell _ _ _ = w9 at HM9 HO9 ⊢
      generalize wq.heap.size = B9 at hB' HM9 HO9
      obtain ⟨hA9, HR9, HBn9⟩ := HM9.out
      clear HM9 cq0 cq1 cq2 cq3 cq4 A8 F8 z8 zF HGt HFq gA HOq HO8 Hg8 HB HOw HF1 HZ
      obtain ⟨⟨cq0, cq1, cq2, cq3, cq4⟩, _⟩ := five_cells hA9
      have z9 := hA9.lt
      go_wp2_with (go_at_call 24; fail)
      go_at_call 24
      refine (vGet_says prevN HR9.out hw5).mono ?_
      rintro e w10 ⟨⟨c', rfl, hr10⟩, hb10⟩
      have HBn10 := hid (HBn9.out.later hb10)
      have HO10 := hid (HO9.out.later hb10)
      clear cq0 cq1 cq2 cq3 cq4 z9 hA9 HR9 HBn9 HO9 hb10
      cases rest with
      | nil =>
        have hg0 : getF prevN x.v.f = none := HLk.out.2
        rw [hg0] at hr10 ⊢
        obtain ⟨al2, af2, cl2, cf2, rfl, _⟩ := hr10
        clear HO10
        go_wp2_with fail
        go_ret
        exact ⟨rfl, Been.end_ (by rw [HE.out]; exact HBn10.out.later (below_box w10 _))⟩
      | cons y' rest' =>
        obtain ⟨_, ⟨g, hg0, hgk, hgn⟩, hL'⟩ := HLk.out
        rw [hg0] at hr10 ⊢
        simp only [Option.getD_some, Option.isSome_some] at hr10 ⊢
        obtain ⟨al2, af2, cl2, cf2, rfl, _⟩ := hr10
        rw [hgk, hgn]
        have hya : y'.a ≤ 60000 := by have := hL'.tab.2.1; omega
        go_wp2_with (go_at_call 50; fail)
        go_at_call 50
        refine (fwhole_says y'.a g.s al2 af2 _ _ _ _ _ (by omega)).mono ?_
        rintro e w11 ⟨rfl, hb11⟩
        have hb : Below w10.heap.size w10 w11 := (below_box w10 _).trans (hb11.mono (by simp))
        have HBn11 := hid (HBn10.out.later hb)
        have HO11 := hid (HO10.out.later hb)
        clear HBn10 HO10 hb hb11
        have hcn := hid (contains_not (a := y'.a) HO11.out (by simp) (by simp) (by simp at hlenD ⊢ <;> omega) (by
          have q := HN.out
          rw [HE.out, List.map_append, List.map_cons, List.map_cons] at q
          simpa using not_before q))
        have hn8 : True := trivial
        go_wp2_with (go_at_call 51; go_must (refine hcn.out.mono ?_); rintro e w12 ⟨rfl, hw12⟩; rw [hw12]; clear hw12 w12)
        go_roundw
        case rel => exact ⟨([] : List TabF) ++ [x], y', rest', _, al8, c8, by simp, rfl, hid (fun h => by simp at h), hid (by rw [HE.out]; simp), hid hL', hid (by simpa using HO11.out), HBn11⟩
        case measure => simp at hlenD ⊢ <;> omega
    · have eB' := hB'.2.2.1 (by simp)
      subst eB'
      have HM9 := hid (mid_later HB.out HGt.out (by omega) h7 HOw.out Hg8.out hFl hml hFm)
      have HO9 := HO8
      have hne1 : ¬ ((T.length : Int) + 1 + 1 = 1) := by omega
      simp only [List.length_cons] at *
      clear hB8 hK8 h7
      go_upto_region 9 with fail
      obtain ⟨hA9, HR9, HBn9⟩ := HM9.out
      clear HM9 cq0 cq1 cq2 cq3 cq4 A8 F8 z8 zF HGt HFq gA HOq HO8 Hg8 HB HOw HF1 HZ
      obtain ⟨⟨cq0, cq1, cq2, cq3, cq4⟩, _⟩ := five_cells hA9
      have z9 := hA9.lt
      go_wp2_with (go_at_call 24; fail)
      go_at_call 24
      refine (vGet_says prevN HR9.out hw5).mono ?_
      rintro e w10 ⟨⟨c', rfl, hr10⟩, hb10⟩
      have HBn10 := hid (HBn9.out.later hb10)
      have HO10 := hid (HO9.out.later hb10)
      clear cq0 cq1 cq2 cq3 cq4 z9 hA9 HR9 HBn9 HO9 hb10
      cases rest with
      | nil =>
        have hg0 : getF prevN x.v.f = none := HLk.out.2
        rw [hg0] at hr10 ⊢
        obtain ⟨al2, af2, cl2, cf2, rfl, _⟩ := hr10
        clear HO10
        go_wp2_with fail
        go_ret
        exact ⟨rfl, Been.end_ (by rw [HE.out]; exact HBn10.out.later (below_box w10 _))⟩
      | cons y' rest' =>
        obtain ⟨_, ⟨g, hg0, hgk, hgn⟩, hL'⟩ := HLk.out
        rw [hg0] at hr10 ⊢
        simp only [Option.getD_some, Option.isSome_some] at hr10 ⊢
        obtain ⟨al2, af2, cl2, cf2, rfl, _⟩ := hr10
        rw [hgk, hgn]
        have hya : y'.a ≤ 60000 := by have := hL'.tab.2.1; omega
        go_wp2_with (go_at_call 50; fail)
        go_at_call 50
        refine (fwhole_says y'.a g.s al2 af2 _ _ _ _ _ (by omega)).mono ?_
        rintro e w11 ⟨rfl, hb11⟩
        have hb : Below w10.heap.size w10 w11 := (below_box w10 _).trans (hb11.mono (by simp))
        have HBn11 := hid (HBn10.out.later hb)
        have HO11 := hid (HO10.out.later hb)
        clear HBn10 HO10 hb hb11
        have hcn := hid (contains_not (a := y'.a) HO11.out (by simp) (by simp) (by simp at hlenD ⊢ <;> omega) (by
          have q := HN.out
          rw [HE.out, List.map_append, List.map_cons, List.map_cons] at q
          simpa using not_before q))
        have hn8 : ¬ ((T.length : Int) + 1 + 1 = 8) := by simp at hlenD; omega
        go_wp2_with (go_at_call 51; go_must (refine hcn.out.mono ?_); rintro e w12 ⟨rfl, hw12⟩; rw [hw12]; clear hw12 w12)
        go_roundw
        case rel => exact ⟨(y :: T) ++ [x], y', rest', _, al8, c8, by simp, rfl, hid (fun h => by simp at h), hid (by rw [HE.out]; simp), hid hL', hid (by simpa using HO11.out), HBn11⟩
        case measure => simp at hlenD ⊢ <;> omega
end Go.Proofs.YtflcibmjblioaaaGreatDoor

/-
  Where the last table of a file stands, plainly.
-/
namespace Go.Proofs.YtflcibmjblioaaaGreatDoor
open Go.RowKit
set_option maxRecDepth 100000

theorem occ_byte {s : List UInt8} {k : Nat} (h : Lib.occAt s startW k = true) : s[k]? = some 115 := by
  unfold Lib.occAt startW at h
  cases e : s.drop k with
  | nil => rw [e] at h; simp [List.isPrefixOf] at h
  | cons c t =>
    rw [e] at h
    simp only [List.isPrefixOf, Bool.and_eq_true, beq_iff_eq] at h
    have q : (s.drop k)[0]? = some c := by rw [e]; rfl
    rw [List.getElem?_drop, Nat.add_zero] at q
    rw [q, ← h.1]
theorem dec_byte {n : Nat} {c : UInt8} (h : c ∈ Lib.decDigits n) : c ≠ 115 := fun e => by
  have q := (List.all_eq_true.1 (dec_all n)) c h
  subst e
  exact absurd q (by decide)
/-- The last word 'startxref' is the one at the end. -/
theorem last_start (X : List UInt8) (a : Nat) : Lib.lastIndex (X ++ endT a) startW = (X.length : Int) := by
  have hlen : startW.length ≤ (X ++ endT a).length := by
    unfold endT
    simp only [List.length_append]
    omega
  have hocc : Lib.occAt (X ++ endT a) startW X.length = true := by
    unfold Lib.occAt
    rw [List.drop_left]
    unfold endT
    exact List.isPrefixOf_iff_prefix.2 (List.prefix_append _ _)
  have hbehind : ∀ j, X.length < j → Lib.occAt (X ++ endT a) startW j = false := fun j hj => by
    cases h : Lib.occAt (X ++ endT a) startW j with
    | false => rfl
    | true =>
      exfalso
      have q := occ_byte h
      rw [List.getElem?_append_right (by omega)] at q
      obtain ⟨i, hi⟩ : ∃ i, j - X.length = i + 1 := ⟨j - X.length - 1, by omega⟩
      rw [hi] at q
      have hm : (115 : UInt8) ∈ ([116, 97, 114, 116, 120, 114, 101, 102] : List UInt8) ++ 10 :: (Lib.decDigits a ++ 10 :: (eofW ++ [10])) := List.mem_of_getElem? (i := i) (by
        rw [← q]
        rfl)
      rcases List.mem_append.1 hm with z | z
      · exact absurd z (by decide)
      · rcases List.mem_cons.1 z with z | z
        · exact absurd z (by decide)
        · rcases List.mem_append.1 z with z | z
          · exact dec_byte z rfl
          · exact absurd z (by decide)
  unfold Lib.lastIndex
  rw [if_pos hlen]
  rcases Lib.lastOcc_spec (X ++ endT a) startW ((X ++ endT a).length - startW.length + 1) with ⟨_, h⟩ | ⟨i, hi, e, h1, h2⟩
  · have : X.length < (X ++ endT a).length - startW.length + 1 := by
      unfold endT
      simp only [List.length_append]
      omega
    rw [h _ this] at hocc
    cases hocc
  · rw [e]
    by_cases c1 : i < X.length
    · have : X.length < (X ++ endT a).length - startW.length + 1 := by
        unfold endT
        simp only [List.length_append]
        omega
      rw [h2 _ c1 this] at hocc
      cases hocc
    · by_cases c2 : X.length < i
      · rw [hbehind i c2] at h1
        cases h1
      · have : i = X.length := by omega
        subst this
        rfl
end Go.Proofs.YtflcibmjblioaaaGreatDoor

/-
  A file is read (file.Read).
-/
namespace Go.Proofs.YtflcibmjblioaaaGreatDoor
open Go.RowKit Go.Lib Go.Maps
set_option maxRecDepth 1000000

/-- A file that was read: where its objects stand, its last words; all of it lies in new blocks. -/
def FileR (B E F : Nat) (s : ByteArray) (tb : Int) (v : V) (m : Int → Option Int) (w : World) : Prop :=
  ∃ mb n c0 c1 c2 c3 c4, FileAt w F s (.map (some mb)) tb c0 c1 c2 c3 c4 ∧ n ≤ 50000 ∧ MapZ w mb n m ∧ Hid (RepIn (fun b => B ≤ b ∧ b < E) 9 w v [c0, c1, c2, c3, c4]) ∧ F ≠ mb ∧ B ≤ F ∧ F < E ∧ B ≤ mb ∧ mb < E ∧ E ≤ w.heap.size
theorem FileR.later {B E F : Nat} {s : ByteArray} {tb : Int} {v : V} {m : Int → Option Int} {w w' : World} (h : FileR B E F s tb v m w) (hb : Below E w w') : FileR B E F s tb v m w' := by
  obtain ⟨mb, n, c0, c1, c2, c3, c4, h1, h2, h3, h4, h5, h6, h7, h8, h9, h10⟩ := h
  refine ⟨mb, n, c0, c1, c2, c3, c4, (hb.block F h7).trans h1, h2, ?_, hid (h4.out.agree hb.size fun b hb' => hb.block b hb'.2), h5, h6, h7, h8, h9, Nat.le_trans h10 hb.size⟩
  obtain ⟨D, q1, q2⟩ := h3
  obtain ⟨es, clock, hh, F', hs, hD⟩ := q1
  exact ⟨D, ⟨es, clock, (hb.block mb h9).trans hh, F', hs, hD⟩, q2⟩
def pdfW : List UInt8 := [37, 80, 68, 70, 45]
set_option maxHeartbeats 2000000 in
theorem read_says (M : Int) (s : ByteArray) (x0 : TabF) (T0 : List TabF) (X : List UInt8) (w : World) (hs : s.size ≤ 60000) (hp : Lib.hasPrefix s.data.toList pdfW = true) (hst : Lib.lastIndex s.data.toList startW = (X.length : Int)) (htk : ∃ b, TokF s (X.length + 9) (Lib.decDigits x0.a) b) (hX : X.length ≤ 60000) (hL : Links s x0 T0) (hN : ((x0 :: T0).map (·.a)).Nodup) (hT : T0.length ≤ 6) (hn : 100 * totS (x0 :: T0) < 50000) (hG : Gr M w) :
    Calls Tryz.prog 8 #[.string s] w fun e w' => ∃ F, e = .returned (.tuple #[.pointer (some ⟨F, 0, none⟩), .nilIface]) ∧ FileR w.heap.size w'.heap.size F s (x0.a : Int) x0.v (tellT (fun _ => none) (x0 :: T0)) w' ∧ Below w.heap.size w w' := by
  obtain ⟨b, htk⟩ := htk
  have HT := hid htk
  have HL := hid hL
  have HN := hid hN
  have HG := hid hG
  have hxa : x0.a ≤ 60000 := by have := hL.tab.2.1; omega
  have hs2 : ¬ ((60000 : Int) < s.size) := by omega
  have hlx : ¬ ((X.length : Int) < 0) := by omega
  have hli := Tryz.strings_LastIndex s ⟨#[115, 116, 97, 114, 116, 120, 114, 101, 102]⟩ (by omega) w
  rw [show Lib.lastIndex s.data.toList (⟨#[115, 116, 97, 114, 116, 120, 114, 101, 102]⟩ : ByteArray).data.toList = (X.length : Int) from hst] at hli
  have hhp := Tryz.strings_HasPrefix s ⟨#[37, 80, 68, 70, 45]⟩ w
  rw [show Lib.hasPrefix s.data.toList (⟨#[37, 80, 68, 70, 45]⟩ : ByteArray).data.toList = true from hp] at hhp
  have HLi := hid hli
  have HHp := hid hhp
  clear htk hL hN hG hp hst hli hhp
  go_enter Tryz.func8, Tryz.ntmps8
  go_wp2_with (first | (go_at_call 18; go_must (refine HLi.out.mono ?_); rintro e w1 ⟨rfl, hw1⟩; rw [hw1]; clear hw1 w1) | (go_at_call 19; go_must (refine HHp.out.mono ?_); rintro e w1 ⟨rfl, hw1⟩; rw [hw1]; clear hw1 w1) | (go_at_call 21; fail))
  have hR0 : RdF (w.alloc (.cells #[.string s, .int .i64 ((X.length : Int) + 9)] 56)) w.heap.size s (X.length + 9) := At.new w _ _ rfl
  go_at_call 21
  refine (fwordT HT.out _ _ (by omega) hR0).mono ?_
  rintro e w2 ⟨rfl, _, hK2⟩
  have hB2 : Below w.heap.size w w2 := (KeepS.but (S := fun k => k = w.heap.size) hK2 rfl).below (below_box w _) (fun k h => by omega)
  clear hR0 hK2
  go_wp2_with (go_at_call 20; fail)
  go_at_call 20
  refine (fnumberD w2 (dec_all x0.a) (dec_ne x0.a) (by have := dec_len5 (show x0.a < 100000 by omega); omega) (by rw [dec_val]; omega)).mono ?_
  rintro e w3 ⟨rfl, hb3⟩
  rw [dec_val]
  have hB3 : Below w.heap.size w w3 := hB2.trans (hb3.mono hB2.size)
  clear hB2 hb3
  have hmm := @run_makeMap Tryz.prog
  go_wp2_with (go_at_call 22; fail)
  clear hmm
  have hM4 := (MapZ.new w3).later (below_box (w3.alloc (.map #[] 0)) (.cells #[.string s, .map (some w3.heap.size), .int .i64 (x0.a : Int), .int .i64 0, .int .i64 0, .string ⟨#[]⟩, .slice none 0 0, .slice none 0 0] 61))
  have hF4 : FileAt ((w3.alloc (.map #[] 0)).alloc (.cells #[.string s, .map (some w3.heap.size), .int .i64 (x0.a : Int), .int .i64 0, .int .i64 0, .string ⟨#[]⟩, .slice none 0 0, .slice none 0 0] 61)) (w3.heap.size + 1) s (.map (some w3.heap.size)) (x0.a : Int) (.int .i64 0) (.int .i64 0) (.string ⟨#[]⟩) (.slice none 0 0) (.slice none 0 0) := At.new _ _ _ (by simp)
  have hB4 : Below w.heap.size w ((w3.alloc (.map #[] 0)).alloc (.cells #[.string s, .map (some w3.heap.size), .int .i64 (x0.a : Int), .int .i64 0, .int .i64 0, .string ⟨#[]⟩, .slice none 0 0, .slice none 0 0] 61)) := (hB3.alloc hB3.size _).alloc (by have := hB3.size; simp; omega) _
  have h4 : ((w3.alloc (.map #[] 0)).alloc (.cells #[.string s, .map (some w3.heap.size), .int .i64 (x0.a : Int), .int .i64 0, .int .i64 0, .string ⟨#[]⟩, .slice none 0 0, .slice none 0 0] 61)).heap.size = w3.heap.size + 2 := by simp
  generalize World.alloc _ _ = w4 at hM4 hF4 hB4 h4 ⊢
  have h3s := hB3.size
  go_at_call 22
  refine (readTables_says M (w3.heap.size + 1) w3.heap.size 0 s x0 T0 _ _ _ _ _ (fun _ => none) w w4 hs HL.out HN.out hT (by omega) HG.out hB4 h3s (by omega) hF4 hM4 (by omega)).mono ?_
  rintro e w5 ⟨rfl, c0, c1, c2, c3, c4, q1, ⟨n', q2, q3⟩, q4, q5⟩
  have HF := hid (show FileR w.heap.size w5.heap.size (w3.heap.size + 1) s (x0.a : Int) x0.v (tellT (fun _ => none) (x0 :: T0)) w5 from
    ⟨w3.heap.size, n', c0, c1, c2, c3, c4, q1, by omega, q3, hid (q5.out.mono fun b hb => ⟨by omega, hb.2⟩), by omega, by omega, by have := q4.size; omega, by omega, by have := q4.size; omega, Nat.le_refl _⟩)
  have HB := hid (q4.below hB4 (by rintro k (rfl | rfl) <;> omega))
  clear q1 q2 q3 q4 q5
  go_wp2_with fail
  go_ret2
  exact ⟨_, rfl, HF.out, HB.out⟩
end Go.Proofs.YtflcibmjblioaaaGreatDoor
