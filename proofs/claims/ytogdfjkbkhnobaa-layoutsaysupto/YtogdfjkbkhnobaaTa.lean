/-
  TopText: the walk.
-/
import Derived.Test.YtogdfjkbkhnobaaSz
import Derived.Test.YtogdfjkbkhnobaaSx0
namespace Go.Proofs.Ytogdfjkbkhnobaa
open Go.Shelf Go.RowKit Go.Lib Go.Sort
set_option maxRecDepth 1000000

/-- How many signs of each glyph were met. -/
def doneA (n : Nat) (l : List (Int × Int × Int)) : Array Value := arrA (fun x => .int .i64 (cntT l (x : Int) : Int)) n
theorem doneA_next {n : Nat} {l : List (Int × Int × Int)} {x : Int × Int × Int} (h0 : 0 ≤ x.2.1) : (doneA n l).setIfInBounds x.2.1.toNat (.int .i64 ((cntT l x.2.1 : Int) + 1)) = doneA n (l ++ [x]) := by
  unfold doneA
  rw [arrA_set]
  refine arrA_congr fun i _ => ?_
  rw [cntT_snoc]
  by_cases e : i = x.2.1.toNat
  · have e2 : (i : Int) = x.2.1 := by omega
    rw [if_pos e, if_pos e2.symm, e2]
    rfl
  · rw [if_neg e, if_neg (by omega), Nat.add_zero]
theorem doneA_same {n : Nat} {l : List (Int × Int × Int)} {x : Int × Int × Int} (h0 : x.2.1 < 0) : doneA n (l ++ [x]) = doneA n l := by
  unfold doneA
  refine arrA_congr fun i _ => ?_
  rw [cntT_snoc, if_neg (by omega), Nat.add_zero]
theorem doneA_at {n : Nat} {l : List (Int × Int × Int)} {o : Int} (h0 : 0 ≤ o) (h1 : o < n) : (doneA n l)[o.toNat]? = some (.int .i64 (cntT l o : Int)) := by
  unfold doneA
  rw [arrA_at _ (by omega)]
  have e : ((o.toNat : Nat) : Int) = o := by omega
  rw [e]
theorem mk_done (w : World) (n : Nat) (hn : n ≤ 1000) : (Instr.makeSlice 26 (.int .i64 n) (.int .i64 n)).run Try.prog w = .ok (.slice (some ⟨w.heap.size, 0, none⟩) n n) (w.alloc (.cells (doneA n []) 3)) := by
  obtain ⟨i, hi, h0, h1, h2⟩ := info_parts infoI
  have q := run_make (P := Try.prog) w 26 3 i (.int .i64 0) Try.underlying26 hi h0 .i64 .i64 (n : Int) (n : Int) (by omega) (Int.le_refl _) (by rw [h2]; omega) (by omega)
  rw [q, h1, Int.toNat_natCast, Nat.mul_one]
  have e : madeCells (Value.int .i64 0).cells n = doneA n [] := by
    show madeCells #[.int .i64 0] n = _
    rw [made_one]
    unfold doneA
    exact arrA_congr fun i _ => by simp [cntT]
  rw [e]
/-- What was met so far. -/
def TxSo (n Db : Nat) (w4 wr : World) (l : List (Int × Int × Int)) : Prop := KeepBut Db w4 wr ∧ At wr Db 3 (doneA n l)
theorem line_bound {L : List Gy} {l : List (Int × Int × Int)} (h : GoodT L l) : ∀ i, i ≤ l.length → 0 ≤ lnLast (l.take i) ∧ lnLast (l.take i) ≤ i
  | 0, _ => by simp [lnLast]
  | i + 1, hi => by
    have ih := line_bound h i (by omega)
    have hx : l[i]? = some (l[i]'(by omega)) := List.getElem?_eq_getElem (by omega)
    have q := (h i _ hx).line
    rw [List.take_succ_eq_append_getElem (by omega), lnLast_snoc]
    omega
theorem ofLast_at {l : List (Int × Int × Int)} {i : Nat} (h0 : 0 < i) (hi : i ≤ l.length) : (l.map fun x => x.2.1)[i - 1]? = some (ofLast (l.take i)) := by
  obtain ⟨k, rfl⟩ : ∃ k, i = k + 1 := ⟨i - 1, by omega⟩
  rw [List.take_succ_eq_append_getElem (by omega), ofLast_snoc, Nat.add_sub_cancel, List.getElem?_map, List.getElem?_eq_getElem (by omega : k < l.length)]
  rfl
theorem rnT_bound {g : Gy} {k r : Nat} (h : (rnT g)[k]? = some r) : r ≤ 1114111 := by
  unfold rnT at h
  cases e : rns g.s.data.toList with
  | none => rw [e] at h; simp at h
  | some rs =>
    rw [e] at h
    have := (rns_some _ _ rs (Nat.le_refl _) e).1 r (List.mem_of_getElem? h)
    unfold okR at this
    omega
theorem txL_len {L : List Gy} {R : List (List Int)} (h : Lns L R) (hl : L.length ≤ 1000) (hok : ∀ g ∈ L, GyOk g) : (txL L R).length ≤ 100000000000 := by
  have w := h.wOk hl hok
  have q := txT_len w (wdsR L R).length
  have := w.many
  unfold txL
  omega
set_option maxHeartbeats 4000000 in
theorem topText_any (L : List Gy) (al : Option Addr) (c : Nat) (w : World) (hs : ∀ g ∈ L, g.s.size ≤ 2000000) (hG : GyAt w al L) :
    Calls Try.prog 5 #[.slice al L.length c] w fun e w' => e = .returned (.bool true) ∧ Below w.heap.size w w' := by
  have HG := hid hG
  have HS := hid hs
  have mx := mixed
  clear hG hs
  go_enter Try.func5, Try.ntmps5
  go_wp2_with (go_at_call 15; fail)
  go_at_call 15
  refine (laid_says w).mono ?_
  rintro e w1 ⟨rfl, hb1⟩
  go_wp2_with (go_at_call 7; fail)
  go_at_call 7
  refine (lightG_says L al c w1 HS.out (HG.out.later hb1)).mono ?_
  rintro e w2 ⟨rfl, hb2⟩
  have hb := hb1.trans (hb2.mono hb1.size)
  clear hb1 hb2
  cases hlt : ltGs L with
  | false =>
    go_wp2_with fail
    go_ret
    exact ⟨rfl, hb⟩
  | true =>
    obtain ⟨hl, hok, hv⟩ := ltGs_ok hlt
    have HK := hid hok
    have HV := hid hv
    clear hok hv hlt
    go_wp2_with (go_at_call 8; fail)
    go_at_call 8
    refine (Of_says L al c _ (by omega) HK.out HV.out (HG.out.later hb)).mono ?_
    rintro e w3 ⟨v1, v2, v3, R, rfl, hR, h1, h2, h3, hb3⟩
    have hb := hb.trans (hb3.mono hb.size)
    obtain ⟨a1, c1, e1, h1⟩ := h1
    obtain ⟨a2, c2, e2, h2⟩ := h2
    obtain ⟨a3, c3, e3, h3⟩ := h3
    subst e1 e2 e3
    have HT := hid hR.text
    have HLb := hid (line_bound hR.text.1)
    have hLl := txL_len hR (by omega) HK.out
    simp only [List.length_map]
    clear hR hb3
    generalize txL L R = l at *
    have H1 := hid h1
    have H2 := hid h2
    have H3 := hid h3
    clear h1 h2 h3
    have hmk := mk_done (w3.alloc (.cells #[.slice a1 l.length c1, .slice a2 l.length c2, .slice a3 l.length c3] 28)) L.length (by omega)
    rw [show (w3.alloc (.cells #[.slice a1 l.length c1, .slice a2 l.length c2, .slice a3 l.length c3] 28)).heap.size = w3.heap.size + 1 by simp] at hmk
    go_wp2_with fail
    have hA4 := (At.new w3 #[.slice a1 l.length c1, .slice a2 l.length c2, .slice a3 l.length c3] 28 rfl).alloc (.cells (doneA L.length []) 3)
    have hD4 := At.new (w3.alloc (.cells #[.slice a1 l.length c1, .slice a2 l.length c2, .slice a3 l.length c3] 28)) (doneA L.length []) 3 (b := w3.heap.size + 1) (by simp)
    have hB4 : Below w.heap.size w ((w3.alloc (.cells #[.slice a1 l.length c1, .slice a2 l.length c2, .slice a3 l.length c3] 28)).alloc (.cells (doneA L.length []) 3)) := (hb.alloc hb.size _).alloc (by have := hb.size; simp; omega) _
    have hK4 : Below w3.heap.size w3 ((w3.alloc (.cells #[.slice a1 l.length c1, .slice a2 l.length c2, .slice a3 l.length c3] 28)).alloc (.cells (doneA L.length []) 3)) := ((Below.refl _ _).alloc (Nat.le_refl _) _).alloc (by simp) _
    have hws := hb.size
    clear hmk hb
    generalize (w3.alloc (.cells #[.slice a1 l.length c1, .slice a2 l.length c2, .slice a3 l.length c3] 28)).alloc (.cells (doneA L.length []) 3) = w4 at *
    have HO0 := hid (show TxSo L.length (w3.heap.size + 1) w4 w4 [] from ⟨KeepBut.refl _ _, hD4⟩)
    have HTx := hid (fun (wr : World) (hk : KeepBut (w3.heap.size + 1) w4 wr) => show At wr w3.heap.size 28 #[.slice a1 l.length c1, .slice a2 l.length c2, .slice a3 l.length c3] from hk.at hA4 (by omega))
    have HAg := hid (fun (wr : World) (hk : KeepBut (w3.heap.size + 1) w4 wr) => show AgreeS (fun b => b < w3.heap.size) w3 wr from ⟨Nat.le_trans hK4.size hk.size, fun b hb _ => (hk.block b (Nat.lt_of_lt_of_le hb hK4.size) (by omega)).trans (hK4.block b hb)⟩)
    have HB4 := hid hB4
    have HGr := hid (fun (wr : World) (hk : KeepBut (w3.heap.size + 1) w4 wr) => show GyAt wr al L from HG.out.later (hk.below HB4.out (by omega)))
    have HBr := hid (fun (wr : World) (hk : KeepBut (w3.heap.size + 1) w4 wr) => show Below w.heap.size w wr from hk.below HB4.out (by omega))
    clear hA4 hD4 hB4 hK4
    generalize hN : w3.heap.size = N at *
    go_loopw [6, 7] (fun ln i wr => ∃ k : Nat, i = .int .i64 k ∧ k ≤ l.length ∧ ln = .int .i64 (lnLast (l.take k)) ∧ Hid (TxSo L.length (N + 1) w4 wr (l.take k))) (fun _ i _ => l.length - (intOf i).toNat)
    case atStart => exact ⟨0, rfl, Nat.zero_le _, rfl, HO0⟩
    case round =>
      obtain ⟨k, rfl, hk, rfl, HO⟩ := hrel
      clear HO0
      have hT := HTx.out wr HO.out.1
      have t0 : wr.cell? ⟨N, 0, none⟩ = some (.slice a1 l.length c1) := by simpa using hT.cell 0
      have t1 : wr.cell? ⟨N, 1, none⟩ = some (.slice a2 l.length c2) := by simpa using hT.cell 1
      have t2 : wr.cell? ⟨N, 2, none⟩ = some (.slice a3 l.length c3) := by simpa using hT.cell 2
      have hLl' : (l.length : Int) ≤ 100000000000 := by omega
      by_cases hkl : k < l.length
      · have hkl' : (k : Int) < l.length := by omega
        have hx : l[k]? = some l[k] := List.getElem?_eq_getElem hkl
        have hC := HT.out.1 k _ hx
        have HLn := hid (show lnLast (l.take (k + 1)) = l[k].2.2 by rw [List.take_succ_eq_append_getElem hkl, lnLast_snoc])
        have HTk := hid (show l.take (k + 1) = l.take k ++ [l[k]] from List.take_succ_eq_append_getElem hkl)
        obtain ⟨b1, o1, u, e1, _, hb1, d1, rfl⟩ := H1.out k l[k].1 (by rw [List.getElem?_map, hx]; rfl)
        obtain ⟨b2, o2, u, e2, _, hb2, d2, rfl⟩ := H2.out k l[k].2.1 (by rw [List.getElem?_map, hx]; rfl)
        obtain ⟨b3, o3, u, e3, _, hb3, d3, rfl⟩ := H3.out k l[k].2.2 (by rw [List.getElem?_map, hx]; rfl)
        subst e1 e2 e3
        have c1' := ((HAg.out wr HO.out.1).cell (by omega) (by omega) (o1 + k)).trans d1
        have c2' := ((HAg.out wr HO.out.1).cell (by omega) (by omega) (o2 + k)).trans d2
        have c3' := ((HAg.out wr HO.out.1).cell (by omega) (by omega) (o3 + k)).trans d3
        have HPv := hid (show 0 < k → w3.cell? ⟨b2, o2 + (k - 1), none⟩ = some (.int .i64 (ofLast (l.take k))) from fun h0 => by
          obtain ⟨b, o, u, e, _, _, d, rfl⟩ := H2.out (k - 1) _ (ofLast_at h0 hk)
          injection e with e
          injection e with e1 e2
          subst e1 e2
          exact d)
        obtain ⟨g0, g1⟩ := HLb.out k hk
        clear hx d1 d2 d3
        obtain ⟨q1, q2⟩ := hC.line
        have HSp := hid hC.sep
        have HSg := hid hC.sign
        clear hC
        generalize l[k] = x at *
        obtain ⟨s, o, m⟩ := x
        have f1 : ¬ m < lnLast (l.take k) := by show ¬ (s, o, m).2.2 < _; omega
        have f2 : ¬ lnLast (l.take k) + 1 < m := by show ¬ _ < (s, o, m).2.2; omega
        have g2 : lnLast (l.take k) ≤ 100000000000 := by omega
        simp only at c1' c2' c3'
        clear q1 q2 g1
        by_cases ho : o < 0
        · have HSo := hid (show TxSo L.length (N + 1) w4 wr (l.take (k + 1)) from ⟨HO.out.1, by rw [HTk.out, doneA_same ho]; exact HO.out.2⟩)
          have hs32 : s = 32 ∨ s = 10 := HSp.out ho
          clear HSp HSg
          generalize lnLast (l.take k) = ln at *
          rcases hs32 with rfl | rfl
          · go_wp2_with fail
            go_roundw
            case rel => exact ⟨k + 1, by go_num, by omega, by rw [HLn.out], HSo⟩
            case measure => simp [intOf]; omega
          · go_wp2_with fail
            go_roundw
            case rel => exact ⟨k + 1, by go_num, by omega, by rw [HLn.out], HSo⟩
            case measure => simp [intOf]; omega
        · have ho0 : 0 ≤ o := by omega
          obtain ⟨ho1, r, hr, hrs, hof⟩ := HSg.out ho0
          have hrb := rnT_bound hr
          simp only at hrs ho1 hr hof
          subst hrs
          clear HSp HSg
          have hgz := gyA_at ho0 ho1
          have hgs := (HK.out _ (List.mem_of_getElem? hgz)).s
          have hgv := HV.out _ (List.mem_of_getElem? hgz)
          obtain ⟨bg, og, eg, hbg, cg⟩ := (HGr.out wr HO.out.1) o.toNat _ hgz
          subst eg
          have cg0 := cg 0 _ rfl
          simp only [Nat.add_zero] at cg0
          have HSo := hid (fun (W : World) (h : TxSo L.length (N + 1) w4 W (l.take k)) => show TxSo L.length (N + 1) w4 (W.setCell ⟨N + 1, o.toNat, none⟩ (.int .i64 ((cntT (l.take k) o : Int) + 1))) (l.take (k + 1)) from ⟨h.1.set _ _, by rw [HTk.out, ← doneA_next (x := ((r : Int), o, m)) ho0]; exact h.2.set1 _⟩)
          have HDn := hid (fun (W : World) (h : TxSo L.length (N + 1) w4 W (l.take k)) => show W.cell? ⟨N + 1, o.toNat, none⟩ = some (.int .i64 (cntT (l.take k) o : Int)) from by rw [h.2.cell, doneA_at ho0 ho1])
          have HHr := hid hr
          have hdl := (List.getElem?_eq_some_iff.1 hr).1
          have hrl := rnT_len (gyA L o)
          clear hr cg hgz
          generalize cntT (l.take k) o = d at *
          generalize lnLast (l.take k) = ln at *
          have hz2 : ¬ (L.length : Int) ≤ o := by omega
          have HRn := hid (show rns (gyA L o).s.data.toList = some (rnT (gyA L o)) from by
            obtain ⟨q, hq⟩ := Option.isSome_iff_exists.1 hgv
            unfold rnT
            rw [hq]
            rfl)
          generalize rnT (gyA L o) = rs at *
          generalize (gyA L o).s = sx at *
          have hO := HO.out
          go_wp2_with (go_at_call 16; fail)
          go_at_call 16
          refine (runes_says sx wr (by omega)).mono ?_
          rintro e w5 ⟨⟨hn, _⟩ | ⟨rs', v5, hn, rfl, hO5⟩, hb5⟩
          · rw [HRn.out] at hn; cases hn
          · rw [HRn.out] at hn
            injection hn with hn
            subst hn
            obtain ⟨a5, c5, rfl, h5⟩ := Own64.cells hO5
            obtain ⟨g5, rfl, _, hg5, e5⟩ := h5 d r HHr.out
            have H5 := hid (show TxSo L.length (N + 1) w4 w5 (l.take k) from ⟨hO.1.then hb5, hO.2.later hb5⟩)
            have s0 := ((hb5.cell (p := ⟨N, 0, none⟩) hT.lt).trans t0)
            have s1 := ((hb5.cell (p := ⟨N, 1, none⟩) hT.lt).trans t1)
            have c1'' := ((HAg.out w5 H5.out.1).cell (by omega) (by omega) (o1 + k)).trans ((((HAg.out wr hO.1).cell (by omega) (by omega) (o1 + k)).symm).trans c1')
            have dn := HDn.out w5 H5.out
            have df := H5.out.2.free o.toNat
            have hDl := H5.out.2.lt
            have wr1 : IntKind.i64.wrap (r : Int) = (r : Int) := by rw [IntKind.wrap_i64]; omega
            have hd1 : ¬ (rs.length : Int) ≤ (d : Int) := by omega
            have hd2 : (d : Int) < rs.length := by omega
            have hd3 : (d : Int) ≤ 1000 := by omega
            have hdA : ¬ rs.length ≤ d := by omega
            have hdB : d < rs.length := by omega
            have hdC : decide ((rs.length : Int) ≤ (d : Int)) = false := decide_eq_false hd1
            have hdD : decide (rs.length ≤ d) = false := decide_eq_false hdA
            have HPw := hid (show 0 < d → 0 < k ∧ w5.cell? ⟨b2, o2 + (k - 1), none⟩ = some (.int .i64 o) from fun h0 => by
              have hk0 : 0 < k := by
                by_cases e0 : k = 0
                · subst e0
                  exfalso
                  have := hof h0
                  rw [List.take_zero] at this
                  have e7 : ofLast [] = -1 := rfl
                  omega
                · omega
              refine ⟨hk0, ((HAg.out w5 H5.out.1).cell (by omega) (by omega) _).trans ?_⟩
              rw [HPv.out hk0, hof h0])
            clear t0 t1 t2 c1' c2' c3' cg0 hO h5 hO5 hb5 hT HO hof
            by_cases h0 : d = 0
            · have hd4 : ¬ (0 : Int) < d := by omega
              have hd5 : ¬ 0 < d := by omega
              have hd6 : decide ((0 : Int) < d) = false := decide_eq_false hd4
              have hd7 : decide (0 < d) = false := decide_eq_false hd5
              clear h0
              go_wp2_with fail
              go_region
              go_wp2_with fail
              go_roundw
              case rel => exact ⟨k + 1, by go_num, by omega, by rw [HLn.out], hid ⟨(HSo.out _ H5.out).1.drew, (HSo.out _ H5.out).2⟩⟩
              case measure => simp [intOf]; omega
            · obtain ⟨hk0, pv⟩ := HPw.out (by omega)
              have hd4 : (0 : Int) < d := by omega
              have hd5 : 0 < d := by omega
              have hd6 : decide ((0 : Int) < d) = true := decide_eq_true hd4
              have hd7 : decide (0 < d) = true := decide_eq_true hd5
              have hk1 : (1 : Int) ≤ k := by omega
              have hk2 : 1 ≤ k := hk0
              have hk3 : (k : Int) - 1 < l.length := by omega
              have hk4 : ((k : Int) - 1).toNat = k - 1 := by omega
              go_wp2_with fail
              go_region
              go_wp2_with fail
              go_roundw
              case rel => exact ⟨k + 1, by go_num, by omega, by rw [HLn.out], hid ⟨(HSo.out _ H5.out).1.drew, (HSo.out _ H5.out).2⟩⟩
              case measure => simp [intOf]; omega
      · have hkl' : ¬ (k : Int) < l.length := by omega
        have e : k = l.length := by omega
        subst e
        have HO7 := hid (show TxSo L.length (N + 1) w4 wr l from by have := HO.out; rw [List.take_length] at this; exact this)
        clear HO HLb H1 H2 H3
        generalize lnLast (l.take l.length) = ln at *
        go_wp2_with fail
        go_loopw [11] (fun i wq => ∃ k : Nat, i = .int .i64 k ∧ k ≤ L.length ∧ Hid (TxSo L.length (N + 1) w4 wq l)) (fun i _ => L.length - (intOf i).toNat)
        case atStart => exact ⟨0, rfl, Nat.zero_le _, HO7⟩
        case round =>
          obtain ⟨k, rfl, hk, HO8⟩ := hrel
          clear HO7 t0 t1 t2 hT
          by_cases hkl : k < L.length
          · have hkl' : (k : Int) < L.length := by omega
            have hgz := gyA_at (z := (k : Int)) (by omega) hkl'
            have hgs := (HK.out _ (List.mem_of_getElem? hgz)).s
            have hgv := HV.out _ (List.mem_of_getElem? hgz)
            obtain ⟨bg, og, eg, hbg, cg⟩ := (HGr.out wr HO8.out.1) k _ hgz
            subst eg
            have cg0 := cg 0 _ rfl
            simp only [Nat.add_zero] at cg0
            have HDn := hid (fun (W : World) (h : TxSo L.length (N + 1) w4 W l) => show W.cell? ⟨N + 1, k, none⟩ = some (.int .i64 ((rnT (gyA L (k : Int))).length : Int)) from by
              have e8 := doneA_at (n := L.length) (l := l) (o := (k : Int)) (by omega) hkl'
              rw [Int.toNat_natCast, HT.out.2 (k : Int) (by omega) hkl'] at e8
              rw [h.2.cell, e8])
            have HRn := hid (show rns (gyA L (k : Int)).s.data.toList = some (rnT (gyA L (k : Int))) from by
              obtain ⟨q, hq⟩ := Option.isSome_iff_exists.1 hgv
              unfold rnT
              rw [hq]
              rfl)
            clear cg hgz hgv
            generalize rnT (gyA L (k : Int)) = rs at *
            generalize (gyA L (k : Int)).s = sx at *
            have hO := HO8.out
            go_wp2_with (go_at_call 16; fail)
            go_at_call 16
            refine (runes_says sx wr (by omega)).mono ?_
            rintro e w5 ⟨⟨hn, _⟩ | ⟨rs', v5, hn, rfl, hO5⟩, hb5⟩
            · rw [HRn.out] at hn; cases hn
            · rw [HRn.out] at hn
              injection hn with hn
              subst hn
              obtain ⟨a5, c5, rfl, h5⟩ := Own64.cells hO5
              have H5 := hid (show TxSo L.length (N + 1) w4 w5 l from ⟨hO.1.then hb5, hO.2.later hb5⟩)
              have dn := HDn.out w5 H5.out
              clear h5 hO5 hb5 hO HO8 cg0
              go_wp2_with fail
              go_roundw
              case rel => exact ⟨k + 1, by go_num, by omega, H5⟩
              case measure => simp [intOf]; omega
          · have hkl' : ¬ (k : Int) < L.length := by omega
            have e : k = L.length := by omega
            subst e
            go_wp2_with fail
            go_ret
            exact ⟨rfl, HBr.out _ HO8.out.1⟩
end Go.Proofs.Ytogdfjkbkhnobaa
