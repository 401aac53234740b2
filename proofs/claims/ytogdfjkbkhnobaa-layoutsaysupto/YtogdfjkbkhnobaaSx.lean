/-
  TopLines: the walk.
-/
import Derived.Test.YtogdfjkbkhnobaaSx0
namespace Go.Proofs.Ytogdfjkbkhnobaa
open Go.Shelf Go.RowKit Go.Lib Go.Sort
set_option maxRecDepth 1000000

/-- What was met so far. -/
def LnSo (n Sb : Nat) (w3 wr : World) (V : List Int) : Prop := KeepBut Sb w3 wr ∧ At wr Sb 4 (seenA n V)
theorem lastI_next {r : List Int} {p : Nat} {g : Int} (h : r[p]? = some g) : lastI r (p + 1) = g := by
  unfold lastI
  rw [if_neg (by omega), Nat.add_sub_cancel, h]
  rfl
theorem take_next {r : List Int} {p : Nat} {g : Int} (h : r[p]? = some g) : r.take (p + 1) = r.take p ++ [g] := by
  obtain ⟨h1, h2⟩ := List.getElem?_eq_some_iff.1 h
  rw [List.take_succ_eq_append_getElem h1, h2]
set_option maxHeartbeats 4000000 in
theorem topLines_any (L : List Gy) (al : Option Addr) (c : Nat) (w : World) (hs : ∀ g ∈ L, g.s.size ≤ 2000000) (hG : GyAt w al L) :
    Calls Try.prog 4 #[.slice al L.length c] w fun e w' => e = .returned (.bool true) ∧ Below w.heap.size w w' := by
  have HG := hid hG
  have HS := hid hs
  have mx := mixed
  clear hG hs
  go_enter Try.func4, Try.ntmps4
  go_wp2_with (go_at_call 15; fail)
  go_at_call 15
  refine (laid_says w).mono ?_
  rintro e w1 ⟨rfl, hb1⟩
  go_wp2_with (go_at_call 7; fail)
  go_at_call 7
  refine (lightG_says L al c w1 HS.out (HG.out.later hb1)).mono ?_
  rintro e w2 ⟨rfl, hb2⟩
  have hb := hb1.trans (hb2.mono hb1.size)
  clear hb1 hb2
  cases hlt : ltGs L with
  | false =>
    go_wp2_with fail
    go_ret
    exact ⟨rfl, hb⟩
  | true =>
    obtain ⟨hl, hok, hv⟩ := ltGs_ok hlt
    have HK := hid hok
    have hmk := mk_seen w2 L.length (by omega)
    clear hok hv hlt
    go_wp2_with (go_at_call 12; fail)
    go_at_call 12
    refine (Words_says L al c _ (by omega) HK.out (HG.out.later (hb.alloc hb.size _))).mono ?_
    rintro e w3 ⟨v, R, rfl, hR, hI, hb3⟩
    have hA3 := (At.new w2 (seenA L.length []) 4 rfl).later hb3
    have HB3 := hid (show Below w.heap.size w w3 from (hb.alloc hb.size _).trans (hb3.mono (by have := hb.size; simp; omega)))
    have HF := hid hR.facts
    have HLn := hid hR
    have hRm := hR.many
    have hRf : R.flatten.length ≤ L.length := by rw [hR.facts.perm.length_eq]; exact txP_len L L.length
    have hw2 := hA3.lt
    have hws := hb.size
    have HO0 := hid (show LnSo L.length w2.heap.size w3 w3 [] from ⟨KeepBut.refl _ _, hA3⟩)
    have HAg := hid (fun (wr : World) (hk : KeepBut w2.heap.size w3 wr) => show AgreeS (fun b => w2.heap.size + 1 ≤ b) w3 wr from agree_but hk (by simp))
    have HGr := hid (fun (wr : World) (hk : KeepBut w2.heap.size w3 wr) => show GyAt wr al L from HG.out.later (hk.below HB3.out (by omega)))
    obtain ⟨a0, c0, e0, hJ⟩ := hI.imp (S' := fun b => w2.heap.size + 1 ≤ b) (fun b _ hs => by simpa using hs)
    rw [show (wdsR L R).length = R.length by simp [wdsR]] at e0
    subst e0
    have HI := hid (show ∀ (k : Nat) r, R[k]? = some r → ∃ b off u, a0 = some ⟨b, off, none⟩ ∧ w2.heap.size + 1 ≤ b ∧ b < w3.heap.size ∧ w3.cell? ⟨b, off + k, none⟩ = some u ∧ Is2 (fun b => w2.heap.size + 1 ≤ b) w3 u (wdsP L r r.length) from fun k r hk => hJ k _ (by unfold wdsR; rw [List.getElem?_map, hk]; rfl))
    clear hJ hI hb3 hA3 hR hmk hb
    generalize hSb : w2.heap.size = Sb at *
    clear hSb
    go_wp2_with fail
    go_loopw [5, 7] (fun m i wr => ∃ q : Nat, i = .int .i64 q ∧ q ≤ R.length ∧ m = .int .i64 ((R.take q).flatten.length : Int) ∧ Hid (LnSo L.length Sb w3 wr (R.take q).flatten)) (fun _ i _ => R.length - (intOf i).toNat)
    case atStart => exact ⟨0, rfl, Nat.zero_le _, rfl, HO0⟩
    case round =>
      obtain ⟨q, rfl, hq, rfl, HO⟩ := hrel
      clear HO0
      by_cases hql : q < R.length
      · have hql' : (q : Int) < R.length := by omega
        have hrq : R[q]? = some R[q] := List.getElem?_eq_getElem hql
        obtain ⟨b, off, u, e1, hSb, hbl, cu, hu⟩ := HI.out q _ hrq
        subst e1
        have HRq := hid hrq
        have HNe := hid (HF.out.ne _ (List.getElem_mem hql))
        have HRm := hid (List.getElem_mem hql)
        have HT1 := hid (show (R.take (q + 1)).flatten = (R.take q).flatten ++ R[q] by rw [List.take_succ_eq_append_getElem hql, List.flatten_append]; simp)
        have HVl := hid (show (R.take q).flatten.length + R[q].length ≤ 150 by
          have e := congrArg List.length HT1.out
          rw [List.length_append] at e
          have e2 : R.flatten = (R.take (q + 1)).flatten ++ (R.drop (q + 1)).flatten := by rw [← List.flatten_append, List.take_append_drop]
          rw [e2, List.length_append] at hRf
          omega)
        generalize R[q] = r at *
        have HWi := hid (wdsL_inv L r)
        have hwl := wdsP_len L r r.length
        have hrl := (HLn.out.row HRm.out).2
        generalize wdsP L r r.length = ws at *
        obtain ⟨au, cu2, eu, hu⟩ := hu
        subst eu
        have HU := hid hu
        have HCu := hid (fun (wr : World) (hk : KeepBut Sb w3 wr) => ((HAg.out wr hk).cell hSb hbl (off + q)).trans cu)
        have HVn := hid (Nat.le_trans (Nat.le_add_right _ _) HVl.out)
        generalize hV0 : (R.take q).flatten = V0 at *
        clear hu hSb hbl cu hrq
        go_wp2_with fail
        go_loopw [5, 8, 9] (fun m la jj wq => ∃ k p : Nat, jj = .int .i64 k ∧ k ≤ ws.length ∧ p = (ws.take k).flatten.length ∧ m = .int .i64 ((V0.length : Int) + p) ∧ la = .int .i64 (lastI r p) ∧ Hid (LnSo L.length Sb w3 wq (V0 ++ r.take p))) (fun _ _ jj _ => ws.length - (intOf jj).toNat)
        case atStart => exact ⟨0, 0, rfl, Nat.zero_le _, rfl, by simp, rfl, hid (by rw [List.take_zero, List.append_nil]; exact HO.out)⟩
        case round =>
          obtain ⟨k, p, rfl, hk, hp, rfl, rfl, HO2⟩ := hrel
          have HP := hid hp
          clear hp HO
          have cu1 := HCu.out wr HO2.out.1
          by_cases hkl : k < ws.length
          · have hkl' : (k : Int) < ws.length := by omega
            have hwk : ws[k]? = some ws[k] := List.getElem?_eq_getElem hkl
            obtain ⟨b2, off2, u2, e2, hSb2, hb2, cv, hv2⟩ := HU.out k _ hwk
            subst e2
            have HWk := hid hwk
            have HCv := hid (fun (wr : World) (hk : KeepBut Sb w3 wr) => ((HAg.out wr hk).cell hSb2 hb2 (off2 + k)).trans cv)
            clear hwk hSb2 hb2 cv
            generalize ws[k] = word at *
            obtain ⟨av, cv2, ev, hv2⟩ := hv2
            subst ev
            have HV2 := hid hv2
            have HAt := hid (fun (t : Nat) (ht : t < word.length) => show r[p + t]? = some word[t] from by have := flat_at HWi.out.whole HWk.out ht; rw [← HP.out] at this; exact this)
            have hpw : p + word.length ≤ r.length := by
              have e3 := flat_next HWk.out
              rw [← HP.out] at e3
              have e4 : (ws.take (k + 1)).flatten.length ≤ r.length := by
                have e5 : ws.flatten = (ws.take (k + 1)).flatten ++ (ws.drop (k + 1)).flatten := by rw [← List.flatten_append, List.take_append_drop]
                have e6 := congrArg List.length e5
                rw [HWi.out.whole, List.length_append] at e6
                omega
              omega
            clear hv2
            go_wp2_with fail
            go_loopw [5, 8, 10] (fun m la kk wq => ∃ t : Nat, kk = .int .i64 t ∧ t ≤ word.length ∧ m = .int .i64 ((V0.length : Int) + ((p + t : Nat) : Int)) ∧ la = .int .i64 (lastI r (p + t)) ∧ Hid (LnSo L.length Sb w3 wq (V0 ++ r.take (p + t)))) (fun _ _ kk _ => word.length - (intOf kk).toNat)
            case atStart => exact ⟨0, rfl, Nat.zero_le _, rfl, rfl, HO2⟩
            case round =>
              obtain ⟨t, rfl, ht, rfl, rfl, HO3⟩ := hrel
              clear HO2 cu1
              have cu1 := HCu.out wr HO3.out.1
              have cv1 := HCv.out wr HO3.out.1
              by_cases htl : t < word.length
              · have htl' : (t : Int) < word.length := by omega
                have HGt := hid (HAt.out t htl)
                obtain ⟨b3, off3, u3, e3, hSb3, hb3, cx, hx3⟩ := HV2.out t _ (List.getElem?_eq_getElem htl)
                subst e3 hx3
                have cx1 := ((HAg.out wr HO3.out.1).cell hSb3 hb3 (off3 + t)).trans cx
                have HNw := hid (show newW L r (p + t) = decide (t = 0) by have := HWi.out.at_ k t word HWk.out htl; rw [← HP.out] at this; exact this)
                generalize word[t] = z at *
                obtain ⟨hzm, hzf⟩ := HF.out.fresh HRq.out HGt.out
                rw [hV0] at hzf
                obtain ⟨hz0, hz1, hzt⟩ := HF.out.text hzm
                have hgz := gyA_at hz0 hz1
                obtain ⟨bg, og, eg, hbg, cz⟩ := (HGr.out wr HO3.out.1) z.toNat _ hgz
                subst eg
                have cz0 := cz 0 _ rfl
                simp only [Nat.add_zero] at cz0
                have hne : ((gyA L z).s.toList == []) = false := by
                  rw [ByteArray.toList_eq, beq_eq_false_iff_ne]
                  intro e
                  have : (gyA L z).s.data.toList.length = (gyA L z).s.size := by simp
                  rw [e] at this
                  simp at this
                  omega
                have hz2 : ¬ z < 0 := by omega
                have hz3 : ¬ (L.length : Int) ≤ z := by omega
                have sc : wr.cell? ⟨Sb, z.toNat, none⟩ = some (.bool false) := by rw [HO3.out.2.cell, seenA_at hz0 hz1 hzf]
                have sf := HO3.out.2.free z.toNat
                have hSbl := HO3.out.2.lt
                have hw1 : ((V0.length : Int) + ((p + t : Nat) : Int)) + 1 ≤ 151 := by have := HVl.out; omega
                have hw0 : (0 : Int) ≤ (V0.length : Int) + ((p + t : Nat) : Int) := by omega
                have HSo := hid (show LnSo L.length Sb w3 (wr.setCell ⟨Sb, z.toNat, none⟩ (.bool true)) (V0 ++ r.take (p + t + 1)) from ⟨HO3.out.1.set _ _, by rw [take_next HGt.out, ← List.append_assoc, ← seenA_push hz0]; exact HO3.out.2.set1 _⟩)
                have HCz := hid cz
                clear cz hSb3 hb3 cx hzt
                have kz := HK.out _ (List.mem_of_getElem? hgz)
                have HKz := hid kz
                have HGz := hid hgz
                clear kz hgz
                go_upto_region 24 with fail
                go_cut [118] from 88 to 118 (fun bb wx => bb = .bool false ∧ Hid (LnSo L.length Sb w3 wx (V0 ++ r.take (p + t + 1))))
                case first =>
                  generalize wr.setCell ⟨Sb, z.toNat, none⟩ (.bool true) = W0 at HSo ⊢
                  clear sc sf cu1 cv1 cx1 cz0 HO3 HCz
                  by_cases h0 : p + t = 0
                  · have e0 : lastI r (p + t) = -1 := by unfold lastI; rw [if_pos h0]
                    have hd : ¬ (0 : Int) ≤ lastI r (p + t) := by omega
                    have hd2 : decide ((0 : Int) ≤ lastI r (p + t)) = false := decide_eq_false hd
                    clear e0 h0
                    generalize lastI r (p + t) = la at *
                    go_region
                    go_wp2_with fail
                    go_meet
                    exact ⟨rfl, hid ⟨HSo.out.1.drew, HSo.out.2⟩⟩
                  · have hy : r[p + t - 1]? = some (lastI r (p + t)) := by
                      unfold lastI
                      rw [if_neg h0, List.getElem?_eq_getElem (by have := (List.getElem?_eq_some_iff.1 HGt.out).1; omega)]
                      rfl
                    have hyz := HF.out.left HRm.out (show p + t - 1 < p + t by omega) hy HGt.out
                    obtain ⟨hy0, hy1, _⟩ := HF.out.text (HF.out.fresh HRq.out hy).1
                    have hrom : rom (gyA L (lastI r (p + t))) (gyA L z) = decide (t = 0) := by
                      have e := HNw.out
                      unfold newW at e
                      rw [hy, HGt.out, decide_eq_false h0, Bool.false_or] at e
                      exact e
                    clear hy
                    generalize lastI r (p + t) = y at *
                    have kz := HKz.out
                    have ky := HK.out _ (List.mem_of_getElem? (gyA_at hy0 hy1))
                    obtain ⟨bg', og', eg, hbg0, cz⟩ := (HGr.out W0 HSo.out.1) z.toNat _ HGz.out
                    injection eg with eg
                    injection eg with eg1 eg2
                    subst eg1 eg2
                    obtain ⟨bg', og', eg, _, cy⟩ := (HGr.out W0 HSo.out.1) y.toNat _ (gyA_at hy0 hy1)
                    injection eg with eg
                    injection eg with eg1 eg2
                    subst eg1 eg2
                    clear HGz HKz hne
                    generalize gyA L y = X at *
                    generalize gyA L z = Y at *
                    have hle : ¬ Y.ax < X.ax := by omega
                    have hc : ∀ (W : World), Calls Try.prog 14 #[X.v, Y.v] W fun e w' => e = .returned (.bool (decide (t = 0))) ∧ Below W.heap.size W w' := fun W => (apart_says X Y W ky kz).mono fun e w' ⟨he, q, os, hw⟩ => ⟨by rw [he, hrom], by rw [hw]; exact below_grow _ _ _⟩
                    have HC := hid hc
                    have H0 := hid (show ∀ W, Below W0.heap.size W0 W → Below W0.heap.size W0 W ∧ W.cell? ⟨bg, og + y.toNat * 10, none⟩ = some (.string X.s) ∧ W.cell? ⟨bg, og + y.toNat * 10 + 1, none⟩ = some (.int .i64 X.ax) ∧ W.cell? ⟨bg, og + y.toNat * 10 + 2, none⟩ = some (.int .i64 X.ay) ∧ W.cell? ⟨bg, og + y.toNat * 10 + 3, none⟩ = some (.int .i64 X.ex) ∧ W.cell? ⟨bg, og + y.toNat * 10 + 4, none⟩ = some (.int .i64 X.ey) ∧ W.cell? ⟨bg, og + y.toNat * 10 + 5, none⟩ = some (.int .i64 X.sz) ∧ W.cell? ⟨bg, og + y.toNat * 10 + 6, none⟩ = some (.int .i64 X.x0) ∧ W.cell? ⟨bg, og + y.toNat * 10 + 7, none⟩ = some (.int .i64 X.y0) ∧ W.cell? ⟨bg, og + y.toNat * 10 + 8, none⟩ = some (.int .i64 X.x1) ∧ W.cell? ⟨bg, og + y.toNat * 10 + 9, none⟩ = some (.int .i64 X.y1) ∧ W.cell? ⟨bg, og + z.toNat * 10, none⟩ = some (.string Y.s) ∧ W.cell? ⟨bg, og + z.toNat * 10 + 1, none⟩ = some (.int .i64 Y.ax) ∧ W.cell? ⟨bg, og + z.toNat * 10 + 2, none⟩ = some (.int .i64 Y.ay) ∧ W.cell? ⟨bg, og + z.toNat * 10 + 3, none⟩ = some (.int .i64 Y.ex) ∧ W.cell? ⟨bg, og + z.toNat * 10 + 4, none⟩ = some (.int .i64 Y.ey) ∧ W.cell? ⟨bg, og + z.toNat * 10 + 5, none⟩ = some (.int .i64 Y.sz) ∧ W.cell? ⟨bg, og + z.toNat * 10 + 6, none⟩ = some (.int .i64 Y.x0) ∧ W.cell? ⟨bg, og + z.toNat * 10 + 7, none⟩ = some (.int .i64 Y.y0) ∧ W.cell? ⟨bg, og + z.toNat * 10 + 8, none⟩ = some (.int .i64 Y.x1) ∧ W.cell? ⟨bg, og + z.toNat * 10 + 9, none⟩ = some (.int .i64 Y.y1) from fun W hW => ⟨hW, ((hW.cell (p := ⟨bg, og + y.toNat * 10, none⟩) hbg0).trans (by have := cy 0 _ rfl; simpa using this)), ((hW.cell (p := ⟨bg, og + y.toNat * 10 + 1, none⟩) hbg0).trans (cy 1 _ rfl)), ((hW.cell (p := ⟨bg, og + y.toNat * 10 + 2, none⟩) hbg0).trans (cy 2 _ rfl)), ((hW.cell (p := ⟨bg, og + y.toNat * 10 + 3, none⟩) hbg0).trans (cy 3 _ rfl)), ((hW.cell (p := ⟨bg, og + y.toNat * 10 + 4, none⟩) hbg0).trans (cy 4 _ rfl)), ((hW.cell (p := ⟨bg, og + y.toNat * 10 + 5, none⟩) hbg0).trans (cy 5 _ rfl)), ((hW.cell (p := ⟨bg, og + y.toNat * 10 + 6, none⟩) hbg0).trans (cy 6 _ rfl)), ((hW.cell (p := ⟨bg, og + y.toNat * 10 + 7, none⟩) hbg0).trans (cy 7 _ rfl)), ((hW.cell (p := ⟨bg, og + y.toNat * 10 + 8, none⟩) hbg0).trans (cy 8 _ rfl)), ((hW.cell (p := ⟨bg, og + y.toNat * 10 + 9, none⟩) hbg0).trans (cy 9 _ rfl)), ((hW.cell (p := ⟨bg, og + z.toNat * 10, none⟩) hbg0).trans (by have := cz 0 _ rfl; simpa using this)), ((hW.cell (p := ⟨bg, og + z.toNat * 10 + 1, none⟩) hbg0).trans (cz 1 _ rfl)), ((hW.cell (p := ⟨bg, og + z.toNat * 10 + 2, none⟩) hbg0).trans (cz 2 _ rfl)), ((hW.cell (p := ⟨bg, og + z.toNat * 10 + 3, none⟩) hbg0).trans (cz 3 _ rfl)), ((hW.cell (p := ⟨bg, og + z.toNat * 10 + 4, none⟩) hbg0).trans (cz 4 _ rfl)), ((hW.cell (p := ⟨bg, og + z.toNat * 10 + 5, none⟩) hbg0).trans (cz 5 _ rfl)), ((hW.cell (p := ⟨bg, og + z.toNat * 10 + 6, none⟩) hbg0).trans (cz 6 _ rfl)), ((hW.cell (p := ⟨bg, og + z.toNat * 10 + 7, none⟩) hbg0).trans (cz 7 _ rfl)), ((hW.cell (p := ⟨bg, og + z.toNat * 10 + 8, none⟩) hbg0).trans (cz 8 _ rfl)), ((hW.cell (p := ⟨bg, og + z.toNat * 10 + 9, none⟩) hbg0).trans (cz 9 _ rfl))⟩)
                    clear hc cy cz ky kz hrom hyz HNw
                    have hy2 : (0 : Int) ≤ y := hy0
                    by_cases ht0 : t = 0
                    · subst ht0
                      have dt : decide ((0 : Nat) = 0) = true := rfl
                      rw [dt] at HC
                      go_region_held3 (fun (W : World) => Below W0.heap.size W0 W ∧ W.cell? ⟨bg, og + y.toNat * 10, none⟩ = some (.string X.s) ∧ W.cell? ⟨bg, og + y.toNat * 10 + 1, none⟩ = some (.int .i64 X.ax) ∧ W.cell? ⟨bg, og + y.toNat * 10 + 2, none⟩ = some (.int .i64 X.ay) ∧ W.cell? ⟨bg, og + y.toNat * 10 + 3, none⟩ = some (.int .i64 X.ex) ∧ W.cell? ⟨bg, og + y.toNat * 10 + 4, none⟩ = some (.int .i64 X.ey) ∧ W.cell? ⟨bg, og + y.toNat * 10 + 5, none⟩ = some (.int .i64 X.sz) ∧ W.cell? ⟨bg, og + y.toNat * 10 + 6, none⟩ = some (.int .i64 X.x0) ∧ W.cell? ⟨bg, og + y.toNat * 10 + 7, none⟩ = some (.int .i64 X.y0) ∧ W.cell? ⟨bg, og + y.toNat * 10 + 8, none⟩ = some (.int .i64 X.x1) ∧ W.cell? ⟨bg, og + y.toNat * 10 + 9, none⟩ = some (.int .i64 X.y1) ∧ W.cell? ⟨bg, og + z.toNat * 10, none⟩ = some (.string Y.s) ∧ W.cell? ⟨bg, og + z.toNat * 10 + 1, none⟩ = some (.int .i64 Y.ax) ∧ W.cell? ⟨bg, og + z.toNat * 10 + 2, none⟩ = some (.int .i64 Y.ay) ∧ W.cell? ⟨bg, og + z.toNat * 10 + 3, none⟩ = some (.int .i64 Y.ex) ∧ W.cell? ⟨bg, og + z.toNat * 10 + 4, none⟩ = some (.int .i64 Y.ey) ∧ W.cell? ⟨bg, og + z.toNat * 10 + 5, none⟩ = some (.int .i64 Y.sz) ∧ W.cell? ⟨bg, og + z.toNat * 10 + 6, none⟩ = some (.int .i64 Y.x0) ∧ W.cell? ⟨bg, og + z.toNat * 10 + 7, none⟩ = some (.int .i64 Y.y0) ∧ W.cell? ⟨bg, og + z.toNat * 10 + 8, none⟩ = some (.int .i64 Y.x1) ∧ W.cell? ⟨bg, og + z.toNat * 10 + 9, none⟩ = some (.int .i64 Y.y1))
                        (first | with_reducible exact H0.out _ (Below.refl _ _) | with_reducible exact H0.out _ (Below.refl _ _).drew | with_reducible exact H0.out _ B1)
                        (first | (go_at_call 14; refine (HC.out _).mono ?_; rintro e w5 ⟨rfl, hb5⟩; (have B1 : Below W0.heap.size W0 w5 := by first | with_reducible exact below_undrew hb5 | with_reducible exact hb5); clear hb5))
                      go_wp2_with fail
                      go_meet
                      exact ⟨rfl, hid ⟨HSo.out.1.then B1, HSo.out.2.later B1⟩⟩
                    · have dt : decide (t = 0) = false := decide_eq_false ht0
                      rw [dt] at HC
                      have ht1 : ¬ (t : Int) = 0 := by omega
                      have ht2 : ((t : Int) == 0) = false := by simp; omega
                      go_region_held3 (fun (W : World) => Below W0.heap.size W0 W ∧ W.cell? ⟨bg, og + y.toNat * 10, none⟩ = some (.string X.s) ∧ W.cell? ⟨bg, og + y.toNat * 10 + 1, none⟩ = some (.int .i64 X.ax) ∧ W.cell? ⟨bg, og + y.toNat * 10 + 2, none⟩ = some (.int .i64 X.ay) ∧ W.cell? ⟨bg, og + y.toNat * 10 + 3, none⟩ = some (.int .i64 X.ex) ∧ W.cell? ⟨bg, og + y.toNat * 10 + 4, none⟩ = some (.int .i64 X.ey) ∧ W.cell? ⟨bg, og + y.toNat * 10 + 5, none⟩ = some (.int .i64 X.sz) ∧ W.cell? ⟨bg, og + y.toNat * 10 + 6, none⟩ = some (.int .i64 X.x0) ∧ W.cell? ⟨bg, og + y.toNat * 10 + 7, none⟩ = some (.int .i64 X.y0) ∧ W.cell? ⟨bg, og + y.toNat * 10 + 8, none⟩ = some (.int .i64 X.x1) ∧ W.cell? ⟨bg, og + y.toNat * 10 + 9, none⟩ = some (.int .i64 X.y1) ∧ W.cell? ⟨bg, og + z.toNat * 10, none⟩ = some (.string Y.s) ∧ W.cell? ⟨bg, og + z.toNat * 10 + 1, none⟩ = some (.int .i64 Y.ax) ∧ W.cell? ⟨bg, og + z.toNat * 10 + 2, none⟩ = some (.int .i64 Y.ay) ∧ W.cell? ⟨bg, og + z.toNat * 10 + 3, none⟩ = some (.int .i64 Y.ex) ∧ W.cell? ⟨bg, og + z.toNat * 10 + 4, none⟩ = some (.int .i64 Y.ey) ∧ W.cell? ⟨bg, og + z.toNat * 10 + 5, none⟩ = some (.int .i64 Y.sz) ∧ W.cell? ⟨bg, og + z.toNat * 10 + 6, none⟩ = some (.int .i64 Y.x0) ∧ W.cell? ⟨bg, og + z.toNat * 10 + 7, none⟩ = some (.int .i64 Y.y0) ∧ W.cell? ⟨bg, og + z.toNat * 10 + 8, none⟩ = some (.int .i64 Y.x1) ∧ W.cell? ⟨bg, og + z.toNat * 10 + 9, none⟩ = some (.int .i64 Y.y1))
                        (first | with_reducible exact H0.out _ (Below.refl _ _) | with_reducible exact H0.out _ (Below.refl _ _).drew | with_reducible exact H0.out _ B1)
                        (first | (go_at_call 14; refine (HC.out _).mono ?_; rintro e w5 ⟨rfl, hb5⟩; (have B1 : Below W0.heap.size W0 w5 := by first | with_reducible exact below_undrew hb5 | with_reducible exact hb5); clear hb5))
                      go_wp2_with fail
                      go_meet
                      exact ⟨rfl, hid ⟨HSo.out.1.then B1, HSo.out.2.later B1⟩⟩
                case rest =>
                  obtain ⟨rfl, HO4⟩ := hcut
                  have HLa := hid (lastI_next HGt.out)
                  clear sc sf cu1 cv1 cx1 cz0 HO3 HSo HCz
                  go_wp2_with fail
                  go_roundw
                  case rel => exact ⟨t + 1, by go_num, by omega, by go_num, by rw [← Nat.add_assoc, HLa.out], by rw [← Nat.add_assoc]; exact HO4⟩
                  case measure => simp [intOf]; omega
              · have htl' : ¬ (t : Int) < word.length := by omega
                have e : t = word.length := by omega
                subst e
                go_wp2_with fail
                go_roundw
                case rel => exact ⟨k + 1, p + word.length, by go_num, by omega, by rw [flat_next HWk.out, ← HP.out], by simp, rfl, HO3⟩
                case measure => simp [intOf]; omega
          · have hkl' : ¬ (k : Int) < ws.length := by omega
            have e : k = ws.length := by omega
            subst e
            have hpr : p = r.length := by rw [HP.out, List.take_length, HWi.out.whole]
            have hr0 : 0 < r.length := List.length_pos_iff.2 HNe.out
            have hla : ¬ lastI r p < 0 := by
              have := HF.out.fresh HRq.out (List.getElem?_eq_getElem (show r.length - 1 < r.length by omega))
              have q2 := (HF.out.text this.1).1
              unfold lastI
              rw [if_neg (by omega), hpr, List.getElem?_eq_getElem (by omega)]
              simp only [Option.getD_some]
              omega
            have HPr := hid hpr
            clear hpr
            generalize lastI r p = la at *
            go_wp2_with fail
            go_roundw
            case rel =>
              refine ⟨q + 1, by go_num, by omega, ?_, hid ?_⟩
              · rw [HT1.out, List.length_append, HPr.out]; simp
              · have h3 := HO2.out
                rw [HPr.out, List.take_length] at h3
                rw [HT1.out]
                exact h3
            case measure => simp [intOf]; omega
      · have hql' : ¬ (q : Int) < R.length := by omega
        have e : q = R.length := by omega
        subst e
        have e2 : (R.take R.length).flatten.length = (txP L L.length).length := by rw [List.take_length]; exact HF.out.perm.length_eq
        rw [e2]
        have HWb := hid (HO.out.1.below HB3.out (by omega))
        have htn := txP_len L L.length
        clear e2 HO
        go_wp2_with fail
        go_loopw [5, 12] (fun m i wq => ∃ (k : Nat) (d : Int), i = .int .i64 k ∧ k ≤ L.length ∧ m = .int .i64 d ∧ Hid (d = ((txP L L.length).length : Int) - (txP L k).length) ∧ wq = wr) (fun _ i _ => L.length - (intOf i).toNat)
        case atStart => exact ⟨0, _, rfl, Nat.zero_le _, rfl, hid (by simp [txP]), rfl⟩
        case round =>
          obtain ⟨k, d, rfl, hk, rfl, HD, rfl⟩ := hrel
          by_cases hkl : k < L.length
          · have hkl' : (k : Int) < L.length := by omega
            obtain ⟨b, off, rfl, hb, cx⟩ := (HG.out.later HWb.out) k _ (gyA_at (z := (k : Int)) (by omega) hkl')
            have c0 := cx 0 _ rfl
            simp only [Nat.add_zero] at c0
            have HSc := hid (txP_succ L k)
            have hkn := txP_len L k
            have hd0 : -1000 ≤ d := by have := HD.out; omega
            have hd1 : d ≤ 1000 := by have := HD.out; omega
            clear cx
            generalize gyA L (k : Int) = g at *
            by_cases h0 : 0 < g.s.size
            · have hne : (g.s.toList == []) = false := by
                rw [ByteArray.toList_eq, beq_eq_false_iff_ne]
                intro e
                have : g.s.data.toList.length = g.s.size := by simp
                rw [e] at this
                simp at this
                omega
              have e3 := HSc.out
              rw [if_pos h0] at e3
              have HE := hid e3
              clear e3 HSc
              go_wp2_with fail
              go_roundw
              case rel => exact ⟨k + 1, d - 1, by go_num, by omega, by go_num, hid (by rw [HE.out, List.length_append, HD.out]; simp; omega), by first | rfl | trivial⟩
              case measure => simp [intOf]; omega
            · have hne : (g.s.toList == []) = true := by
                have : g.s.data.toList.length = g.s.size := by simp
                rw [ByteArray.toList_eq, List.eq_nil_of_length_eq_zero (by omega : g.s.data.toList.length = 0)]
                rfl
              have e3 := HSc.out
              rw [if_neg h0] at e3
              have HE := hid e3
              clear e3 HSc
              go_wp2_with fail
              go_roundw
              case rel => exact ⟨k + 1, d, by go_num, by omega, rfl, hid (by rw [HE.out, HD.out]), by first | rfl | trivial⟩
              case measure => simp [intOf]; omega
          · have hkl' : ¬ (k : Int) < L.length := by omega
            have e : k = L.length := by omega
            subst e
            have hd0 : d = 0 := by have := HD.out; omega
            subst hd0
            go_wp2_with fail
            go_ret
            exact ⟨rfl, HWb.out⟩
end Go.Proofs.Ytogdfjkbkhnobaa
