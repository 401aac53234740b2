/-
  LayoutSays: the walk.
-/
import Derived.Test.YtogdfjkbkhnobaaTe0
namespace Go.Proofs.Ytogdfjkbkhnobaa
open Go.Shelf Go.RowKit Go.Lib Go.Sort
set_option maxRecDepth 1000000

set_option maxHeartbeats 4000000 in
theorem layoutSays_any (L : List Gy) (al : Option Addr) (c : Nat) (w : World) (hs : ∀ g ∈ L, g.s.size ≤ 2000000) (hG : GyAt w al L) :
    Calls Try.prog 3 #[.slice al L.length c] w fun e w' => e = .returned (.bool true) ∧ Below w.heap.size w w' := by
  have HG := hid hG
  have HS := hid hs
  have mx := mixed
  clear hG hs
  go_enter Try.func3, Try.ntmps3
  go_wp2_with (go_at_call 6; fail)
  go_at_call 6
  refine (lays_says w).mono ?_
  rintro e w1 ⟨rfl, hb1⟩
  go_wp2_with (go_at_call 7; fail)
  go_at_call 7
  refine (lightG_says L al c w1 HS.out (HG.out.later hb1)).mono ?_
  rintro e w2 ⟨rfl, hb2⟩
  have hb := hb1.trans (hb2.mono hb1.size)
  clear hb1 hb2
  cases hlt : ltGs L with
  | false =>
    go_wp2_with fail
    go_ret
    exact ⟨rfl, hb⟩
  | true =>
    obtain ⟨hl, hok, hv⟩ := ltGs_ok hlt
    have HK := hid hok
    have HV := hid hv
    clear hok hv hlt
    go_wp2_with (go_at_call 8; fail)
    go_at_call 8
    refine (Of_says L al c _ (by omega) HK.out HV.out (HG.out.later hb)).mono ?_
    rintro e w3 ⟨v1, v2, v3, R, rfl, hR, h1, h2, h3, hb3⟩
    have hbx := hb.trans (hb3.mono hb.size)
    have HR := hid hR
    have hTl := txL_len hR (by omega) HK.out
    have HTs := hid (txL_signs hR)
    obtain ⟨a1, c1, e1⟩ : ∃ a c, v1 = .slice a (txL L R).length c := by obtain ⟨a, c, e, _⟩ := h1; exact ⟨a, c, by rw [e, List.length_map]⟩
    obtain ⟨a2, c2, e2⟩ : ∃ a c, v2 = .slice a (txL L R).length c := by obtain ⟨a, c, e, _⟩ := h2; exact ⟨a, c, by rw [e, List.length_map]⟩
    obtain ⟨a3, c3, e3⟩ : ∃ a c, v3 = .slice a (txL L R).length c := by obtain ⟨a, c, e, _⟩ := h3; exact ⟨a, c, by rw [e, List.length_map]⟩
    have H1 := hid (fun (W : World) (hW : Below w3.heap.size w3 W) => h1.kept (.of hW))
    have H2 := hid (fun (W : World) (hW : Below w3.heap.size w3 W) => h2.kept (.of hW))
    have H3 := hid (fun (W : World) (hW : Below w3.heap.size w3 W) => h3.kept (.of hW))
    clear h1 h2 h3 hR hb hb3
    subst e1 e2 e3
    go_wp2_with (go_at_call 9; fail)
    go_at_call 9
    refine (laidR_says L al c _ (by omega) HK.out HV.out (HG.out.later (hbx.alloc hbx.size _))).mono ?_
    rintro e w4 ⟨x1, x2, x3, R', rfl, hR', k1, k2, k3, hb4⟩
    have eR := hR'.unique HR.out
    subst eR
    have hA4 := (At.new w3 #[.slice a1 (txL L R').length c1, .slice a2 (txL L R').length c2, .slice a3 (txL L R').length c3] 28 rfl).later hb4
    have hK4 : Below w3.heap.size w3 w4 := ((Below.refl _ _).alloc (Nat.le_refl _) _).trans (hb4.mono (by simp))
    have hb4x := hbx.trans (hK4.mono hbx.size)
    have J1 := hid (fun (W : World) (hW : Below w4.heap.size w4 W) => (OwnI.is1 (S := fun _ => True) k1 fun _ _ _ => trivial).kept (.of hW))
    have J2 := hid (fun (W : World) (hW : Below w4.heap.size w4 W) => (OwnI.is1 (S := fun _ => True) k2 fun _ _ _ => trivial).kept (.of hW))
    have J3 := hid (fun (W : World) (hW : Below w4.heap.size w4 W) => (OwnI.is1 (S := fun _ => True) k3 fun _ _ _ => trivial).kept (.of hW))
    have hw34 := hK4.size
    have T0 := hid (fun (W : World) (hW : Below w4.heap.size w4 W) => (hA4.later hW).cell)
    have HK4 := hid hK4
    clear k1 k2 k3 hR' hb4 hK4 hbx
    have t0 : w4.cell? ⟨w3.heap.size, 0, none⟩ = some (.slice a1 (txL L R').length c1) := by simpa using hA4.cell 0
    clear hA4
    generalize hN : w3.heap.size = N at *
    go_wp2_with (go_at_call 11; fail)
    go_at_call 11
    refine (numbers_fn _ ((txL L R').map fun x => x.1) _ w4 (H1.out w4 HK4.out) (fun z hz => by obtain ⟨x, hx, rfl⟩ := List.mem_map.1 hz; exact HTs.out x hx) (by rw [List.length_map]; exact hTl)).mono ?_
    rintro e w5 ⟨n5, rfl, hO5, hb5⟩
    have t1 : w5.cell? ⟨N, 1, none⟩ = some (.slice a2 (txL L R').length c2) := by simpa using T0.out w5 hb5 1
    go_wp2_with (go_at_call 10; fail)
    go_at_call 10
    refine (same_fn (fun _ => True) _ ((txL L R').map fun x => x.1) _ _ w5 (OwnI.is1 hO5 fun _ _ _ => trivial) (J1.out w5 hb5) (by rw [List.length_map]; exact hTl)).mono ?_
    rintro e w6 ⟨rfl, hb6⟩
    have hb6x := hb5.trans (hb6.mono hb5.size)
    clear t0 t1 hO5 hb6
    have t1 : w6.cell? ⟨N, 1, none⟩ = some (.slice a2 (txL L R').length c2) := by simpa using T0.out w6 hb6x 1
    go_wp2_with (go_at_call 10; fail)
    go_at_call 10
    refine (same_fn _ _ ((txL L R').map fun x => x.2.1) _ _ w6 (H2.out w6 (HK4.out.trans (hb6x.mono hw34))) (J2.out w6 hb6x) (by rw [List.length_map]; exact hTl)).mono ?_
    rintro e w7 ⟨rfl, hb7⟩
    have hb7x := hb6x.trans (hb7.mono hb6x.size)
    clear t1 hb7 hb6x hb5
    have t2 : w7.cell? ⟨N, 2, none⟩ = some (.slice a3 (txL L R').length c3) := by simpa using T0.out w7 hb7x 2
    go_wp2_with (go_at_call 10; fail)
    go_at_call 10
    refine (same_fn _ _ ((txL L R').map fun x => x.2.2) _ _ w7 (H3.out w7 (HK4.out.trans (hb7x.mono hw34))) (J3.out w7 hb7x) (by rw [List.length_map]; exact hTl)).mono ?_
    rintro e w8 ⟨rfl, hb8⟩
    have hb8x := hb4x.trans ((hb7x.trans (hb8.mono hb7x.size)).mono hb4x.size)
    clear t2 hb8 hb7x hb4x H1 H2 H3 J1 J2 J3 T0 HTs HK4
    go_wp2_with (go_at_call 12; fail)
    go_at_call 12
    refine (Words_says L al c _ (by omega) HK.out (HG.out.later hb8x)).mono ?_
    rintro e w9 ⟨v9, R9, rfl, hR9, hI9, hb9⟩
    have eR := hR9.unique HR.out
    subst eR
    go_wp2_with (go_at_call 13; fail)
    go_at_call 13
    have hb9x := hb8x.trans (hb9.mono hb8x.size)
    refine (refLines_says L al c _ (by omega) HK.out (HG.out.later hb9x)).mono ?_
    rintro e w10 ⟨v10, R10, vs10, B10, rfl, hR10, _, hO10, hb10⟩
    have eR := hR10.unique HR.out
    subst eR
    have hbz := hb9x.trans (hb10.mono hb9x.size)
    have hI := Is3.kept hI9 (.of hb10)
    obtain ⟨a0, c0, e0, hJ⟩ := hI.imp (S' := fun _ => True) (fun b _ hs => trivial)
    rw [show (wdsR L R10).length = R10.length by simp [wdsR]] at e0
    subst e0
    obtain ⟨al', cl', el, hLn⟩ := Own2.is2 (S := fun _ => True) hO10 fun _ _ _ => trivial
    subst el
    have HI := hid (show ∀ (k : Nat) r, R10[k]? = some r → ∃ b off u, a0 = some ⟨b, off, none⟩ ∧ b < w10.heap.size ∧ w10.cell? ⟨b, off + k, none⟩ = some u ∧ Is2 (fun _ => True) w10 u (wdsP L r r.length) from fun k r hk => by
      obtain ⟨b, off, u, z1, _, z3, z4, z5⟩ := hJ k _ (by unfold wdsR; rw [List.getElem?_map, hk]; rfl)
      exact ⟨b, off, u, z1, z3, z4, z5⟩)
    have HJ := hid hLn
    have HF := hid hR10.facts
    have hRm := hR10.many
    have HB := hid hbz
    have hws := hbz.size
    have HRr := hid (fun (r : List Int) (hr : r ∈ R10) => hR10.row hr)
    clear hJ hLn hI hI9 hb9 hb10 hO10 hR9 hR10 hb8x hb9x hbz HR hTl
    go_wp2_with fail
    go_loopw [10] (fun i wr => ∃ q : Nat, i = .int .i64 q ∧ q ≤ R10.length ∧ Below w10.heap.size w10 wr) (fun i _ => R10.length - (intOf i).toNat)
    case atStart => exact ⟨0, rfl, Nat.zero_le _, Below.refl _ _⟩
    case round =>
      obtain ⟨q, rfl, hq, hB⟩ := hrel
      by_cases hql : q < R10.length
      · have hql' : (q : Int) < R10.length := by omega
        have hrq : R10[q]? = some R10[q] := List.getElem?_eq_getElem hql
        obtain ⟨b, off, u, e1, hbl, cu, hu⟩ := HI.out q _ hrq
        subst e1
        obtain ⟨bl, ol, ul, e2, _, hbll, cl, hul⟩ := HJ.out q _ hrq
        subst e2
        have HRm := hid (List.getElem_mem hql)
        have HNe := hid (HF.out.ne _ (List.getElem_mem hql))
        generalize R10[q] = r at *
        have HWi := hid (wdsL_inv L r)
        have hwl := wdsP_len L r r.length
        have hrl := (HRr.out r HRm.out).2
        have HRb := hid (HRr.out r HRm.out).1
        generalize wdsP L r r.length = ws at *
        obtain ⟨au, cu2, eu, hu⟩ := hu
        subst eu
        obtain ⟨ar, cr2, er, hr⟩ := hul
        subst er
        have HU := hid hu
        have HRw := hid hr
        have HCu := hid (fun (W : World) (hW : Below w10.heap.size w10 W) => (hW.cell (p := ⟨b, off + q, none⟩) hbl).trans cu)
        have HCl := hid (fun (W : World) (hW : Below w10.heap.size w10 W) => (hW.cell (p := ⟨bl, ol + q, none⟩) hbll).trans cl)
        clear hu hr cu cl hrq
        go_wp2_with fail
        go_loopw [11, 12, 13] (fun kk wd jj wq => ∃ j p : Nat, jj = .int .i64 j ∧ j ≤ ws.length ∧ p = (ws.take j).flatten.length ∧ kk = .int .i64 p ∧ wd = .int .i64 ((j : Int) - 1) ∧ Below w10.heap.size w10 wq) (fun _ _ jj _ => ws.length - (intOf jj).toNat)
        case atStart => exact ⟨0, 0, rfl, Nat.zero_le _, rfl, rfl, rfl, hB⟩
        case round =>
          obtain ⟨j, p, rfl, hj, hp, rfl, rfl, hB2⟩ := hrel
          have HP := hid hp
          clear hp hB
          have cu1 := HCu.out wr hB2
          have cl1 := HCl.out wr hB2
          by_cases hjl : j < ws.length
          · have hjl' : (j : Int) < ws.length := by omega
            have hwj : ws[j]? = some ws[j] := List.getElem?_eq_getElem hjl
            obtain ⟨b2, off2, u2, e2, _, hb2, cv, hv2⟩ := HU.out j _ hwj
            subst e2
            have HWj := hid hwj
            have HCv := hid (fun (W : World) (hW : Below w10.heap.size w10 W) => (hW.cell (p := ⟨b2, off2 + j, none⟩) hb2).trans cv)
            have HWn := hid (HWi.out.ne _ (List.getElem_mem hjl))
            clear hwj cv
            generalize ws[j] = word at *
            obtain ⟨av, cv2, ev, hv2⟩ := hv2
            subst ev
            have HV2 := hid hv2
            have HAt := hid (fun (t : Nat) (ht : t < word.length) => show r[p + t]? = some word[t] from by have := flat_at HWi.out.whole HWj.out ht; rw [← HP.out] at this; exact this)
            have hpw : p + word.length ≤ r.length := by
              have e3 := flat_next HWj.out
              rw [← HP.out] at e3
              have e5 : ws.flatten = (ws.take (j + 1)).flatten ++ (ws.drop (j + 1)).flatten := by rw [← List.flatten_append, List.take_append_drop]
              have e6 := congrArg List.length e5
              rw [HWi.out.whole, List.length_append] at e6
              omega
            clear hv2
            go_wp2_with fail
            go_loopw [11, 12, 14] (fun kk wd nn wq => ∃ t : Nat, nn = .int .i64 t ∧ t ≤ word.length ∧ kk = .int .i64 ((p + t : Nat) : Int) ∧ (∃ d : Int, wd = .int .i64 d ∧ Hid (d = if t = 0 then (j : Int) - 1 else (j : Int))) ∧ Below w10.heap.size w10 wq) (fun _ _ nn _ => word.length - (intOf nn).toNat)
            case atStart => exact ⟨0, rfl, Nat.zero_le _, rfl, ⟨_, rfl, hid (by simp)⟩, hB2⟩
            case round =>
              obtain ⟨t, rfl, ht, rfl, ⟨d, rfl, HD⟩, hB3⟩ := hrel
              clear hB2 cu1 cl1
              have cu1 := HCu.out wr hB3
              have cl1 := HCl.out wr hB3
              have cv1 := HCv.out wr hB3
              by_cases htl : t < word.length
              · have htl' : (t : Int) < word.length := by omega
                have HGt := hid (HAt.out t htl)
                obtain ⟨b3, off3, u3, e3, _, hb3, cx, hx3⟩ := HV2.out t _ (List.getElem?_eq_getElem htl)
                subst e3 hx3
                have cx1 := (hB3.cell (p := ⟨b3, off3 + t, none⟩) hb3).trans cx
                have HNw := hid (show newW L r (p + t) = decide (t = 0) by have := HWi.out.at_ j t word HWj.out htl; rw [← HP.out] at this; exact this)
                generalize word[t] = z at *
                obtain ⟨br, or', ur, e4, _, hbr, cr, hr4⟩ := HRw.out (p + t) z HGt.out
                subst e4 hr4
                have cr1 := (hB3.cell (p := ⟨br, or' + (p + t), none⟩) hbr).trans cr
                have HRy := hid (show ∀ i y, r[i]? = some y → w10.cell? ⟨br, or' + i, none⟩ = some (.int .i64 y) from fun i y hi => by
                  obtain ⟨b', o', u', e5, _, _, d', rfl⟩ := HRw.out i y hi
                  injection e5 with e5
                  injection e5 with e6 e7
                  subst e6 e7
                  exact d')
                obtain ⟨hz0, hz1⟩ := HRb.out z (List.mem_of_getElem? HGt.out)
                have hi1 : ((p + t : Nat) : Int) < r.length := by omega
                have hi2 : ¬ (r.length : Int) ≤ ((p + t : Nat) : Int) := by omega
                have hi3 : p + t < r.length := by omega
                have hi4 : ¬ r.length ≤ p + t := by omega
                have hi5 : (p : Int) + t < r.length := by omega
                have hi6 : ¬ (r.length : Int) ≤ (p : Int) + t := by omega
                have hrl' : (r.length : Int) ≤ 150 := by omega
                clear cx cr
                go_upto_region 26 with fail
                go_cut [140] from 117 to 140 (fun bb wx => bb = .bool false ∧ Below w10.heap.size w10 wx)
                case first =>
                  clear cu1 cv1 cx1 cr1
                  by_cases h0 : p + t = 0
                  · have hd : ¬ (0 : Int) < (p : Int) + t := by omega
                    have hd1 : ¬ (0 : Int) < ((p + t : Nat) : Int) := by omega
                    have hd2 : ¬ 0 < p + t := by omega
                    have hd3 : decide ((0 : Int) < (p : Int) + t) = false := decide_eq_false hd
                    have hd4 : decide (0 < p + t) = false := decide_eq_false hd2
                    have hd5 : decide ((0 : Int) < ((p + t : Nat) : Int)) = false := decide_eq_false hd1
                    clear h0
                    go_region
                    go_wp2_with fail
                    go_meet
                    exact ⟨rfl, hB3.drew⟩
                  · obtain ⟨y, hy⟩ : ∃ y, r[p + t - 1]? = some y := ⟨_, List.getElem?_eq_getElem (by omega)⟩
                    obtain ⟨hy0, hy1⟩ := HRb.out y (List.mem_of_getElem? hy)
                    have hrom : rom (gyA L y) (gyA L z) = decide (t = 0) := by
                      have e := HNw.out
                      unfold newW at e
                      rw [hy, HGt.out, decide_eq_false h0, Bool.false_or] at e
                      exact e
                    have hGw := HG.out.later (HB.out.trans (hB3.mono hws))
                    obtain ⟨bg, og, eg, hbgW, czz⟩ := hGw z.toNat _ (gyA_at hz0 hz1)
                    subst eg
                    obtain ⟨bg', og', eg, _, cy⟩ := hGw y.toNat _ (gyA_at hy0 hy1)
                    injection eg with eg
                    injection eg with eg1 eg2
                    subst eg1 eg2
                    have kz := HK.out _ (List.mem_of_getElem? (gyA_at hz0 hz1))
                    have ky := HK.out _ (List.mem_of_getElem? (gyA_at hy0 hy1))
                    have clW := cl1
                    have hblW := Nat.lt_of_lt_of_le hbll hB3.size
                    have hbrW := Nat.lt_of_lt_of_le hbr hB3.size
                    have cyW := (hB3.cell (p := ⟨br, or' + (p + t - 1), none⟩) hbr).trans (HRy.out (p + t - 1) y hy)
                    generalize gyA L y = X at *
                    generalize gyA L z = Y at *
                    have hc : ∀ (W : World), Calls Try.prog 14 #[X.v, Y.v] W fun e w' => e = .returned (.bool (decide (t = 0))) ∧ Below W.heap.size W w' := fun W => (apart_says X Y W ky kz).mono fun e w' ⟨he, q, os, hw⟩ => ⟨by rw [he, hrom], by rw [hw]; exact below_grow _ _ _⟩
                    have HC := hid hc
                    generalize hW0 : wr = W0 at *
                    clear hW0
                    have H0 := hid (show ∀ W, Below W0.heap.size W0 W → Below W0.heap.size W0 W ∧ W.cell? ⟨bl, ol + q, none⟩ = some (.slice (some ⟨br, or', none⟩) r.length cr2) ∧ W.cell? ⟨br, or' + (p + t - 1), none⟩ = some (.int .i64 y) ∧ W.cell? ⟨bg, og + y.toNat * 10, none⟩ = some (.string X.s) ∧ W.cell? ⟨bg, og + y.toNat * 10 + 1, none⟩ = some (.int .i64 X.ax) ∧ W.cell? ⟨bg, og + y.toNat * 10 + 2, none⟩ = some (.int .i64 X.ay) ∧ W.cell? ⟨bg, og + y.toNat * 10 + 3, none⟩ = some (.int .i64 X.ex) ∧ W.cell? ⟨bg, og + y.toNat * 10 + 4, none⟩ = some (.int .i64 X.ey) ∧ W.cell? ⟨bg, og + y.toNat * 10 + 5, none⟩ = some (.int .i64 X.sz) ∧ W.cell? ⟨bg, og + y.toNat * 10 + 6, none⟩ = some (.int .i64 X.x0) ∧ W.cell? ⟨bg, og + y.toNat * 10 + 7, none⟩ = some (.int .i64 X.y0) ∧ W.cell? ⟨bg, og + y.toNat * 10 + 8, none⟩ = some (.int .i64 X.x1) ∧ W.cell? ⟨bg, og + y.toNat * 10 + 9, none⟩ = some (.int .i64 X.y1) ∧ W.cell? ⟨bg, og + z.toNat * 10, none⟩ = some (.string Y.s) ∧ W.cell? ⟨bg, og + z.toNat * 10 + 1, none⟩ = some (.int .i64 Y.ax) ∧ W.cell? ⟨bg, og + z.toNat * 10 + 2, none⟩ = some (.int .i64 Y.ay) ∧ W.cell? ⟨bg, og + z.toNat * 10 + 3, none⟩ = some (.int .i64 Y.ex) ∧ W.cell? ⟨bg, og + z.toNat * 10 + 4, none⟩ = some (.int .i64 Y.ey) ∧ W.cell? ⟨bg, og + z.toNat * 10 + 5, none⟩ = some (.int .i64 Y.sz) ∧ W.cell? ⟨bg, og + z.toNat * 10 + 6, none⟩ = some (.int .i64 Y.x0) ∧ W.cell? ⟨bg, og + z.toNat * 10 + 7, none⟩ = some (.int .i64 Y.y0) ∧ W.cell? ⟨bg, og + z.toNat * 10 + 8, none⟩ = some (.int .i64 Y.x1) ∧ W.cell? ⟨bg, og + z.toNat * 10 + 9, none⟩ = some (.int .i64 Y.y1) from fun W hW => ⟨hW, ((hW.cell (p := ⟨bl, ol + q, none⟩) hblW).trans clW), ((hW.cell (p := ⟨br, or' + (p + t - 1), none⟩) hbrW).trans cyW), ((hW.cell (p := ⟨bg, og + y.toNat * 10, none⟩) hbgW).trans (by have := cy 0 _ rfl; simpa using this)), ((hW.cell (p := ⟨bg, og + y.toNat * 10 + 1, none⟩) hbgW).trans (cy 1 _ rfl)), ((hW.cell (p := ⟨bg, og + y.toNat * 10 + 2, none⟩) hbgW).trans (cy 2 _ rfl)), ((hW.cell (p := ⟨bg, og + y.toNat * 10 + 3, none⟩) hbgW).trans (cy 3 _ rfl)), ((hW.cell (p := ⟨bg, og + y.toNat * 10 + 4, none⟩) hbgW).trans (cy 4 _ rfl)), ((hW.cell (p := ⟨bg, og + y.toNat * 10 + 5, none⟩) hbgW).trans (cy 5 _ rfl)), ((hW.cell (p := ⟨bg, og + y.toNat * 10 + 6, none⟩) hbgW).trans (cy 6 _ rfl)), ((hW.cell (p := ⟨bg, og + y.toNat * 10 + 7, none⟩) hbgW).trans (cy 7 _ rfl)), ((hW.cell (p := ⟨bg, og + y.toNat * 10 + 8, none⟩) hbgW).trans (cy 8 _ rfl)), ((hW.cell (p := ⟨bg, og + y.toNat * 10 + 9, none⟩) hbgW).trans (cy 9 _ rfl)), ((hW.cell (p := ⟨bg, og + z.toNat * 10, none⟩) hbgW).trans (by have := czz 0 _ rfl; simpa using this)), ((hW.cell (p := ⟨bg, og + z.toNat * 10 + 1, none⟩) hbgW).trans (czz 1 _ rfl)), ((hW.cell (p := ⟨bg, og + z.toNat * 10 + 2, none⟩) hbgW).trans (czz 2 _ rfl)), ((hW.cell (p := ⟨bg, og + z.toNat * 10 + 3, none⟩) hbgW).trans (czz 3 _ rfl)), ((hW.cell (p := ⟨bg, og + z.toNat * 10 + 4, none⟩) hbgW).trans (czz 4 _ rfl)), ((hW.cell (p := ⟨bg, og + z.toNat * 10 + 5, none⟩) hbgW).trans (czz 5 _ rfl)), ((hW.cell (p := ⟨bg, og + z.toNat * 10 + 6, none⟩) hbgW).trans (czz 6 _ rfl)), ((hW.cell (p := ⟨bg, og + z.toNat * 10 + 7, none⟩) hbgW).trans (czz 7 _ rfl)), ((hW.cell (p := ⟨bg, og + z.toNat * 10 + 8, none⟩) hbgW).trans (czz 8 _ rfl)), ((hW.cell (p := ⟨bg, og + z.toNat * 10 + 9, none⟩) hbgW).trans (czz 9 _ rfl))⟩)
                    have hd : (0 : Int) < (p : Int) + t := by omega
                    have hd2 : 0 < p + t := by omega
                    have hd3 : decide ((0 : Int) < (p : Int) + t) = true := decide_eq_true hd
                    have hd4 : decide (0 < p + t) = true := decide_eq_true hd2
                    have hk1 : (1 : Int) ≤ (p : Int) + t := by omega
                    have hk2 : 1 ≤ p + t := by omega
                    have hk3 : (p : Int) + t - 1 < r.length := by omega
                    have hk4 : ((p : Int) + t - 1).toNat = p + t - 1 := by omega
                    have rk : IntKind.i64.wrap ((p : Int) + t - 1) = (p : Int) + t - 1 := by rw [IntKind.wrap_i64]; omega
                    clear hc clW cyW cy czz hy ky kz h0 hrom cl1 hGw HNw
                    by_cases ht0 : t = 0
                    · have dt : decide (t = 0) = true := decide_eq_true ht0
                      have hd9 := HD.out
                      rw [if_pos ht0] at hd9
                      rw [dt] at HC
                      have hne : ((j : Int) == d) = false := by simp; omega
                      have hne2 : ¬ (j : Int) = d := by omega
                      have hne3 : ((j : Int) != d) = true := by simp; omega
                      have hne4 : decide ((j : Int) = d) = false := decide_eq_false hne2
                      clear dt ht0 hd9
                      go_region_held3 (fun (W : World) => Below W0.heap.size W0 W ∧ W.cell? ⟨bl, ol + q, none⟩ = some (.slice (some ⟨br, or', none⟩) r.length cr2) ∧ W.cell? ⟨br, or' + (p + t - 1), none⟩ = some (.int .i64 y) ∧ W.cell? ⟨bg, og + y.toNat * 10, none⟩ = some (.string X.s) ∧ W.cell? ⟨bg, og + y.toNat * 10 + 1, none⟩ = some (.int .i64 X.ax) ∧ W.cell? ⟨bg, og + y.toNat * 10 + 2, none⟩ = some (.int .i64 X.ay) ∧ W.cell? ⟨bg, og + y.toNat * 10 + 3, none⟩ = some (.int .i64 X.ex) ∧ W.cell? ⟨bg, og + y.toNat * 10 + 4, none⟩ = some (.int .i64 X.ey) ∧ W.cell? ⟨bg, og + y.toNat * 10 + 5, none⟩ = some (.int .i64 X.sz) ∧ W.cell? ⟨bg, og + y.toNat * 10 + 6, none⟩ = some (.int .i64 X.x0) ∧ W.cell? ⟨bg, og + y.toNat * 10 + 7, none⟩ = some (.int .i64 X.y0) ∧ W.cell? ⟨bg, og + y.toNat * 10 + 8, none⟩ = some (.int .i64 X.x1) ∧ W.cell? ⟨bg, og + y.toNat * 10 + 9, none⟩ = some (.int .i64 X.y1) ∧ W.cell? ⟨bg, og + z.toNat * 10, none⟩ = some (.string Y.s) ∧ W.cell? ⟨bg, og + z.toNat * 10 + 1, none⟩ = some (.int .i64 Y.ax) ∧ W.cell? ⟨bg, og + z.toNat * 10 + 2, none⟩ = some (.int .i64 Y.ay) ∧ W.cell? ⟨bg, og + z.toNat * 10 + 3, none⟩ = some (.int .i64 Y.ex) ∧ W.cell? ⟨bg, og + z.toNat * 10 + 4, none⟩ = some (.int .i64 Y.ey) ∧ W.cell? ⟨bg, og + z.toNat * 10 + 5, none⟩ = some (.int .i64 Y.sz) ∧ W.cell? ⟨bg, og + z.toNat * 10 + 6, none⟩ = some (.int .i64 Y.x0) ∧ W.cell? ⟨bg, og + z.toNat * 10 + 7, none⟩ = some (.int .i64 Y.y0) ∧ W.cell? ⟨bg, og + z.toNat * 10 + 8, none⟩ = some (.int .i64 Y.x1) ∧ W.cell? ⟨bg, og + z.toNat * 10 + 9, none⟩ = some (.int .i64 Y.y1))
                        (first | with_reducible exact H0.out _ (Below.refl _ _) | with_reducible exact H0.out _ (Below.refl _ _).drew | with_reducible exact H0.out _ B1)
                        (first | (go_at_call 14; refine (HC.out _).mono ?_; rintro e w5 ⟨rfl, hb5⟩; (have B1 : Below W0.heap.size W0 w5 := by first | with_reducible exact below_undrew hb5 | with_reducible exact hb5); clear hb5))
                      go_wp2_with fail
                      go_meet
                      exact ⟨rfl, hB3.trans (B1.mono hB3.size)⟩
                    · have dt : decide (t = 0) = false := decide_eq_false ht0
                      have hd9 := HD.out
                      rw [if_neg ht0] at hd9
                      rw [dt] at HC
                      subst hd9
                      clear dt ht0
                      go_region_held3 (fun (W : World) => Below W0.heap.size W0 W ∧ W.cell? ⟨bl, ol + q, none⟩ = some (.slice (some ⟨br, or', none⟩) r.length cr2) ∧ W.cell? ⟨br, or' + (p + t - 1), none⟩ = some (.int .i64 y) ∧ W.cell? ⟨bg, og + y.toNat * 10, none⟩ = some (.string X.s) ∧ W.cell? ⟨bg, og + y.toNat * 10 + 1, none⟩ = some (.int .i64 X.ax) ∧ W.cell? ⟨bg, og + y.toNat * 10 + 2, none⟩ = some (.int .i64 X.ay) ∧ W.cell? ⟨bg, og + y.toNat * 10 + 3, none⟩ = some (.int .i64 X.ex) ∧ W.cell? ⟨bg, og + y.toNat * 10 + 4, none⟩ = some (.int .i64 X.ey) ∧ W.cell? ⟨bg, og + y.toNat * 10 + 5, none⟩ = some (.int .i64 X.sz) ∧ W.cell? ⟨bg, og + y.toNat * 10 + 6, none⟩ = some (.int .i64 X.x0) ∧ W.cell? ⟨bg, og + y.toNat * 10 + 7, none⟩ = some (.int .i64 X.y0) ∧ W.cell? ⟨bg, og + y.toNat * 10 + 8, none⟩ = some (.int .i64 X.x1) ∧ W.cell? ⟨bg, og + y.toNat * 10 + 9, none⟩ = some (.int .i64 X.y1) ∧ W.cell? ⟨bg, og + z.toNat * 10, none⟩ = some (.string Y.s) ∧ W.cell? ⟨bg, og + z.toNat * 10 + 1, none⟩ = some (.int .i64 Y.ax) ∧ W.cell? ⟨bg, og + z.toNat * 10 + 2, none⟩ = some (.int .i64 Y.ay) ∧ W.cell? ⟨bg, og + z.toNat * 10 + 3, none⟩ = some (.int .i64 Y.ex) ∧ W.cell? ⟨bg, og + z.toNat * 10 + 4, none⟩ = some (.int .i64 Y.ey) ∧ W.cell? ⟨bg, og + z.toNat * 10 + 5, none⟩ = some (.int .i64 Y.sz) ∧ W.cell? ⟨bg, og + z.toNat * 10 + 6, none⟩ = some (.int .i64 Y.x0) ∧ W.cell? ⟨bg, og + z.toNat * 10 + 7, none⟩ = some (.int .i64 Y.y0) ∧ W.cell? ⟨bg, og + z.toNat * 10 + 8, none⟩ = some (.int .i64 Y.x1) ∧ W.cell? ⟨bg, og + z.toNat * 10 + 9, none⟩ = some (.int .i64 Y.y1))
                        (first | with_reducible exact H0.out _ (Below.refl _ _) | with_reducible exact H0.out _ (Below.refl _ _).drew | with_reducible exact H0.out _ B1)
                        (first | (go_at_call 14; refine (HC.out _).mono ?_; rintro e w5 ⟨rfl, hb5⟩; (have B1 : Below W0.heap.size W0 w5 := by first | with_reducible exact below_undrew hb5 | with_reducible exact hb5); clear hb5))
                      go_wp2_with fail
                      go_meet
                      exact ⟨rfl, hB3.trans (B1.mono hB3.size)⟩
                case rest =>
                  obtain ⟨rfl, hB4⟩ := hcut
                  clear cu1 cl1 cv1 cx1 cr1 hB3
                  go_wp2_with fail
                  go_roundw
                  case rel => exact ⟨t + 1, by go_num, by omega, by go_num, ⟨(j : Int), rfl, hid (by simp)⟩, hB4⟩
                  case measure => simp [intOf]; omega
              · have htl' : ¬ (t : Int) < word.length := by omega
                have e : t = word.length := by omega
                subst e
                have hd9 := HD.out
                rw [if_neg (by have := List.length_pos_iff.2 HWn.out; omega)] at hd9
                subst hd9
                go_wp2_with fail
                go_roundw
                case rel => exact ⟨j + 1, p + word.length, by go_num, by omega, by rw [flat_next HWj.out, ← HP.out], by go_num, by go_num, hB3⟩
                case measure => simp [intOf]; omega
          · have hjl' : ¬ (j : Int) < ws.length := by omega
            have e : j = ws.length := by omega
            subst e
            have hpr : p = r.length := by rw [HP.out, List.take_length, HWi.out.whole]
            subst hpr
            go_wp2_with fail
            go_roundw
            case rel => exact ⟨q + 1, by go_num, by omega, hB2⟩
            case measure => simp [intOf]; omega
      · have hql' : ¬ (q : Int) < R10.length := by omega
        have e : q = R10.length := by omega
        subst e
        go_wp2_with fail
        go_ret
        exact ⟨rfl, HB.out.trans (hB.mono hws)⟩
end Go.Proofs.Ytogdfjkbkhnobaa
