/-
  A page's text: the walk (layout.Of).
-/
import Derived.Test.YtogdfjkbkhnobaaSs
namespace Go.Proofs.Ytogdfjkbkhnobaa
open Go.Shelf Go.RowKit Go.Lib Go.Sort
set_option maxRecDepth 1000000

theorem wdT_take (L : List Gy) (n : Int) (zs : List Int) {j : Nat} (h : j < zs.length) : wdT L n (zs.take (j + 1)) = wdT L n (zs.take j) ++ sgG L zs[j] n := by
  unfold wdT
  rw [List.take_succ_eq_append_getElem h, List.flatMap_append]
  simp
theorem agree_but {S : Nat → Prop} {T : Nat} {w w' : World} (h : KeepBut T w w') (hS : ¬ S T) : AgreeS S w w' := ⟨h.size, fun b hs hb => h.block b hb (fun e => hS (e ▸ hs))⟩
theorem ofSo_start {w w2 : World} {cs : Array Value} {t : TypeId} (hb : Below ((w.alloc (.cells cs t)).alloc (.cells #[.slice none 0 0, .slice none 0 0, .slice none 0 0] 28)).heap.size ((w.alloc (.cells cs t)).alloc (.cells #[.slice none 0 0, .slice none 0 0, .slice none 0 0] 28)) w2) : OfSo (w.heap.size + 1) w2 w2 [] := by
  have hA := (At.new (w.alloc (.cells cs t)) #[.slice none 0 0, .slice none 0 0, .slice none 0 0] 28 (b := w.heap.size + 1) (by simp)).later hb
  refine ⟨⟨.slice none 0 0, .slice none 0 0, .slice none 0 0, ⟨hA, hA.lt, fun i v t x h1 h2 h3 => ?_, fun i j u v _ h1 _ => ?_, rfl, rfl⟩⟩, KeepBut.refl _ _⟩
  · match i, h1, h3 with
    | 0, h1, h3 => injection h1 with h1; injection h3 with h3; subst h1 h3; exact World.ownsRow_nil _ _ _ _
    | 1, h1, h3 => injection h1 with h1; injection h3 with h3; subst h1 h3; exact World.ownsRow_nil _ _ _ _
    | 2, h1, h3 => injection h1 with h1; injection h3 with h3; subst h1 h3; exact World.ownsRow_nil _ _ _ _
    | i + 3, h1, _ => simp at h1
  · match i, h1 with
    | 0, h1 => injection h1 with h1; subst h1; exact .inl rfl
    | 1, h1 => injection h1 with h1; subst h1; exact .inl rfl
    | 2, h1 => injection h1 with h1; subst h1; exact .inl rfl
    | i + 3, h1 => simp at h1
set_option maxHeartbeats 8000000 in
theorem Of_says (L : List Gy) (al : Option Addr) (c : Nat) (w : World) (hl : L.length ≤ 1000) (hok : ∀ g ∈ L, GyOk g) (hv : ∀ g ∈ L, (rns g.s.data.toList).isSome = true) (hG : GyAt w al L) :
    Calls Try.prog 8 #[.slice al L.length c] w fun e w' => OfRes L w e w' := by
  have HG := hid hG
  have HK := hid hok
  have HV := hid hv
  clear hG hok hv
  go_enter Try.func8, Try.ntmps8
  go_wp2_with (go_at_call 12; fail)
  go_at_call 12
  refine (Words_says L al c _ hl HK.out (HG.out.later (((Below.refl _ _).alloc (Nat.le_refl _) _).alloc (by simp) _))).mono ?_
  rintro e w2 ⟨v, R, rfl, hR, hI, hb⟩
  have HR := hid hR
  have HO0 := hid (ofSo_start hb)
  have HB2 := hid (show Below w.heap.size w w2 from (((Below.refl _ _).alloc (Nat.le_refl _) _).alloc (by simp) _).trans (hb.mono (by simp; omega)))
  have HA2 := hid (show At w2 w.heap.size 28 #[.slice none 0 0, .slice none 0 0, .slice none 0 0] from ((At.new w _ _ rfl).alloc _).later hb)
  have HW := hid (hR.wOk hl HK.out)
  have HT := hid (show OfSo (w.heap.size + 1) w2 w2 [] → txL L R = txT L (wdsR L R) (wdsR L R).length from fun _ => rfl)
  have hJ := hI.imp (S' := fun b => w.heap.size + 2 ≤ b) (fun b _ hs => by simpa using hs)
  have HAg := hid (fun (wr : World) (hk : KeepBut (w.heap.size + 1) w2 wr) => show AgreeS (fun b => w.heap.size + 2 ≤ b) w2 wr from agree_but hk (by simp))
  clear hR hI hb
  generalize wdsR L R = W at *
  obtain ⟨a0, c0, e0, hJ⟩ := hJ
  subst e0
  have HI := hid hJ
  clear hJ
  have hWm := HW.out.many
  go_wp2_with fail
  go_loopw [15] (fun i wr => ∃ n : Nat, i = .int .i64 n ∧ n ≤ W.length ∧ Hid (OfSo (w.heap.size + 1) w2 wr (txT L W n))) (fun i _ => W.length - (intOf i).toNat)
  case atStart => exact ⟨0, rfl, Nat.zero_le _, HO0⟩
  case round =>
    obtain ⟨n, rfl, hn, HO⟩ := hrel
    by_cases hnl : n < W.length
    · have hnl' : (n : Int) < W.length := by omega
      have hWn : W[n]? = some W[n] := List.getElem?_eq_getElem hnl
      have HM := hid (List.getElem_mem hnl)
      have HX := hid (show txT L W (n + 1) = (txT L W n ++ (if n = 0 then [] else [(10, -1, (n : Int) - 1)])) ++ lnT L n W[n] W[n].length by rw [txT, hWn, List.append_assoc]; rfl)
      have HY := hid (txT_len HW.out n)
      obtain ⟨b, off, u, e1, hSb, hb, cu, hu⟩ := HI.out n _ hWn
      subst e1
      have cu1 := ((HAg.out wr HO.out.2).cell hSb hb (off + n)).trans cu
      have hbr := Nat.lt_of_lt_of_le hb HO.out.2.size
      clear hWn hSb hb cu
      generalize W[n] = ws at *
      obtain ⟨au, cu2, eu, hu⟩ := hu
      subst eu
      have HU := hid hu
      clear hu
      obtain ⟨l1, hl1⟩ : ∃ l1, l1 = txT L W n ++ (if n = 0 then [] else [(10, -1, (n : Int) - 1)]) := ⟨_, rfl⟩
      have hl1n : l1.length ≤ 60001002000 := by
        have := HY.out
        rw [hl1, List.length_append]
        split <;> simp <;> omega
      have HL1 := hid hl1n
      have HE1 := hid hl1
      have HT0 := hid (show (txT L W n).length ≤ 1000000000000 by have := HY.out; omega)
      rw [← hl1] at HX
      clear hl1n hl1 HY
      go_upto_if 21 with fail
      generalize hnb : decide (0 < n) = nb
      have HN := hid hnb
      clear hnb
      go_cut [24] from 22 to 24 (fun _ wx => Hid (OfSo (w.heap.size + 1) w2 wx l1))
      case first =>
        cases nb with
        | false =>
          have e := HE1.out
          rw [if_pos (by have := of_decide_eq_false HN.out; omega), List.append_nil] at e
          go_wp2_with fail
          go_meet
          rw [e]
          exact HO
        | true =>
          have e := HE1.out
          rw [if_neg (by have := of_decide_eq_true HN.out; omega)] at e
          have HE := hid e
          clear e
          go_wp2_with (go_at_call 18; go_loud (refine (add_so HO.out HT0.out 10 (-1) ((n : Int) - 1)).mono ?_); rintro e w3 ⟨rfl, h3, h4⟩; have H3 := hid h3; clear h3 h4)
          go_meet
          rw [HE.out]
          exact H3
      case rest =>
        have HO2 := hcut
        clear hcut HO cu1 HN HE1 HT0
        have hwl := HW.out.line ws HM.out
        have HZ := hid (HW.out.word ws HM.out)
        have HLn := hid (fun k => lnT_len HW.out n HM.out k)
        go_wp2_with fail
        go_loopw [27] (fun i wq => ∃ k : Nat, i = .int .i64 k ∧ k ≤ ws.length ∧ Hid (OfSo (w.heap.size + 1) w2 wq (l1 ++ lnT L n ws k))) (fun i _ => ws.length - (intOf i).toNat)
        case atStart => exact ⟨0, rfl, Nat.zero_le _, hid (by show OfSo _ _ _ (l1 ++ []); rw [List.append_nil]; exact HO2.out)⟩
        case round =>
          obtain ⟨k, rfl, hk, HO3⟩ := hrel
          clear HO2
          by_cases hkl : k < ws.length
          · have hkl' : (k : Int) < ws.length := by omega
            have hwk : ws[k]? = some ws[k] := List.getElem?_eq_getElem hkl
            have HZk := hid (HZ.out ws[k] (List.getElem_mem hkl))
            have HX2 := hid (show l1 ++ lnT L n ws (k + 1) = (l1 ++ lnT L n ws k ++ (if k = 0 then [] else [(32, -1, (n : Int))])) ++ wdT L n ws[k] by rw [lnT, hwk]; simp only [Option.getD_some, List.append_assoc])
            obtain ⟨b2, off2, u2, e2, hSb2, hb2, cv, hv2⟩ := HU.out k _ hwk
            subst e2
            have cv1 := ((HAg.out wr HO3.out.2).cell hSb2 hb2 (off2 + k)).trans cv
            have hb2r := Nat.lt_of_lt_of_le hb2 HO3.out.2.size
            clear hwk hSb2 hb2 cv
            generalize ws[k] = zs at *
            obtain ⟨av, cv2, ev, hv2⟩ := hv2
            subst ev
            have HV2 := hid hv2
            clear hv2
            obtain ⟨l2, hl2⟩ : ∃ l2, l2 = l1 ++ lnT L n ws k ++ (if k = 0 then [] else [(32, -1, (n : Int))]) := ⟨_, rfl⟩
            have HE2 := hid hl2
            have HT2 := hid (show (l1 ++ lnT L n ws k).length ≤ 70000000000 by have := HL1.out; have := HLn.out k; rw [List.length_append]; omega)
            have HL2 := hid (show l2.length ≤ 80000000000 by have := HT2.out; rw [List.length_append] at this; rw [hl2, List.length_append]; split <;> simp <;> omega)
            rw [← hl2] at HX2
            clear hl2
            go_upto_if 33 with fail
            generalize hnb : decide (0 < k) = nb
            have HN := hid hnb
            clear hnb
            go_cut [35] from 34 to 35 (fun _ wx => Hid (OfSo (w.heap.size + 1) w2 wx l2))
            case first =>
              cases nb with
              | false =>
                have e := HE2.out
                rw [if_pos (by have := of_decide_eq_false HN.out; omega), List.append_nil] at e
                go_wp2_with fail
                go_meet
                rw [e]
                exact HO3
              | true =>
                have e := HE2.out
                rw [if_neg (by have := of_decide_eq_true HN.out; omega)] at e
                have HE := hid e
                clear e
                have HT3 := hid (Nat.le_trans HT2.out (by decide : 70000000000 ≤ 1000000000000))
                go_wp2_with (go_at_call 18; go_loud (refine (add_so HO3.out HT3.out 32 (-1) (n : Int)).mono ?_); rintro e w3 ⟨rfl, h3, h4⟩; have H3 := hid h3; clear h3 h4)
                go_meet
                rw [HE.out]
                exact H3
            case rest =>
              have HO4 := hcut
              clear hcut HO3 cv1 HN HE2 HT2
              have hzl := HZk.out.1
              go_wp2_with fail
              go_loopw [38] (fun i wq => ∃ j : Nat, i = .int .i64 j ∧ j ≤ zs.length ∧ Hid (OfSo (w.heap.size + 1) w2 wq (l2 ++ wdT L n (zs.take j)))) (fun i _ => zs.length - (intOf i).toNat)
              case atStart => exact ⟨0, rfl, Nat.zero_le _, hid (by show OfSo _ _ _ (l2 ++ []); rw [List.append_nil]; exact HO4.out)⟩
              case round =>
                obtain ⟨j, rfl, hj, HO5⟩ := hrel
                clear HO4
                by_cases hjl : j < zs.length
                · have hjl' : (j : Int) < zs.length := by omega
                  have hzj := HZk.out.2 _ (List.getElem_mem hjl)
                  have HX3 := hid (show l2 ++ wdT L n (zs.take (j + 1)) = (l2 ++ wdT L n (zs.take j)) ++ sgG L zs[j] n by rw [wdT_take L n zs hjl, List.append_assoc])
                  obtain ⟨b3, off3, u3, e3, hSb3, hb3, cx, hx3⟩ := HV2.out j _ (List.getElem?_eq_getElem hjl)
                  subst e3 hx3
                  have cx1 := ((HAg.out wr HO5.out.2).cell hSb3 hb3 (off3 + j)).trans cx
                  have hb3r := Nat.lt_of_lt_of_le hb3 HO5.out.2.size
                  have hT3 := wdT_len L n (zs.take j) (fun z _ => HW.out.text z)
                  clear hSb3 hb3 cx
                  generalize zs[j] = z at *
                  obtain ⟨bg, og, eg, hbg, hcg⟩ := (HG.out.later (HO5.out.2.below HB2.out (by omega))) z.toNat _ (gyA_at hzj.1 hzj.2)
                  subst eg
                  have cg := hcg 0 _ rfl
                  have hgr := HV.out _ (List.mem_of_getElem? (gyA_at hzj.1 hzj.2))
                  have hgs := HW.out.text z
                  obtain ⟨rs, hrs⟩ := Option.isSome_iff_exists.1 hgr
                  have HS := hid (show sgG L z n = rs.map (fun r : Nat => ((r : Int), z, (n : Int))) by unfold sgG rnT; rw [hrs]; rfl)
                  have hrl : rs.length ≤ 60 := by have := rnT_len (gyA L z); unfold rnT at this; rw [hrs] at this; simp only [Option.getD_some] at this; omega
                  have HL3 := hid (show (l2 ++ wdT L n (zs.take j)).length + 60 ≤ 1000000000000 by have := HL2.out; rw [List.length_append]; rw [List.length_take] at hT3; omega)
                  simp only [Nat.add_zero] at cg
                  obtain ⟨hz0, hz1⟩ := hzj
                  have hRS := hid hrs
                  clear hcg hgr hT3 hrs
                  generalize l2 ++ wdT L n (zs.take j) = l3 at *
                  generalize (gyA L z).s = sx at *
                  have hKs := HO5.out.2.size
                  go_wp2_with fail
                  generalize hK : wr.heap.size = K
                  go_loopw [49] (fun _ wq => ∃ (pos : Nat) (a rest : List Nat), wq.heap[K]? = some (.stringIter sx pos) ∧ pos ≤ sx.size ∧ Hid (rs = a ++ rest ∧ rns (sx.data.toList.drop pos) = some rest ∧ OfSo (w.heap.size + 1) w2 wq (l3 ++ a.map (fun r : Nat => ((r : Int), z, (n : Int)))))) (fun _ wq => sx.size - wq.iterPos K)
                  case atStart => exact ⟨0, [], rs, by rw [← hK]; exact World.iter_heap _ _ _, Nat.zero_le _, hid ⟨rfl, hRS.out, by rw [List.map_nil, List.append_nil]; exact HO5.out.then (show Below wr.heap.size wr (wr.alloc (.stringIter sx 0)) from (Below.refl _ _).alloc (Nat.le_refl _) _)⟩⟩
                  case round =>
                    obtain ⟨pos, a, rest, hit, hps, HH⟩ := hrel
                    rw [hK] at hKs
                    clear HO5 cg cx1
                    by_cases hp : pos < sx.size
                    · obtain ⟨r, rest', e1, e2, e3, e4, e5⟩ := rns_next HH.out.2.1 hp
                      have hnx : ∀ ty, (Instr.next (.pointer (some ⟨K, 0, none⟩)) true ty).run Try.prog wr = _ := fun ty => Lib.run_next_any_at wr K sx pos ty hit hp
                      have hit2 := Lib.iterAt_heap wr K sx pos (pos + (Utf8.decode sx pos).2) hit
                      have HO6 := hid (HH.out.2.2.iterAt hit hKs (pos + (Utf8.decode sx pos).2))
                      rw [e2] at hnx
                      generalize (Utf8.decode sx pos).2 = nw at *
                      have HL4 := hid (show (l3 ++ a.map (fun r : Nat => ((r : Int), z, (n : Int)))).length ≤ 1000000000000 by
                        have h1 := HL3.out
                        have h2 := HH.out.1
                        rw [h2, List.length_append] at hrl
                        rw [List.length_append, List.length_map]
                        omega)
                      have H5 := hid (And.intro e1 e5)
                      clear e1 e2 e5
                      go_wp2_with (go_at_call 18; go_loud (refine (add_so HO6.out HL4.out (r : Int) z (n : Int)).mono ?_); rintro e w3 ⟨rfl, h3, h4⟩; have H3 := hid h3; have hit3 := h4 K sx _ hit2; clear h3 h4)
                      go_roundw
                      case rel =>
                        refine ⟨pos + nw, a ++ [r], rest', hit3, e4, hid ⟨?_, H5.out.2, ?_⟩⟩
                        · rw [HH.out.1, H5.out.1, List.append_assoc]; rfl
                        · rw [List.map_append, ← List.append_assoc]; exact H3.out
                      case measure =>
                        simp only [World.iterPos, hit3, hit]
                        omega
                    · have hnx : ∀ ty, (Instr.next (.pointer (some ⟨K, 0, none⟩)) true ty).run Try.prog wr = _ := fun ty => Lib.run_next_end_at wr K sx pos ty hit hp
                      have e6 : rest = [] := by
                        have q := HH.out.2.1
                        rw [List.drop_eq_nil_of_le (by simp; omega), rns_nil] at q
                        injection q with q
                        exact q.symm
                      go_wp2_with fail
                      go_roundw
                      case rel =>
                        refine ⟨j + 1, by go_num, by omega, hid ?_⟩
                        rw [HX3.out, HS.out, HH.out.1, e6, List.append_nil]
                        exact HH.out.2.2
                      case measure => simp [intOf]; omega
                · have hjl' : ¬ (j : Int) < zs.length := by omega
                  have e : j = zs.length := by omega
                  subst e
                  go_wp2_with fail
                  go_roundw
                  case rel =>
                    refine ⟨k + 1, by go_num, by omega, hid ?_⟩
                    have q := HO5.out
                    rw [List.take_length] at q
                    rw [HX2.out]
                    exact q
                  case measure => simp [intOf]; omega
          · have hkl' : ¬ (k : Int) < ws.length := by omega
            have e : k = ws.length := by omega
            subst e
            go_wp2_with fail
            go_roundw
            case rel =>
              refine ⟨n + 1, by go_num, by omega, hid ?_⟩
              rw [HX.out]
              exact HO3.out
            case measure => simp [intOf]; omega
    · have hnl' : ¬ (n : Int) < W.length := by omega
      have e : n = W.length := by omega
      subst e
      obtain ⟨⟨v1, v2, v3, hTx⟩, hKb⟩ := HO.out
      have d1 := hTx.cell (i := 0) rfl
      have d2 := hTx.cell (i := 1) rfl
      have d3 := hTx.cell (i := 2) rfl
      have HAr := hKb.at HA2.out (by omega)
      obtain ⟨a1, c1, e1⟩ := own_form (hTx.row 0 _ _ _ rfl rfl rfl)
      obtain ⟨a2, c2, e2⟩ := own_form (hTx.row 1 _ _ _ rfl rfl rfl)
      obtain ⟨a3, c3, e3⟩ := own_form (hTx.row 2 _ _ _ rfl rfl rfl)
      have hlt := HAr.lt
      have f0 := HAr.cell 0
      have f1 := HAr.cell 1
      have f2 := HAr.cell 2
      have g0 := HAr.free 0
      have g1 := HAr.free 1
      have g2 := HAr.free 2
      simp at f0 f1 f2
      have HTx := hid hTx
      have HKb := hid hKb
      have HAr := hid HAr
      clear hTx hKb HO
      subst e1 e2 e3
      go_wp2_with fail
      refine bodyPost_ret (v := .agg #[.slice a1 (txT L W W.length).length c1, .slice a2 (txT L W W.length).length c2, .slice a3 (txT L W W.length).length c3]) (by simp [results, Try.results8, go_sem, f0, f1, f2]) rfl ?_
      have hk := (((KeepBut.refl w.heap.size wr).set 0 (.slice a1 (txT L W W.length).length c1)).set 1 (.slice a2 (txT L W W.length).length c2)).set 2 (.slice a3 (txT L W W.length).length c3)
      have ag : AgreeS (fun b => w2.heap.size ≤ b) wr _ := agree_but hk (by have := HA2.out.lt; omega)
      have htx := HTx.out
      have h2s := HB2.out.size
      unfold TxAt at htx
      simp only [List.length_map] at htx
      refine ⟨_, _, _, R, rfl, HR.out, ?_, ?_, ?_, hk.below (HKb.out.below HB2.out (by omega)) (Nat.le_refl _)⟩
      · rw [HT.out HO0.out]
        refine RowS.imp (S := fun b => w2.heap.size ≤ b) (P := fun _ u z => u = .int .i32 z) (RowS.kept (rowS_own (us := (txT L W W.length).map fun x => .int .i32 x.1) (T := 21) (B := w2.heap.size) (by simpa using htx.row 0 _ _ _ rfl rfl rfl) (fun b hb => (World.ownsRow.lt (htx.row 0 _ _ _ rfl rfl rfl) b hb).1) fun k u x hu hx => ?_) ag fun _ _ q => q) (fun b _ hs => Nat.le_trans h2s hs) fun _ _ q => q
        rw [List.getElem?_map] at hu hx
        cases e : (txT L W W.length)[k]? with
        | none => rw [e] at hu; cases hu
        | some y => rw [e] at hu hx; injection hu with hu; injection hx with hx; subst hu hx; rfl
      · rw [HT.out HO0.out]
        refine RowS.imp (S := fun b => w2.heap.size ≤ b) (P := fun _ u z => u = .int .i64 z) (RowS.kept (rowS_own (us := (txT L W W.length).map fun x => .int .i64 x.2.1) (T := 3) (B := w2.heap.size) (by simpa using htx.row 1 _ _ _ rfl rfl rfl) (fun b hb => (World.ownsRow.lt (htx.row 1 _ _ _ rfl rfl rfl) b hb).1) fun k u x hu hx => ?_) ag fun _ _ q => q) (fun b _ hs => Nat.le_trans h2s hs) fun _ _ q => q
        rw [List.getElem?_map] at hu hx
        cases e : (txT L W W.length)[k]? with
        | none => rw [e] at hu; cases hu
        | some y => rw [e] at hu hx; injection hu with hu; injection hx with hx; subst hu hx; rfl
      · rw [HT.out HO0.out]
        refine RowS.imp (S := fun b => w2.heap.size ≤ b) (P := fun _ u z => u = .int .i64 z) (RowS.kept (rowS_own (us := (txT L W W.length).map fun x => .int .i64 x.2.2) (T := 3) (B := w2.heap.size) (by simpa using htx.row 2 _ _ _ rfl rfl rfl) (fun b hb => (World.ownsRow.lt (htx.row 2 _ _ _ rfl rfl rfl) b hb).1) fun k u x hu hx => ?_) ag fun _ _ q => q) (fun b _ hs => Nat.le_trans h2s hs) fun _ _ q => q
        rw [List.getElem?_map] at hu hx
        cases e : (txT L W W.length)[k]? with
        | none => rw [e] at hu; cases hu
        | some y => rw [e] at hu hx; injection hu with hu; injection hx with hx; subst hu hx; rfl
end Go.Proofs.Ytogdfjkbkhnobaa
