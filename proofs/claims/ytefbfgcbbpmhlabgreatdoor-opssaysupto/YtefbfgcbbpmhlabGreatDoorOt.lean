/-
  Joined: Os, Oq, Ot.
-/
import Derived.Test.YtefbfgcbbpmhlabGreatDoorOr
import Derived.Test.YtefbfgcbbpmhlabGreatDoorOk
import Derived.Test.YtefbfgcbbpmhlabGreatDoorOd
import Derived.Test.YtefbfgcbbpmhlabGreatDoorOj

/-
  Operators that are read as an argument.
-/
namespace Go.Proofs.YtefbfgcbbpmhlabGreatDoor
open Go.RowKit Go.WideShapes Go.ChangeShapes Go.Deep Go.Joins
set_option maxRecDepth 100000

theorem cellsOp : Tryz.prog.cellsOf 80 = 2 := by kernel_rfl
theorem list2 {α : Type} {cs : List α} (h : cs.length = 2) : ∃ c0 c1, cs = [c0, c1] := by
  match cs, h with
  | [c0, c1], _ => exact ⟨c0, c1, rfl⟩
theorem bulkL_sum : ∀ (l : List V), bulkL l = (l.map V.bulk).sum
  | [] => rfl
  | x :: l => by rw [bulkL, List.map_cons, List.sum_cons, bulkL_sum l]
theorem opsBulk_sum : ∀ (l : List OpP), opsBulk l = (l.map fun o => 1 + o.1.size + bulkL o.2).sum
  | [] => rfl
  | x :: l => by rw [opsBulk, List.map_cons, List.sum_cons, opsBulk_sum l]
section
variable {H : Type} {enc : TypeId × Value → H} {W : World}
theorem trod_op (fuel : Nat) (cs : List Value) (x : DataW H × List MemPlace) (hl : cs.length = 2) (h : DataW.trod enc Tryz.prog W 0 (fun _ => true) true fuel 80 cs = some x) :
    ∃ (o : OpP) (tA : Value), cs = [.string o.1, tA] ∧ o.1.size ≤ maxLen ∧ RepN (fuel + 1) W (listV5 o.2) (listC tA) ∧ 1 + o.1.size + bulkL o.2 ≤ Rows.uptoBulk x.1 := by
  obtain ⟨xs, n, hn, hxx, hl', hlen, hx⟩ := DataW.trod_struct Tryz.underlying80 h
  obtain ⟨c0, c1, rfl⟩ := list2 hl
  have hxl : xs.length = 2 := hlen
  obtain ⟨y0, y1, rfl⟩ := list2 hxl
  have g0 : DataW.trod enc Tryz.prog W 0 (fun _ => true) true n 9 [c0] = some y0 := hx 0 _ rfl
  have g1 : DataW.trod enc Tryz.prog W 0 (fun _ => true) true n 23 [c1] = some y1 := hx 1 _ rfl
  obtain ⟨nm, q0, p0, hnm⟩ := DataW.trod_string Tryz.underlying9 g0
  obtain ⟨al, ll, cl, es, q1, hll, hel, hbL, hL⟩ := trod_list Tryz.underlying23 cellsV (by omega) g1
  simp only [List.cons.injEq, and_true] at q0
  subst q0 q1
  have hL2 : ∀ i : Nat, ∃ v : V, ∀ y, es[i]? = some y → (∃ b off c, al = some ⟨b, off, none⟩ ∧ b < W.heap.size ∧ CellsAt W b (off + i * 5) c ∧ RepN fuel W v c) ∧ v.bulk ≤ Rows.uptoBulk y.1 := fun i => by
    cases hi : es[i]? with
    | none => exact ⟨⟨0, 0, ByteArray.empty, [], []⟩, fun y h => by cases h⟩
    | some y =>
      obtain ⟨b, off, c, z1, z2, z3, z4, z5⟩ := hL i y hi
      obtain ⟨v, hv, hbv⟩ := trod_value (n - 1) c y z5
      refine ⟨v, fun y' h => ?_⟩
      cases h
      exact ⟨⟨b, off, c, z1, z2, z4, hv.mono (by omega)⟩, by rw [← bulkN_eq hv]; exact hbv⟩
  obtain ⟨gL, hgL⟩ := Classical.axiomOfChoice hL2
  have hget : ∀ (i : Nat) v, ((List.range ll).map gL)[i]? = some v → i < ll ∧ v = gL i := fun i v hv => by
    simp only [List.getElem?_map, Option.map_eq_some_iff] at hv
    obtain ⟨j, hj, rfl⟩ := hv
    have hi := (List.getElem?_eq_some_iff.1 hj).1
    simp at hi
    have : j = i := by simpa [List.getElem?_range hi] using hj.symm
    subst this
    exact ⟨hi, rfl⟩
  refine ⟨(nm, (List.range ll).map gL), .slice al ll cl, rfl, hnm, ⟨al, none, cl, 0, ?_, ?_, fun i v hv => ?_, fun i q h => by simp [listV5] at h⟩, ?_⟩
  · simp [listC, listV5]
  · simp only [listV5, List.length_map, List.length_range, List.length_nil]
    exact ⟨by decide, hll, by decide⟩
  · obtain ⟨hi, rfl⟩ := hget i v hv
    exact (hgL i _ (List.getElem?_eq_getElem (by omega))).1
  · have hsum : bulkL ((List.range ll).map gL) ≤ Rows.uptoBulkAll (es.map (·.1)) := by
      rw [bulkL_sum]
      refine sum_le V.bulk _ _ (by simp [hel]) fun i v dd hv hd => ?_
      obtain ⟨hi, rfl⟩ := hget i v hv
      rw [List.getElem?_map, Option.map_eq_some_iff] at hd
      obtain ⟨y, hy, rfl⟩ := hd
      exact (hgL i y hy).2
    rw [hxx]
    simp only [List.map_cons, List.map_nil, Rows.uptoBulk, Rows.uptoBulkAll, p0]
    have : nm.data.toList.length = nm.size := by simp
    omega
theorem open_ops {base : Nat} {v : Value} {d : DataW H} {p : List MemPlace} (hv : Value.okWide Tryz.prog W .any base 69 v) (h : DataW.Trod enc Tryz.prog W 0 (fun _ => true) true 69 v d p) :
    ∃ dep L, OpsN dep W v L ∧ opsBulk L ≤ Rows.uptoBulk d := by
  obtain ⟨a0, n0, c0, rfl⟩ := okWide_slice Tryz.underlying69 hv
  obtain ⟨fuel, hf⟩ := h
  obtain ⟨al, len, cap, es, q, hl, hlen, hbl, hL⟩ := trod_list Tryz.underlying69 cellsOp (by omega) hf
  have hL2 : ∀ i : Nat, ∃ o : OpP, ∀ y, es[i]? = some y → (∃ b off tA, al = some ⟨b, off, none⟩ ∧ b < W.heap.size ∧ W.cell? ⟨b, off + i * 2, none⟩ = some (.string o.1) ∧ W.cell? ⟨b, off + i * 2 + 1, none⟩ = some tA ∧ o.1.size ≤ maxLen ∧ RepN (fuel + 1) W (listV5 o.2) (listC tA)) ∧ 1 + o.1.size + bulkL o.2 ≤ Rows.uptoBulk y.1 := fun i => by
    cases hi : es[i]? with
    | none => exact ⟨(ByteArray.empty, []), fun y h => by cases h⟩
    | some y =>
      obtain ⟨b, off, c, z1, z2, z3, z4, z5⟩ := hL i y hi
      obtain ⟨o, tA, rfl, ho, hr, hb⟩ := trod_op _ c y z3 z5
      refine ⟨o, fun y' h => ?_⟩
      cases h
      exact ⟨⟨b, off, tA, z1, z2, z4 0 _ rfl, z4 1 _ rfl, ho, hr.mono (by omega)⟩, hb⟩
  obtain ⟨gL, hgL⟩ := Classical.axiomOfChoice hL2
  injection q with q1 q2 q3
  subst q1 q2 q3
  have hget : ∀ (i : Nat) v, ((List.range n0).map gL)[i]? = some v → i < n0 ∧ v = gL i := fun i v hv => by
    simp only [List.getElem?_map, Option.map_eq_some_iff] at hv
    obtain ⟨j, hj, rfl⟩ := hv
    have hi := (List.getElem?_eq_some_iff.1 hj).1
    simp at hi
    have : j = i := by simpa [List.getElem?_range hi] using hj.symm
    subst this
    exact ⟨hi, rfl⟩
  refine ⟨fuel + 1, (List.range n0).map gL, ⟨a0, c0, by simp, by simpa using hl, fun i o ho => ?_⟩, ?_⟩
  · obtain ⟨hi, rfl⟩ := hget i o ho
    exact (hgL i _ (List.getElem?_eq_getElem (by omega))).1
  · have hsum : opsBulk ((List.range n0).map gL) ≤ Rows.uptoBulkAll (es.map (·.1)) := by
      rw [opsBulk_sum]
      refine sum_le (fun o : OpP => 1 + o.1.size + bulkL o.2) _ _ (by simp [hlen]) fun i v dd hv hd => ?_
      obtain ⟨hi, rfl⟩ := hget i v hv
      rw [List.getElem?_map, Option.map_eq_some_iff] at hd
      obtain ⟨y, hy, rfl⟩ := hd
      exact (hgL i y hy).2
    have hbl' : Rows.uptoBulkAll (es.map (·.1)) + 1 ≤ Rows.uptoBulk d := hbl
    omega
end
end Go.Proofs.YtefbfgcbbpmhlabGreatDoor

/-
  What is written of operators: the document's answer.
-/
namespace Go.Proofs.YtefbfgcbbpmhlabGreatDoor
open Go.RowKit
set_option maxRecDepth 100000

/-- string +, of bounded texts. -/
theorem addP {a b c : ByteArray} (ha : a.size ≤ 400000000) (hb : b.size ≤ 400000000) (hc : c.data.toList = a.data.toList ++ b.data.toList) (w : World) : (Op.stringOp .add a b).run Tryz.prog w = .ok (.string c) w := by
  have e : a ++ b = c := by
    apply ByteArray.ext
    apply Array.toList_inj.1
    rw [hc]
    simp
  subst e
  simp [Op.stringOp]
  omega
theorem operatorMay_iz (s : ByteArray) (w : World) (hs : s.size ≤ maxLen) {r : Bool} (h : opMay s = r) : Calls Tryz.prog 80 #[.string s] w fun e w' => e = .returned (.bool r) ∧ w' = w := by
  subst h; exact operatorMay_says s w hs
set_option maxHeartbeats 4000000 in
theorem opsText (d : Nat) (L : List OpP) (t : Value) (w : World) (hL : OpsN d w t L) (hb : opsBulk L ≤ 1048576) :
    Calls Tryz.prog 34 #[t] w fun e w' => e = .returned (.tuple #[.string (opsW L).1, .int .i64 (opsW L).2]) ∧ Below w.heap.size w w' := by
  obtain ⟨al, cl, rfl, hlL, hL⟩ := hL
  have HL := hid hL
  unfold maxLen at hlL
  clear hL
  by_cases h2 : 2000 < L.length
  · have h2' : (2000 : Int) < L.length := by omega
    rw [show opsW L = (eB, 2) by unfold opsW; rw [if_pos h2]]
    go_enter Tryz.func34, Tryz.ntmps34
    go_wp2
    go_ret2
    exact ⟨rfl, by go_grown⟩
  · have h2' : ¬ (2000 : Int) < L.length := by omega
    obtain ⟨R, hR⟩ : ∃ R, opsW L = R := ⟨_, rfl⟩
    rw [hR]
    have HR := hid (show (if opsF L ≠ 0 then (eB, opsF L) else if 20000 < (opsT L).length then (eB, 2) else (⟨(opsT L).toArray⟩, 0)) = R by rw [← hR]; unfold opsW; rw [if_neg h2])
    clear hR
    go_enter Tryz.func34, Tryz.ntmps34
    go_wp2
    go_loopw [4, 5] (fun sv i wr => ∃ (k : Nat) (S : ByteArray), sv = .string S ∧ i = .int .i64 k ∧ k ≤ L.length ∧ S.size ≤ 55000000 ∧ Hid (opsF (L.take k) = 0 ∧ S.data.toList = opsT (L.take k)) ∧ Below w.heap.size w wr) (fun _ i _ => L.length - (intOf i).toNat)
    case atStart => exact ⟨0, ⟨#[]⟩, rfl, rfl, by omega, by simp [ByteArray.size], hid ⟨rfl, rfl⟩, Below.refl _ _⟩
    case round =>
      obtain ⟨k, S, rfl, rfl, hk, hSl, HA, hW⟩ := hrel
      have hk0 : (0 : Int) ≤ k := by omega
      by_cases hkl : k < L.length
      · have hkl' : (k : Int) < L.length := by omega
        obtain ⟨b, off, tA, rfl, hbl, k0, k1, hsz, hrp⟩ := HL.out k L[k] (List.getElem?_eq_getElem hkl)
        have hX := List.getElem?_eq_getElem hkl
        have hbx := opsBulk_mem L L[k] (List.getElem_mem hkl)
        generalize L[k] = o at hX hrp hbx hsz k0 k1
        obtain ⟨nm, A⟩ := o
        simp only at hrp hbx hsz k0 k1
        obtain ⟨aA, cA, rfl, hlA, hLA⟩ := rep_list hrp
        have HLA := hid hLA
        unfold maxLen at hlA
        have m0 := (hW.cell (p := ⟨b, _, none⟩) hbl).trans k0
        have m1 := (hW.cell (p := ⟨b, _, none⟩) hbl).trans k1
        have zb : b < wr.heap.size := Nat.lt_of_lt_of_le hbl hW.size
        have HX := hid hX
        clear hX hLA hrp
        cases hop : opMay nm
        · have hmay := fun (w : World) => operatorMay_iz nm w hsz hop
          have e0 : opF (nm, A) = 3 := by unfold opF; rw [if_pos hop]
          have HE := hid (show (eB, (3 : Int)) = R by rw [← HR.out, opsF_first HA.out.1 HX.out (by rw [e0]; decide), e0, if_pos (by decide)])
          go_wp2_with (go_at_call 80; refine (hmay _).mono ?_; rintro e w1 ⟨rfl, hw1⟩; rw [hw1]; clear hw1 w1)
          go_ret2
          rw [← HE.out]
          exact ⟨rfl, hW⟩
        · have hmay := fun (w : World) => operatorMay_iz nm w hsz hop
          have hn8 := opMay_few hop
          by_cases h8 : 8 < A.length
          · have h8' : (8 : Int) < A.length := by omega
            have e0 : opF (nm, A) = 10 := by unfold opF; rw [if_neg (by simp [hop]), if_pos h8]
            have HE := hid (show (eB, (10 : Int)) = R by rw [← HR.out, opsF_first HA.out.1 HX.out (by rw [e0]; decide), e0, if_pos (by decide)])
            go_wp2_with (go_at_call 80; refine (hmay _).mono ?_; rintro e w1 ⟨rfl, hw1⟩; rw [hw1]; clear hw1 w1)
            go_ret2
            rw [← HE.out]
            exact ⟨rfl, hW⟩
          · have h8' : ¬ (8 : Int) < A.length := by omega
            have HF := hid (show opF (nm, A) = argsF A by unfold opF; rw [if_neg (by simp [hop]), if_neg h8])
            clear hop
            go_wp2_with (go_at_call 80; refine (hmay _).mono ?_; rintro e w1 ⟨rfl, hw1⟩; rw [hw1]; clear hw1 w1)
            go_loopw [4, 7] (fun sv i wx => ∃ (j : Nat) (S2 : ByteArray), sv = .string S2 ∧ i = .int .i64 j ∧ j ≤ A.length ∧ S2.size ≤ S.size + 49 * bulkL A ∧ Hid (argsF (A.take j) = 0 ∧ S2.data.toList = S.data.toList ++ argsT (A.take j)) ∧ Below w.heap.size w wx) (fun _ i _ => A.length - (intOf i).toNat)
            case atStart => exact ⟨0, S, rfl, rfl, by omega, by omega, hid ⟨rfl, by simp [argsT]⟩, hW⟩
            case round =>
              clear m0 m1
              obtain ⟨j, S2, rfl, rfl, hj, hS2l, HA2, hY⟩ := hrel
              have m0 := (hY.cell (p := ⟨b, _, none⟩) hbl).trans k0
              have m1 := (hY.cell (p := ⟨b, _, none⟩) hbl).trans k1
              have zb2 : b < wr.heap.size := Nat.lt_of_lt_of_le hbl hY.size
              have hj0 : (0 : Int) ≤ j := by omega
              by_cases hjl : j < A.length
              · have hjl' : (j : Int) < A.length := by omega
                obtain ⟨g, og, cs, rfl, hgl, hc, hr0⟩ := HLA.out j A[j] (List.getElem?_eq_getElem hjl)
                have hXj := List.getElem?_eq_getElem hjl
                have hbxj := bulkL_mem A A[j] (List.getElem_mem hjl)
                generalize A[j] = x at hXj hr0 hbxj
                have HXj := hid hXj
                have hcx := cnt_le_bulk x
                have q1 := hr0.later hY
                obtain ⟨x1, n1, s1, a1, l1, c1, a2, l2, c2, rfl, g0, g1, g2, g3, g4⟩ := rep_cells q1 (hc.later hgl hY)
                have zg : g < wr.heap.size := Nat.lt_of_lt_of_le hgl hY.size
                have HRx := hid q1
                clear hXj q1 hc hr0
                have hvf := hid (fun (a : World) (h : Below wr.heap.size wr a) => valueFault_says (HRx.out.later h) (by omega))
                by_cases hfx : faultV x = 0
                · obtain ⟨hF2, hT2⟩ := argsF_more HA2.out.1 HXj.out hfx
                  have hlen2 := argsT_long _ hF2
                  have hbt2 := bulkL_tk A (j + 1)
                  rw [hT2] at hlen2
                  simp only [List.length_append, List.length_cons, List.length_nil] at hlen2
                  have hshp : x.Shp ∧ x.cnt ≤ 300 := by
                    rcases fault_cases x with ⟨_, q, q'⟩ | q | q
                    · exact ⟨q, q'⟩
                    · rw [q] at hfx; exact absurd hfx (by decide)
                    · rw [q] at hfx; exact absurd hfx (by decide)
                  have hbkx : x.bulk ≤ 150000 := by have := bulk_shp x hshp.1; have := hshp.2; omega
                  have hvt := hid (fun (a : World) (h : Below wr.heap.size wr a) => valueText_says _ x _ a (HRx.out.later h) hshp.1 hbkx)
                  rw [hfx] at hvf
                  obtain ⟨T, hT⟩ : ∃ T : ByteArray, (⟨x.txt.toArray⟩ : ByteArray) = T := ⟨_, rfl⟩
                  have hTl : T.data.toList = x.txt := by rw [← hT]
                  have hTs : T.size = x.txt.length := by rw [← hTl]; simp
                  rw [hT] at hvt
                  obtain ⟨S3, hS3⟩ : ∃ S3 : ByteArray, S3.data.toList = S2.data.toList ++ T.data.toList := ⟨⟨(S2.data.toList ++ T.data.toList).toArray⟩, by simp⟩
                  obtain ⟨S4, hS4⟩ : ∃ S4 : ByteArray, S4.data.toList = S3.data.toList ++ (⟨#[32]⟩ : ByteArray).data.toList := ⟨⟨(S3.data.toList ++ [32]).toArray⟩, by simp⟩
                  have z2 : S2.size = S.size + (argsT (A.take j)).length := by have := congrArg List.length HA2.out.2; simpa using this
                  have z3 : S3.size = S2.size + T.size := by have := congrArg List.length hS3; simpa using this
                  have z4 : S4.size = S3.size + 1 := by have := congrArg List.length hS4; simpa using this
                  have hadd1 := fun (w : World) => addP (a := S2) (b := T) (c := S3) (by omega) (by omega) hS3 w
                  have hadd2 := fun (w : World) => addP (a := S3) (b := ⟨#[32]⟩) (c := S4) (by omega) (by decide) hS4 w
                  have HZ := hid (show argsF (A.take (j + 1)) = 0 ∧ S4.data.toList = S.data.toList ++ argsT (A.take (j + 1)) from ⟨hF2, by rw [hS4, hS3, HA2.out.2, hT2, hTl]; simp⟩)
                  have hz4 : S4.size ≤ S.size + 49 * bulkL A := by omega
                  clear hF2 hT2 hlen2 hT hTl hTs hS3 hS4 z2 z3 z4 hshp
                  go_wp2_with (first | (go_at_call 86; go_must (refine (hvf.out _ (by go_grown)).mono ?_); rintro e w1 ⟨rfl, hb1⟩; (have v1 := (hb1.cell (p := ⟨b, _, none⟩) zb2).trans m1); (have y0 := (hb1.cell (p := ⟨g, _, none⟩) zg).trans g0); (have y1 := (hb1.cell (p := ⟨g, _, none⟩) zg).trans g1); (have y2 := (hb1.cell (p := ⟨g, _, none⟩) zg).trans g2); (have y3 := (hb1.cell (p := ⟨g, _, none⟩) zg).trans g3); (have y4 := (hb1.cell (p := ⟨g, _, none⟩) zg).trans g4)) | (go_at_call 87; go_must (refine (hvt.out _ (by go_grown)).mono ?_); rintro e w2 ⟨rfl, hb2⟩))
                  exact ⟨⟨j + 1, S4, rfl, by go_num, by omega, hz4, HZ, hY.trans ((hb1.trans (hb2.mono hb1.size)).mono hY.size)⟩, by simp [intOf]; omega⟩
                · have hnn := faultV_nn x
                  have hpos : (0 : Int) < faultV x := by omega
                  have HE := hid (show (eB, faultV x) = R by
                    have e1 : opF (nm, A) = faultV x := HF.out.trans (argsF_first HA2.out.1 HXj.out hfx)
                    rw [← HR.out, opsF_first HA.out.1 HX.out (by rw [e1]; exact hfx), e1, if_pos hfx])
                  generalize faultV x = F at hvf hpos HE
                  clear hnn hfx
                  go_wp2_with (go_at_call 86; go_must (refine (hvf.out _ (by go_grown)).mono ?_); rintro e w1 ⟨rfl, hb1⟩)
                  go_ret2
                  rw [← HE.out]
                  exact ⟨rfl, hY.trans (hb1.mono hY.size)⟩
              · have hjl' : ¬ (j : Int) < A.length := by omega
                have hA3 := HA2.out
                rw [List.take_of_length_le (by omega)] at hA3
                have hf0 : opF (nm, A) = 0 := HF.out.trans hA3.1
                obtain ⟨HB2, HT2⟩ := opsF_more HA.out.1 HX.out hf0
                have hlong := opsT_long _ HB2
                have hbt := opsBulk_take L (k + 1)
                obtain ⟨S3, hS3⟩ : ∃ S3 : ByteArray, S3.data.toList = S2.data.toList ++ nm.data.toList := ⟨⟨(S2.data.toList ++ nm.data.toList).toArray⟩, by simp⟩
                obtain ⟨S4, hS4⟩ : ∃ S4 : ByteArray, S4.data.toList = S3.data.toList ++ (⟨#[10]⟩ : ByteArray).data.toList := ⟨⟨(S3.data.toList ++ [10]).toArray⟩, by simp⟩
                have z3 : S3.size = S2.size + nm.size := by have := congrArg List.length hS3; simpa using this
                have z4 : S4.size = S3.size + 1 := by have := congrArg List.length hS4; simpa using this
                have hadd1 := fun (w : World) => addP (a := S2) (b := nm) (c := S3) (by omega) (by omega) hS3 w
                have hadd2 := fun (w : World) => addP (a := S3) (b := ⟨#[10]⟩) (c := S4) (by omega) (by decide) hS4 w
                have hS4l : S4.data.toList = opsT (L.take (k + 1)) := by
                  rw [hS4, hS3, hA3.2, HT2, HA.out.2]; unfold opT; simp
                have hS4z : S4.size ≤ 55000000 := by
                  have q : S4.size = (opsT (L.take (k + 1))).length := by rw [← hS4l]; simp
                  omega
                have HZ := hid (And.intro HB2 hS4l)
                clear HB2 HT2 hS4l hS3 hS4 z3 z4 hA3 hf0 hlong
                go_wp2
                exact ⟨⟨k + 1, S4, rfl, by go_num, by omega, hS4z, HZ, hY⟩, by simp [intOf]; omega⟩
      · have hkl' : ¬ (k : Int) < L.length := by omega
        have HA2 := HA.out
        rw [List.take_of_length_le (by omega)] at HA2
        have hSZ : S.size = (opsT L).length := by rw [← HA2.2]; simp
        by_cases hfew : S.size ≤ 20000
        · have hfew' : ¬ (20000 : Int) < S.size := by omega
          have hS : (⟨(opsT L).toArray⟩ : ByteArray) = S := by rw [← HA2.2]
          have HE := hid (show (S, (0 : Int)) = R by rw [← HR.out, if_neg (by simp [HA2.1]), if_neg (by omega), hS])
          clear HA2 HA hS
          go_wp2
          go_ret2
          rw [← HE.out]
          exact ⟨rfl, hW⟩
        · have hfew' : (20000 : Int) < S.size := by omega
          have HE := hid (show (eB, (2 : Int)) = R by rw [← HR.out, if_neg (by simp [HA2.1]), if_pos (by omega)])
          clear HA2 HA
          go_wp2
          go_ret2
          rw [← HE.out]
          exact ⟨rfl, hW⟩
end Go.Proofs.YtefbfgcbbpmhlabGreatDoor

/-
  A closed fact: operators are told.
-/
namespace Go.Proofs.YtefbfgcbbpmhlabGreatDoor
open Go.RowKit
set_option maxRecDepth 100000

theorem opsR_val {s : ByteArray} {n j p z : Nat} {O : List OpP} {A : List V} {v : V} (hp : skipP s j = p) (hne : p ≠ s.size) (hop : opMay (wordP s p) = false) (hv : pV s p = (v, 0, z)) (h8 : A.length ≠ 8) : opsR s (n + 1) j O A = opsR s n z O (A ++ [v]) := by
  have e : stepR s p O A = (0, z, O, A ++ [v]) := by
    rw [stepR_val hop, hv, if_neg (by simp), if_neg h8]
  rw [opsR, hp, if_neg hne, e, if_neg (by simp)]
theorem opsR_op {s W : ByteArray} {n j p z : Nat} {O : List OpP} {A : List V} (hp : skipP s j = p) (hne : p ≠ s.size) (hW : wordP s p = W) (hop : opMay W = true) (hz : p + W.size = z) (h2 : O.length ≠ 2000) : opsR s (n + 1) j O A = opsR s n z (O ++ [(W, A)]) [] := by
  have e : stepR s p O A = (0, z, O ++ [(W, A)], []) := by
    unfold stepR; rw [hW, if_pos hop, if_neg h2, hz]
  rw [opsR, hp, if_neg hne, e, if_neg (by simp)]
theorem opsR_end {s : ByteArray} {n j : Nat} {O : List OpP} (hp : skipP s j = s.size) : opsR s (n + 1) j O [] = (O, 0) := by
  rw [opsR, if_pos hp]; rfl
theorem pV_at {s : ByteArray} {k z : Nat} {v : V} (hs : s.size ≤ 60000) (hk : k ≤ s.size) (h : rdV s 8 k = (v, 0, z)) (hf : faultV v = 0) : pV s (k : Int) = (v, 0, z) := by
  unfold pV
  rw [if_neg (by omega), Int.toNat_natCast, h, if_neg (by simp), if_neg (by simp [hf])]
def tS : ByteArray := ⟨#[49, 32, 50, 32, 84, 100, 32, 40, 120, 41, 32, 84, 106]⟩
def tX : ByteArray := ⟨#[120]⟩
theorem tv1 : faultV (V0 2 1000 eB) = 0 := by
  refine fault_none (by rw [cnt_eq, dep_eq]; simp [V0, cntL, cntF, depL, depF]) ?_
  rw [shp_eq]
  exact ⟨.inr (.inr (.inl ⟨rfl, rfl, rfl, rfl, rfl⟩)), by rw [shpL_iff]; simp [V0], by rw [shpF_iff]; simp [V0]⟩
theorem tv2 : faultV (V0 2 2000 eB) = 0 := by
  refine fault_none (by rw [cnt_eq, dep_eq]; simp [V0, cntL, cntF, depL, depF]) ?_
  rw [shp_eq]
  exact ⟨.inr (.inr (.inl ⟨rfl, rfl, rfl, rfl, rfl⟩)), by rw [shpL_iff]; simp [V0], by rw [shpF_iff]; simp [V0]⟩
theorem tv3 : faultV (V0 3 0 tX) = 0 := by
  refine fault_none (by rw [cnt_eq, dep_eq]; simp [V0, cntL, cntF, depL, depF]) ?_
  rw [shp_eq]
  exact ⟨.inr (.inr (.inr (.inl ⟨rfl, rfl, by decide, rfl, rfl⟩))), by rw [shpL_iff]; simp [V0], by rw [shpF_iff]; simp [V0]⟩
def nTd : ByteArray := ⟨#[84, 100]⟩
def nTj : ByteArray := ⟨#[84, 106]⟩
theorem tells_fact : opsP tS = ([(nTd, [V0 2 1000 eB, V0 2 2000 eB]), (nTj, [V0 3 0 tX])], 0) := by
  unfold opsP
  rw [if_neg (by decide), show tS.size + 1 = 8 + 6 by decide]
  rw [opsR_val (p := 0) (z := 1) (v := V0 2 1000 eB) (by kernel_rfl) (by decide) (by kernel_rfl) (pV_at (by decide) (by decide) (by kernel_rfl) tv1) (by decide)]
  rw [opsR_val (p := 2) (z := 3) (v := V0 2 2000 eB) (by kernel_rfl) (by decide) (by kernel_rfl) (pV_at (by decide) (by decide) (by kernel_rfl) tv2) (by decide)]
  rw [opsR_op (p := 4) (z := 6) (W := nTd) (by kernel_rfl) (by decide) (by kernel_rfl) (by kernel_rfl) (by kernel_rfl) (by decide)]
  rw [opsR_val (p := 7) (z := 10) (v := V0 3 0 tX) (by kernel_rfl) (by decide) (by kernel_rfl) (pV_at (by decide) (by decide) (by kernel_rfl) tv3) (by decide)]
  rw [opsR_op (p := 11) (z := 13) (W := nTj) (by kernel_rfl) (by decide) (by kernel_rfl) (by kernel_rfl) (by kernel_rfl) (by decide)]
  rw [opsR_end (by kernel_rfl)]
  rfl
set_option maxHeartbeats 4000000 in
theorem tells_any (m : Int) (w : World) (hG : Gr m w) : Calls Tryz.prog 29 #[] w fun e w' => e = .returned (.bool true) ∧ Below w.heap.size w w' := by
  have hp := parseS m tS w hG (by decide)
  rw [tells_fact] at hp
  unfold ParseSaid tS at hp
  simp only at hp
  rw [errN_0] at hp
  go_enter Tryz.func29, Tryz.ntmps29
  go_wp2_with (go_at_call 31; go_must (refine hp.mono ?_); rintro e w1 ⟨t, rfl, hb1, HO⟩)
  obtain ⟨a, c, rfl, _, hO⟩ := HO.out
  obtain ⟨b, off, tA, rfl, hlt, c0, c1, _, hr⟩ := hO 0 _ rfl
  obtain ⟨b', off', tA', eb, hlt', c0', c1', _, hr'⟩ := hO 1 _ rfl
  injection eb with eb
  injection eb with eb1 eb2
  subst eb1 eb2
  obtain ⟨a2, c2, rfl, _, _⟩ := rep_list hr
  unfold nTj at c0'
  simp at c0 c1 c0' c1'
  clear hr hr' hO
  go_wp2_with (go_at_call 15; refine (same_nil 0 _).mono ?_; rintro e ww ⟨rfl, rfl⟩)
  go_ret
  exact ⟨rfl, hb1⟩
theorem stepR_nn (s : ByteArray) (p : Nat) (O : List OpP) (A : List V) : 0 ≤ (stepR s p O A).1 := by
  unfold stepR
  split
  · split
    · exact (by decide : (0 : Int) ≤ 2)
    · exact Int.le_refl 0
  · split
    · exact pV_nn s p
    · split
      · exact (by decide : (0 : Int) ≤ 10)
      · exact Int.le_refl 0
theorem opsR_nn (s : ByteArray) : ∀ (n j : Nat) (O : List OpP) (A : List V), 0 ≤ (opsR s n j O A).2
  | 0, _, _, _ => Int.le_refl 0
  | n + 1, j, O, A => by
    rw [opsR]
    split
    · split
      · exact Int.le_refl 0
      · exact (by decide : (0 : Int) ≤ 5)
    · split
      · exact stepR_nn _ _ _ _
      · exact opsR_nn s n _ _ _
theorem opsP_nn (s : ByteArray) : 0 ≤ (opsP s).2 := by
  unfold opsP
  split
  · exact (by decide : (0 : Int) ≤ 2)
  · exact opsR_nn _ _ _ _ _
theorem argsF_nn : ∀ (l : List V), 0 ≤ argsF l
  | [] => Int.le_refl 0
  | x :: l => by rw [argsF]; split; exact faultV_nn x; exact argsF_nn l
theorem opF_nn (o : OpP) : 0 ≤ opF o := by
  unfold opF
  split
  · exact (by decide : (0 : Int) ≤ 3)
  · split
    · exact (by decide : (0 : Int) ≤ 10)
    · exact argsF_nn _
theorem opsF_nn : ∀ (l : List OpP), 0 ≤ opsF l
  | [] => Int.le_refl 0
  | x :: l => by rw [opsF]; split; exact opF_nn x; exact opsF_nn l
theorem opsW_nn (L : List OpP) : 0 ≤ (opsW L).2 := by
  unfold opsW
  split
  · exact (by decide : (0 : Int) ≤ 2)
  · split
    · exact opsF_nn L
    · split
      · exact (by decide : (0 : Int) ≤ 2)
      · exact Int.le_refl 0
theorem same_mine (k : Int) (w : World) (hk : 0 ≤ k) :
    Calls Tryz.prog 15 #[errN k, .int .i64 k] w fun e w' => e = .returned (.bool true) ∧ w' = w := by
  have q := same_any k k w hk
  rw [beq_self_eq_true] at q
  exact q
set_option maxHeartbeats 4000000 in
theorem opsSays_any (m : Int) (d : Nat) (s : ByteArray) (L : List OpP) (t : Value) (w : World) (hG : Gr m w) (_hs : s.size ≤ maxLen) (hL : OpsN d w t L) (hb : opsBulk L ≤ 1048576) :
    Calls Tryz.prog 8 #[.string s, t] w fun e w' => e = .returned (.bool true) ∧ Below w.heap.size w w' := by
  have htl := hid (tells_any m w hG)
  by_cases h3 : (3000 : Int) < s.size
  · go_enter Tryz.func8, Tryz.ntmps8
    go_wp2_with (go_at_call 29; go_must (refine htl.out.mono ?_); rintro e w1 ⟨rfl, hb1⟩)
    go_ret
    exact ⟨rfl, hb1⟩
  · have h3' : decide ((3000 : Int) < s.size) = false := decide_eq_false h3
    have hli := hid (fun (w1 : World) (h : Below w.heap.size w w1) => lightOps_any d L t w1 (hL.later h))
    have hpa := fun (w1 : World) (h : Below w.heap.size w w1) => parseS m s w1 (hG.below h) (by omega)
    have hop := fun (w1 : World) => rOps s w1 (by omega)
    have hwr := fun (w1 : World) (h : Below w.heap.size w w1) => writeS m d L t w1 (hG.below h).rdy (hL.later h) hb
    have htx := fun (w1 : World) (h : Below w.heap.size w w1) => opsText d L t w1 (hL.later h) hb
    have hn1 := opsP_nn s
    have hn2 := opsW_nn L
    generalize opsP s = r at hpa hop hn1
    generalize opsW L = q at hwr htx hn2
    obtain ⟨L1, e1⟩ := r
    obtain ⟨T, e2⟩ := q
    unfold ParseSaid at hpa
    unfold OpsSaid at hop
    simp only at hpa hop hwr htx hn1 hn2
    have hs1 := fun (w1 : World) => same_mine e1 w1 hn1
    have hs2 := fun (w1 : World) => same_mine e2 w1 hn2
    generalize errN e1 = v1 at hpa hs1
    generalize errN e2 = v2 at hwr hs2
    go_enter Tryz.func8, Tryz.ntmps8
    go_wp2_with (first | (go_at_call 29; go_must (refine htl.out.mono ?_); rintro e w1 ⟨rfl, hb1⟩) | (go_at_call 30; fail))
    go_at_call 30
    refine (hli.out _ hb1).mono ?_
    rintro e w2 ⟨⟨b, rfl⟩, hb2⟩
    have hB2 : Below w.heap.size w w2 := hb1.trans (hb2.mono hb1.size)
    cases b
    · go_wp2
      go_ret
      exact ⟨rfl, hB2⟩
    · go_wp2_with (first | (go_at_call 31; go_must (refine (hpa _ hB2).mono ?_); rintro e w3 ⟨t3, rfl, hb3, HO3⟩; (have hB3 : Below w.heap.size w w3 := hB2.trans (hb3.mono hB2.size))) | (go_at_call 32; go_must (refine (hop _).mono ?_); rintro e w4 ⟨t4, rfl, hb4, HO4⟩; (have hB4 : Below w.heap.size w w4 := hB3.trans (hb4.mono hB3.size))) | (go_at_call 33; go_must (refine (hwr _ hB4).mono ?_); rintro e w5 ⟨rfl, hb5⟩; (have hB5 : Below w.heap.size w w5 := hB4.trans (hb5.mono hB4.size))) | (go_at_call 34; go_must (refine (htx _ hB5).mono ?_); rintro e w6 ⟨rfl, hb6⟩; (have hB6 : Below w.heap.size w w6 := hB5.trans (hb6.mono hB5.size))) | (go_at_call 15; fail))
      go_at_call 15
      refine (hs1 _).mono ?_
      rintro e w7 ⟨rfl, hw7⟩
      rw [hw7]
      clear hw7 w7
      go_wp2_with (go_at_call 15; fail)
      go_at_call 15
      refine (hs2 _).mono ?_
      rintro e w7 ⟨rfl, hw7⟩
      rw [hw7]
      clear hw7 w7
      go_wp2_with (go_at_call 35; go_must (refine (sameOps 10 L1 t3 t4 _ (((HO3.out.later hb4).later hb5).later hb6) ((HO4.out.later hb5).later hb6)).mono ?_); rintro e w8 ⟨rfl, hb8⟩)
      go_ret
      exact ⟨rfl, hB6.trans (hb8.mono hB6.size)⟩
end Go.Proofs.YtefbfgcbbpmhlabGreatDoor
