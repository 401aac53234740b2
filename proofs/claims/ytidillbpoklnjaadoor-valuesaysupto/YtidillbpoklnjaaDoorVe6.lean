/-
  A field that is set: the program's own answer.
-/
import Derived.Test.YtidillbpoklnjaaDoorVe5
namespace Go.Proofs.YtidillbpoklnjaaDoor
open Go.RowKit
set_option maxRecDepth 100000
attribute [local go_sem ↓] Go.wp_at_zero Go.wp_at_succ

set_option maxHeartbeats 2000000 in
theorem vSet_says {e : Nat} {w : World} {v x : V} {cs cx : List Value} (name : ByteArray) (hnm : name.size ≤ maxLen) (hv : RepN (e + 1) w v cs) (hx : RepN (e + 1) w x cx) (hN : Names v.f) (hl0 : v.l = []) (hcv : v.cnt ≤ 1048576) (hcx : x.cnt ≤ 1048576) :
    Calls Tryd.prog 42 #[.agg cs.toArray, .string name, .agg cx.toArray] w fun r w' => (∃ c, r = .returned (.agg c.toArray) ∧ RepN (e + 2) w' ⟨v.k, v.n, v.s, v.l, rsetF name x v.f false⟩ c) ∧ Below w.heap.size w w' := by
  have HV := hid hv
  have HX := hid hx
  have HL0 := hid hl0
  have HN := hid hN
  clear hl0 hN
  obtain ⟨al, af, cl, cf, rfl, _⟩ := hv
  obtain ⟨al2, af2, cl2, cf2, rfl, _⟩ := hx
  go_enter Tryd.func42, Tryd.ntmps42
  go_wp2_with fail
  have hbw : Below w.heap.size w ((((w.alloc (.cells #[.int .i64 v.k, .int .i64 v.n, .string v.s, .slice al v.l.length cl, .slice af v.f.length cf] 64)).alloc (.cells #[.string name] 9)).alloc (.cells #[.int .i64 x.k, .int .i64 x.n, .string x.s, .slice al2 x.l.length cl2, .slice af2 x.f.length cf2] 64)).alloc (.cells #[.int .i64 0, .int .i64 0, .string ⟨#[]⟩, .slice none 0 0, .slice none 0 0] 64)) := by go_grown
  have A1 := (((At.new w #[.int .i64 v.k, .int .i64 v.n, .string v.s, .slice al v.l.length cl, .slice af v.f.length cf] 64 rfl).alloc (.cells #[.string name] 9)).alloc (.cells #[.int .i64 x.k, .int .i64 x.n, .string x.s, .slice al2 x.l.length cl2, .slice af2 x.f.length cf2] 64)).alloc (.cells #[.int .i64 0, .int .i64 0, .string ⟨#[]⟩, .slice none 0 0, .slice none 0 0] 64)
  have A2 := ((At.new (w.alloc (.cells #[.int .i64 v.k, .int .i64 v.n, .string v.s, .slice al v.l.length cl, .slice af v.f.length cf] 64)) #[.string name] 9 (b := w.heap.size + 1) (by simp)).alloc (.cells #[.int .i64 x.k, .int .i64 x.n, .string x.s, .slice al2 x.l.length cl2, .slice af2 x.f.length cf2] 64)).alloc (.cells #[.int .i64 0, .int .i64 0, .string ⟨#[]⟩, .slice none 0 0, .slice none 0 0] 64)
  have A3 := (At.new ((w.alloc (.cells #[.int .i64 v.k, .int .i64 v.n, .string v.s, .slice al v.l.length cl, .slice af v.f.length cf] 64)).alloc (.cells #[.string name] 9)) #[.int .i64 x.k, .int .i64 x.n, .string x.s, .slice al2 x.l.length cl2, .slice af2 x.f.length cf2] 64 (b := w.heap.size + 1 + 1) (by simp)).alloc (.cells #[.int .i64 0, .int .i64 0, .string ⟨#[]⟩, .slice none 0 0, .slice none 0 0] 64)
  have A4 := At.new (((w.alloc (.cells #[.int .i64 v.k, .int .i64 v.n, .string v.s, .slice al v.l.length cl, .slice af v.f.length cf] 64)).alloc (.cells #[.string name] 9)).alloc (.cells #[.int .i64 x.k, .int .i64 x.n, .string x.s, .slice al2 x.l.length cl2, .slice af2 x.f.length cf2] 64)) #[.int .i64 0, .int .i64 0, .string ⟨#[]⟩, .slice none 0 0, .slice none 0 0] 64 (b := w.heap.size + 1 + 1 + 1) (by simp)
  have HWS := hid (show ((((w.alloc (.cells #[.int .i64 v.k, .int .i64 v.n, .string v.s, .slice al v.l.length cl, .slice af v.f.length cf] 64)).alloc (.cells #[.string name] 9)).alloc (.cells #[.int .i64 x.k, .int .i64 x.n, .string x.s, .slice al2 x.l.length cl2, .slice af2 x.f.length cf2] 64)).alloc (.cells #[.int .i64 0, .int .i64 0, .string ⟨#[]⟩, .slice none 0 0, .slice none 0 0] 64)).heap.size = w.heap.size + 1 + 1 + 1 + 1 by simp)
  generalize (((w.alloc (.cells #[.int .i64 v.k, .int .i64 v.n, .string v.s, .slice al v.l.length cl, .slice af v.f.length cf] 64)).alloc (.cells #[.string name] 9)).alloc (.cells #[.int .i64 x.k, .int .i64 x.n, .string x.s, .slice al2 x.l.length cl2, .slice af2 x.f.length cf2] 64)).alloc (.cells #[.int .i64 0, .int .i64 0, .string ⟨#[]⟩, .slice none 0 0, .slice none 0 0] 64) = wb at *
  have HBW := hid hbw
  have hw4 := A4.lt
  have m1 := A1.cell
  have m3 := A3.cell
  have f1 := A1.free
  have f3 := A3.free
  have HA := hid (And.intro A1 (And.intro A2 (And.intro A3 A4)))
  have HVB := hid (HV.out.later hbw)
  have HXB := hid (HX.out.later hbw)
  clear hbw A1 A2 A3 A4
  have HCV := hid (fun (w1 : World) (h : Below wb.heap.size wb w1) => copy_says (w := w1) (HVB.out.later h) hcv)
  have HCX := hid (fun (w1 : World) (h : Below wb.heap.size wb w1) => copy_says (w := w1) (HXB.out.later h) hcx)
  go_cut [9] from 9 to 12 (fun _ wx => ∃ (S1 : Nat) (al3 af3 al4 af4 : Option Addr) (cl3 cf3 cl4 cf4 : Nat), Two e w S1 name v x al3 af3 al4 af4 cl3 cf3 cl4 cf4 wx)
  case first =>
    go_region_with (first
      | (go_at_call_of 37 (Value.agg #[.int .i64 v.k, .int .i64 v.n, .string v.s, .slice al v.l.length cl, .slice af v.f.length cf]); refine (HCV.out _ (by first | exact (Below.refl _ _).drew | exact Below.refl _ _)).mono ?_; rintro e1 w1 ⟨c1, rfl, hg1, hb1⟩; have HG1 := hid hg1; have HB1 := hid (show Below wb.heap.size wb w1 from below_undrew hb1); obtain ⟨al3, af3, cl3, cf3, bl3, bf3, rfl, _⟩ := hg1; have q1 := (HA.out.1.later HB1.out).cell; have q3 := (HA.out.2.2.1.later HB1.out).cell; have z3 := (HA.out.2.2.1.later HB1.out).lt; clear hb1)
      | (go_at_call_of 37 (Value.agg #[.int .i64 x.k, .int .i64 x.n, .string x.s, .slice al2 x.l.length cl2, .slice af2 x.f.length cf2]); refine (HCX.out _ (by first | exact HB1.out.drew | exact HB1.out)).mono ?_; rintro e2 w2 ⟨c2, rfl, hg2, hb2⟩; have HG2 := hid hg2; have HB2 := hid (by first | exact below_undrew hb2 | exact hb2 : Below w1.heap.size w1 w2); obtain ⟨al4, af4, cl4, cf4, bl4, bf4, rfl, _⟩ := hg2; have HB3 := hid (show Below wb.heap.size wb w2 from HB1.out.trans (HB2.out.mono HB1.out.size)); have u1 := (HA.out.1.later HB3.out).cell; have u3 := (HA.out.2.2.1.later HB3.out).cell; have y1 := (HA.out.1.later HB3.out).free; have y3 := (HA.out.2.2.1.later HB3.out).free; have s3 := (HA.out.2.2.1.later HB3.out).lt; clear hb2))
    all_goals go_wp2_with fail
    all_goals go_meet
    all_goals
      have HT := two_of HBW.out HWS.out HA.out.1 HA.out.2.1 HA.out.2.2.1 HA.out.2.2.2 HB1.out (HG1.out.low (by exact Nat.le_refl _)) HB2.out (HG2.out.low (by exact Nat.le_refl _))
      first
        | exact ⟨_, _, _, _, _, _, _, _, _, HT⟩
        | exact ⟨_, _, _, _, _, _, _, _, _, HT.drew⟩
  case rest =>
    clear m1 m3 f1 f3 HA HBW HVB HXB HCV HCX HWS hw4
    obtain ⟨S1, al3, af3, al4, af4, cl3, cf3, cl4, cf4, hT⟩ := hcut
    have HT := hid hT
    have hPW := hid (names_pw HN.out)
    have hfl : v.f.length ≤ 1048576 := by
      have := cntF_ge v.f
      have := cnt_eq v
      omega
    have c1 := hT.bv.cell
    have z1 := hT.bv.lt
    have c2 := hT.bn.cell
    have c3 := hT.bx.cell
    have z3 := hT.bx.lt
    have HF := hid (find_says (w := wc) name v.f af3 cf3 (by unfold maxLen; omega) (show FAt e wc v.f af3 from by
      obtain ⟨al', af', cl', cf', hc, _, _, hF⟩ := hT.gv.rep
      simp only [List.cons.injEq, and_true, true_and, Value.slice.injEq] at hc
      obtain ⟨_, rfl, _⟩ := hc
      exact hF))
    clear hT
    go_wp2_with (go_at_call 73; fail)
    go_at_call 73
    refine HF.out.mono ?_
    rintro e1 w1 ⟨⟨r, rfl, hr⟩, hb1⟩
    have HT1 := hid (HT.out.later hb1)
    clear c1 z1 c2 c3 z3 HF hb1
    have c1 := HT1.out.bv.cell
    have z1 := HT1.out.bv.lt
    have c2 := HT1.out.bn.cell
    have c3 := HT1.out.bx.cell
    have z3 := HT1.out.bx.lt
    rcases hr with ⟨rfl, hno⟩ | ⟨i, q, rfl, hq, hp, hj⟩
    · have HNO := hid (show ∀ q ∈ v.f, q.1 ≠ name from fun q hq he => by have := hno q hq; rw [he] at this; simp at this)
      clear hno
      have HIX := hid (index_above (w := w1) name v.f af3 cf3 (w.heap.size + 1) (by unfold maxLen; omega) (show FAt e w1 v.f af3 from by
        obtain ⟨al', af', cl', cf', hc, _, _, hF⟩ := HT1.out.gv.rep
        simp only [List.cons.injEq, and_true, true_and, Value.slice.injEq] at hc
        obtain ⟨_, rfl, _⟩ := hc
        exact hF) HT1.out.bn)
      go_wp2_with (go_at_call 75; fail)
      go_at_call 75
      refine HIX.out.mono ?_
      rintro e2 w2 ⟨⟨r2, rfl, hr2⟩, hb2⟩
      have HT2 := hid (HT1.out.later hb2)
      clear c1 z1 c2 c3 z3 hb2 HIX HT1
      have c1 := HT2.out.bv.cell
      have z1 := HT2.out.bv.lt
      have c2 := HT2.out.bn.cell
      have z2 := HT2.out.bn.lt
      have c3 := HT2.out.bx.cell
      have z3 := HT2.out.bx.lt
      obtain ⟨O, hO, how, hk, hkW⟩ := row_of_copy HT2.out.gv
      have HO := hid hO
      have HOW := hid how
      have HK := hid hk
      have HKW := hid hkW
      have HNE := hid (show (Value.slice af3 v.f.length cf3).ownBlock ≠ some w2.heap.size from fun he => by have := (how.lt _ he).2; omega)
      have HON := hid (show ∀ u ∈ flatO O, u.oneCell' = true from fun u hu => by
        obtain ⟨o, ho, hu⟩ := List.mem_flatMap.1 hu
        unfold FC.cells at hu
        rcases List.mem_cons.1 hu with rfl | hu
        · rfl
        · have := rep_ones (hk o ho).2
          simp only [List.all_toArray, List.all_eq_true] at this
          exact this u hu)
      clear hO how hk hkW
      rcases hr2 with ⟨rfl, hall⟩ | ⟨t, q2, rfl, hq2, hp2, hj2⟩
      · have HTL := hid (Nat.le_refl v.f.length)
        have HLO := hid (show ∀ (i : Nat) (q : ByteArray × V), i < v.f.length → v.f[i]? = some q → ¬ Lt name q.1 from fun i q _ hq hlt => by
          have h : (!(leB q.1 name)) = false := hall q (List.mem_of_getElem? hq)
          rw [leB_not hlt] at h; cases h)
        have HHI := hid (show ∀ q, v.f[v.f.length]? = some q → Lt name q.1 from fun q hq => by simp at hq)
        clear hall
        have HRS := hid (rset_new name x v.f v.f.length hPW.out HNO.out HTL.out HLO.out HHI.out)
        go_wp2_with (go_at_call 77; fail)
        go_at_call 77
        refine (insert_says (i := v.f.length) (HOW.out.alloc _) (by have := HT2.out.size; have := HT2.out.low; simp; omega) hfl HTL.out w2.heap.size _ _ _ _ _ _ (At.new w2 _ _ rfl) HNE.out (by simp [Value.oneCell']) HON.out).mono ?_
        rintro e3 w3 ⟨v', rfl, hown3, hgrow3⟩
        obtain ⟨gg, cap, rfl, hgg, _⟩ := own_form hown3 (by omega)
        have HSM := hid (show ∀ b, b < w2.heap.size → some b ≠ (Value.slice af3 v.f.length cf3).ownBlock → w3.heap[b]? = w2.heap[b]? from fun b h1 h2 => (hgrow3.block b (by simp; omega) h2).trans (heap_alloc_old w2 _ h1))
        have HBX := hid (show ∀ b, b < w.heap.size + 1 + 1 + 1 + 1 → some b ≠ (Value.slice af3 v.f.length cf3).ownBlock from fun b hb he => by have := (HOW.out.lt b he.symm).1; omega)
        have hz2 := HT2.out.br.lt
        have X1 : At w3 w.heap.size 64 #[.int .i64 v.k, .int .i64 v.n, .string v.s, .slice al3 v.l.length cl3, .slice af3 v.f.length cf3] := (HSM.out _ (by omega) (HBX.out _ (by omega))).trans HT2.out.bv
        have X4 : At w3 (w.heap.size + 1 + 1 + 1) 64 #[.int .i64 0, .int .i64 0, .string ⟨#[]⟩, .slice none 0 0, .slice none 0 0] := (HSM.out _ (by omega) (HBX.out _ (by omega))).trans HT2.out.br
        have hB3 : Below w.heap.size w w3 := (HT2.out.below.alloc HT2.out.below.size _).grown hgrow3 (by have := HT2.out.below.size; simp; omega) (fun k hk => by have := (HOW.out.lt k hk).1; omega)
        have HEND := hid (new_end HT2.out HL0.out hnm hfl HO.out HK.out HKW.out HTL.out hown3 (Nat.le_trans (by simp) hgrow3.size) hB3 HSM.out)
        have d1 := X1.cell
        have d2 := X1.lt
        have d3 := X1.free
        have hR := (Below.heap_setCell w3 ⟨w.heap.size, 4, none⟩ (.slice (some ⟨gg, 0, none⟩) (v.f.length + 1) cap) (w.heap.size + 1 + 1 + 1) (by simp; omega)).trans X4
        clear hown3 hgrow3 X1 hB3
        go_wp2_with (refine wpList_store_row rfl 64 (.tmp 6) (.tmp 44) rfl (w.heap.size + 1 + 1 + 1) #[.int .i64 v.k, .int .i64 v.n, .string v.s, .slice al3 v.l.length cl3, .slice (some ⟨gg, 0, none⟩) (v.f.length + 1) cap] rfl rfl 64 #[.int .i64 0, .int .i64 0, .string ⟨#[]⟩, .slice none 0 0, .slice none 0 0] hR (by kernel_rfl) rfl (by simp [Value.oneCell']) ?_)
        have rc := (At.setRow hR #[.int .i64 v.k, .int .i64 v.n, .string v.s, .slice al3 v.l.length cl3, .slice (some ⟨gg, 0, none⟩) (v.f.length + 1) cap]).cell
        refine bodyPost_ret (v := .agg #[.int .i64 v.k, .int .i64 v.n, .string v.s, .slice al3 v.l.length cl3, .slice (some ⟨gg, 0, none⟩) (v.f.length + 1) cap]) (by simp [results, Tryd.results42, go_sem, rc]) rfl ⟨⟨[.int .i64 v.k, .int .i64 v.n, .string v.s, .slice al3 v.l.length cl3, .slice (some ⟨gg, 0, none⟩) (v.f.length + 1) cap], rfl, ?_⟩, HEND.out.2⟩
        rw [HRS.out]
        exact HEND.out.1
      · have ht2 := (List.getElem?_eq_some_iff.1 hq2).1
        have HTL := hid (Nat.le_of_lt ht2)
        have ht0 : ¬ (t : Int) < 0 := by omega
        have HLO := hid (show ∀ (i : Nat) (q : ByteArray × V), i < t → v.f[i]? = some q → ¬ Lt name q.1 from fun i q hi hq hlt => by
          have h : (!(leB q.1 name)) = false := hj2 i q hi hq
          rw [leB_not hlt] at h; cases h)
        have HHI := hid (show ∀ q, v.f[t]? = some q → Lt name q.1 from fun q hq => by
          rw [hq2] at hq; cases hq
          have hle : leB q2.1 name = false := by simpa using hp2
          rcases lt_tri name q2.1 with h | h | h
          · exact h
          · rw [leB_iff.2 (.inr h.symm)] at hle; cases hle
          · rw [leB_iff.2 (.inl h)] at hle; cases hle)
        clear hp2 hj2 hq2
        have HRS := hid (rset_new name x v.f t hPW.out HNO.out HTL.out HLO.out HHI.out)
        go_wp2_with (go_at_call 77; fail)
        go_at_call 77
        refine (insert_says (i := t) (HOW.out.alloc _) (by have := HT2.out.size; have := HT2.out.low; simp; omega) hfl HTL.out w2.heap.size _ _ _ _ _ _ (At.new w2 _ _ rfl) HNE.out (by simp [Value.oneCell']) HON.out).mono ?_
        rintro e3 w3 ⟨v', rfl, hown3, hgrow3⟩
        obtain ⟨gg, cap, rfl, hgg, _⟩ := own_form hown3 (by omega)
        have HSM := hid (show ∀ b, b < w2.heap.size → some b ≠ (Value.slice af3 v.f.length cf3).ownBlock → w3.heap[b]? = w2.heap[b]? from fun b h1 h2 => (hgrow3.block b (by simp; omega) h2).trans (heap_alloc_old w2 _ h1))
        have HBX := hid (show ∀ b, b < w.heap.size + 1 + 1 + 1 + 1 → some b ≠ (Value.slice af3 v.f.length cf3).ownBlock from fun b hb he => by have := (HOW.out.lt b he.symm).1; omega)
        have hz2 := HT2.out.br.lt
        have X1 : At w3 w.heap.size 64 #[.int .i64 v.k, .int .i64 v.n, .string v.s, .slice al3 v.l.length cl3, .slice af3 v.f.length cf3] := (HSM.out _ (by omega) (HBX.out _ (by omega))).trans HT2.out.bv
        have X4 : At w3 (w.heap.size + 1 + 1 + 1) 64 #[.int .i64 0, .int .i64 0, .string ⟨#[]⟩, .slice none 0 0, .slice none 0 0] := (HSM.out _ (by omega) (HBX.out _ (by omega))).trans HT2.out.br
        have hB3 : Below w.heap.size w w3 := (HT2.out.below.alloc HT2.out.below.size _).grown hgrow3 (by have := HT2.out.below.size; simp; omega) (fun k hk => by have := (HOW.out.lt k hk).1; omega)
        have HEND := hid (new_end HT2.out HL0.out hnm hfl HO.out HK.out HKW.out HTL.out hown3 (Nat.le_trans (by simp) hgrow3.size) hB3 HSM.out)
        have d1 := X1.cell
        have d2 := X1.lt
        have d3 := X1.free
        have hR := (Below.heap_setCell w3 ⟨w.heap.size, 4, none⟩ (.slice (some ⟨gg, 0, none⟩) (v.f.length + 1) cap) (w.heap.size + 1 + 1 + 1) (by simp; omega)).trans X4
        clear hown3 hgrow3 X1 hB3
        go_wp2_with (refine wpList_store_row rfl 64 (.tmp 6) (.tmp 44) rfl (w.heap.size + 1 + 1 + 1) #[.int .i64 v.k, .int .i64 v.n, .string v.s, .slice al3 v.l.length cl3, .slice (some ⟨gg, 0, none⟩) (v.f.length + 1) cap] rfl rfl 64 #[.int .i64 0, .int .i64 0, .string ⟨#[]⟩, .slice none 0 0, .slice none 0 0] hR (by kernel_rfl) rfl (by simp [Value.oneCell']) ?_)
        have rc := (At.setRow hR #[.int .i64 v.k, .int .i64 v.n, .string v.s, .slice al3 v.l.length cl3, .slice (some ⟨gg, 0, none⟩) (v.f.length + 1) cap]).cell
        refine bodyPost_ret (v := .agg #[.int .i64 v.k, .int .i64 v.n, .string v.s, .slice al3 v.l.length cl3, .slice (some ⟨gg, 0, none⟩) (v.f.length + 1) cap]) (by simp [results, Tryd.results42, go_sem, rc]) rfl ⟨⟨[.int .i64 v.k, .int .i64 v.n, .string v.s, .slice al3 v.l.length cl3, .slice (some ⟨gg, 0, none⟩) (v.f.length + 1) cap], rfl, ?_⟩, HEND.out.2⟩
        rw [HRS.out]
        exact HEND.out.1
    · have hi := (List.getElem?_eq_some_iff.1 hq).1
      have hi' : (i : Int) < v.f.length := by omega
      have hi0 : (0 : Int) ≤ (i : Int) := by omega
      have hqn : q.1 = name := toList_eq (by simpa using hp)
      obtain ⟨al', af', cl', cf', bl, bf, hc, _, ⟨_, hmf⟩, hrow, _, hF⟩ := HT1.out.gv
      simp only [List.cons.injEq, and_true, true_and, Value.slice.injEq] at hc
      obtain ⟨⟨rfl, rfl⟩, rfl, rfl⟩ := hc
      obtain ⟨c, ha, hbl, _, _, hcc, hrg⟩ := hF i q hq
      obtain ⟨cur, hcur, _⟩ := (hrow.2 (by omega)).1
      have hfz : ∀ o, w1.frozen? ⟨bf, o, none⟩ = false := fun o => frozen_of_row w1 bf o cur _ hcur
      obtain ⟨k1, n1, s1, a1, l1, c1', a2, l2, c2', rfl, g0, g1, g2, g3, g4⟩ := rep_cells hrg.rep hcc
      have HE := hid (found_end HT1.out HL0.out hq hqn ha)
      have HRS := hid (rset_found name x v.f i q hPW.out hq hqn)
      have hbr := HT1.out.br
      have hlow : w.heap.size + 1 + 1 + 1 + 1 ≤ bf := hmf
      subst ha
      obtain ⟨W2, hW2⟩ : ∃ W2, W2 = store5o w1 bf (i * 6 + 1) (.int .i64 x.k) (.int .i64 x.n) (.string x.s) (.slice al4 x.l.length cl4) (.slice af4 x.f.length cf4) := ⟨_, rfl⟩
      rw [← hW2] at HE
      have HTH := hid (show w1.there bf (i * 6 + 1) 5 from fun j hj => ⟨by
        have hl : (j : Nat) < [Value.int .i64 k1, .int .i64 n1, .string s1, .slice a1 l1 c1', .slice a2 l2 c2'].length := by simpa using hj
        rw [hcc j _ (List.getElem?_eq_getElem hl)]; rfl, hfz _⟩)
      have k1' : At W2 w.heap.size 64 #[.int .i64 v.k, .int .i64 v.n, .string v.s, .slice al3 v.l.length cl3, .slice (some ⟨bf, 0, none⟩) v.f.length cf3] := by rw [hW2]; exact (s5o_other (by omega) _ _ _ _ _).trans HT1.out.bv
      have k4' : At W2 (w.heap.size + 1 + 1 + 1) 64 #[.int .i64 0, .int .i64 0, .string ⟨#[]⟩, .slice none 0 0, .slice none 0 0] := by rw [hW2]; exact (s5o_other (by omega) _ _ _ _ _).trans HT1.out.br
      have d1 := k1'.cell
      have d2 := k1'.lt
      have HW2 := hid hW2
      clear hF hrow hcc hrg hcur hp hj hq hqn hPW HT hW2 hfz g0 g1 g2 g3 g4 hbr
      go_wp2_with (first
        | (refine wpStore5 rfl (.tmp 24) (.tmp 22) rfl bf (i * 6 + 1) _ _ _ _ _ rfl rfl HTH.out (by simp [Value.oneCell']) W2 HW2.out ?_)
        | (refine wpList_store_row rfl 64 (.tmp 6) (.tmp 25) rfl (w.heap.size + 1 + 1 + 1) #[.int .i64 v.k, .int .i64 v.n, .string v.s, .slice al3 v.l.length cl3, .slice (some ⟨bf, 0, none⟩) v.f.length cf3] rfl rfl 64 #[.int .i64 0, .int .i64 0, .string ⟨#[]⟩, .slice none 0 0, .slice none 0 0] k4' (by kernel_rfl) rfl (by simp [Value.oneCell']) ?_))
      have rc := (k4'.setRow #[.int .i64 v.k, .int .i64 v.n, .string v.s, .slice al3 v.l.length cl3, .slice (some ⟨bf, 0, none⟩) v.f.length cf3]).cell
      refine bodyPost_ret (v := .agg #[.int .i64 v.k, .int .i64 v.n, .string v.s, .slice al3 v.l.length cl3, .slice (some ⟨bf, 0, none⟩) v.f.length cf3]) (by simp [results, Tryd.results42, go_sem, rc]) rfl ⟨⟨[.int .i64 v.k, .int .i64 v.n, .string v.s, .slice al3 v.l.length cl3, .slice (some ⟨bf, 0, none⟩) v.f.length cf3], rfl, ?_⟩, HE.out.2⟩
      rw [HRS.out]
      exact HE.out.1
end Go.Proofs.YtidillbpoklnjaaDoor
