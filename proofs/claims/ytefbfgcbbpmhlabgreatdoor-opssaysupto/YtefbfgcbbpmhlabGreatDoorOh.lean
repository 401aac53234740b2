/-
  The program's reader of operators: a value.
-/
import Derived.Test.YtefbfgcbbpmhlabGreatDoorOg
namespace Go.Proofs.YtefbfgcbbpmhlabGreatDoor
open Go.RowKit
set_option maxRecDepth 100000

/-- A value's block, laid behind the call that read it. -/
theorem boxB {w w0 w3 : World} {v : V} {v0 v1 v2 v3 v4 : Value} (h0 : Below w.heap.size w w0) (hb : Below w0.heap.size w0 w3) (HQ : RepIn (fun b => w0.heap.size ≤ b ∧ b < w3.heap.size) 9 w3 v [v0, v1, v2, v3, v4]) :
    Below w.heap.size w (w3.alloc (.cells #[v0, v1, v2, v3, v4] 26)) ∧ At (w3.alloc (.cells #[v0, v1, v2, v3, v4] 26)) w3.heap.size 26 #[v0, v1, v2, v3, v4] ∧
    RepIn (fun b => w.heap.size ≤ b ∧ b < (w3.alloc (.cells #[v0, v1, v2, v3, v4] 26)).heap.size) 9 (w3.alloc (.cells #[v0, v1, v2, v3, v4] 26)) v [v0, v1, v2, v3, v4] := by
  have h3 : Below w.heap.size w w3 := h0.trans (hb.mono h0.size)
  refine ⟨h3.alloc h3.size _, At.new _ _ _ rfl, (HQ.agree (by simp) fun b hb' => heap_alloc_old _ _ hb'.2).mono fun b hb' => ⟨Nat.le_trans h0.size hb'.1, by simp; have := hb'.2; omega⟩⟩
/-- A value's block, laid ahead of the call that read it. -/
theorem boxA {w w0 w3 : World} {v : V} {v0 v1 v2 v3 v4 z0 z1 z2 z3 z4 : Value} (h0 : Below w.heap.size w w0) (hat : At w0 w.heap.size 26 #[z0, z1, z2, z3, z4]) (hb : Below w0.heap.size w0 w3) (HQ : RepIn (fun b => w0.heap.size ≤ b ∧ b < w3.heap.size) 9 w3 v [v0, v1, v2, v3, v4]) :
    Below w.heap.size w (set5 w3 w.heap.size v0 v1 v2 v3 v4) ∧ At (set5 w3 w.heap.size v0 v1 v2 v3 v4) w.heap.size 26 #[v0, v1, v2, v3, v4] ∧
    RepIn (fun b => w.heap.size ≤ b ∧ b < (set5 w3 w.heap.size v0 v1 v2 v3 v4).heap.size) 9 (set5 w3 w.heap.size v0 v1 v2 v3 v4) v [v0, v1, v2, v3, v4] := by
  have h3 : Below w.heap.size w w3 := h0.trans (hb.mono h0.size)
  have hlt := hat.lt
  refine ⟨below_set5 h3 (Nat.le_refl _) _ _ _ _ _, At.five (At.later hat hb) _ _ _ _ _, (HQ.agree (by rw [set5_size]; exact Nat.le_refl _) fun b hb' => set5_other _ _ _ _ _ _ _ (by have := hb'.1; omega)).mono fun b hb' => ⟨Nat.le_trans h0.size hb'.1, by rw [set5_size]; exact hb'.2⟩⟩
theorem then_of {A C : Prop} (h : A) (k : A → C) : C := k h
theorem errN_case (e : Int) : (e = 0 ∧ errN e = .nilIface) ∨ (e ≠ 0 ∧ errN e = .iface 86 (.int .i64 e)) := by
  by_cases h : e = 0
  · subst h; exact .inl ⟨rfl, errN_0⟩
  · have := errN_pos h
    unfold errV at this
    exact .inr ⟨h, this⟩
set_option maxHeartbeats 4000000 in
theorem stepVal (m : Int) (P B : Nat) (s : ByteArray) (j : Nat) (tO tA : Value) (O : List OC) (A : List VC) (w : World) (hG : Gr m w) (hP : P < B) (hR : RdO w P s j tO tA) (hM : OpsM B w tO tA O A) (hj : j < s.size) (hs : s.size ≤ 20000) (hA : A.length ≤ 8) (hop : opMay (wordP s j) = false) :
    Calls Tryz.prog 77 #[.pointer (some ⟨P, 0, none⟩)] w (StepSaid P B s w (stepR s j (O.map (·.1)) (A.map (·.1)))) := by
  have cc0 := hR.cell 0
  have cc1 := hR.cell 1
  have ff1 := hR.free 1
  have hlt := hR.lt
  simp at cc0 cc1
  have HW := fun (w : World) => pWordN s j w (by omega) (by omega)
  have hwl := yWordLe (s := s) (k := j) (by omega)
  have HN := fun (w : World) => nameMay_is (wordP s j) w (by omega) hop
  have HE := hid (show stepR s j (O.map (·.1)) (A.map (·.1)) = if (pV s j).2.1 ≠ 0 then ((pV s j).2.1, j, O.map (·.1), A.map (·.1)) else if A.length = 8 then (10, j, O.map (·.1), A.map (·.1)) else (0, (pV s j).2.2, O.map (·.1), A.map (·.1) ++ [(pV s j).1]) by unfold stepR; rw [if_neg (by rw [hop]; simp), List.length_map])
  clear hop
  generalize wordP s j = W at HW HN hwl
  obtain ⟨R, hRR⟩ : ∃ R, stepR s j (O.map (·.1)) (A.map (·.1)) = R := ⟨_, rfl⟩
  rw [hRR]
  have HE2 := (HE.out).symm.trans hRR
  clear hRR
  have HV := fun (w : World) (hG : Gr m w) => pValueI m s j w (by unfold maxLen; omega) hG
  clear HE
  generalize pV s j = r at HV HE2
  obtain ⟨v, e1, z⟩ := r
  unfold SaidI at HV
  simp only at HV
  replace HE2 := hid HE2
  have HEC := hid (errN_case e1)
  generalize errN e1 = ev at HV HEC
  replace HW := hid HW
  replace HN := hid HN
  replace HV := hid HV
  have HM := hid hM
  have HR := hid hR
  clear hM hR
  go_enter Tryz.func77, Tryz.ntmps77
  go_wp2_with fail
  go_region_with (go_at_call 108; refine (HW.out _).mono ?_; rintro e w1 ⟨rfl, rfl⟩)
  all_goals
    go_wp2_with (go_at_call 126; refine (HN.out _).mono ?_; rintro e w2 ⟨rfl, rfl⟩)
    go_region_with (go_at_call 89; go_must (refine (HV.out _ (hG.below (by go_grown))).mono ?_); rintro e w3 ⟨k1, n1, t1, a1, a2, l1, c1, l2, c2, rfl, hb3, HQ⟩; have g3 := fun o => hb3.cell (p := ⟨w.heap.size, o, none⟩); have q3 := fun o => hb3.frozen (p := ⟨w.heap.size, o, none⟩))
    all_goals
      clear g3 q3
      first
        | (refine then_of (boxA (v := v) (w := w) (below_box w (.cells (vc 0 0 ⟨#[]⟩) 26)).drew.drew (At.new w (vc 0 0 ⟨#[]⟩) 26 rfl).drew.drew hb3 HQ.out) ?_
           rintro ⟨hbX, hAX, hrX⟩
           have hw3 := hb3.size
           simp at hw3
           unfold set5 at hbX hAX hrX
           generalize World.setCell _ _ _ = w4 at hbX hAX hrX ⊢)
        | (refine then_of (boxB (v := v) (w := w) ((Below.refl w.heap.size w).drew.drew) hb3 HQ.out) ?_
           rintro ⟨hbX, hAX, hrX⟩
           have hw3 := hb3.size
           simp at hw3
           generalize World.alloc w3 _ = w4 at hbX hAX hrX ⊢)
      have hR4 : RdO w4 P s j tO tA := At.later HR.out hbX
      have hM4 := hid (HM.out.later hbX)
      have hx4 := hid (HM.out.fresh hrX)
      have hz4 := hR4.lt
      obtain ⟨⟨y0, y1, y2, y3, y4⟩, _⟩ := five_cells hAX
      have d1 := hR4.cell 1
      have f4 := hR4.free 1
      simp at d1
      have hne1 : w.heap.size ≠ P := by omega
      have hne3 : w3.heap.size ≠ P := by omega
      clear cc0 cc1 ff1
      rcases HEC.out with ⟨he, hev⟩ | ⟨he, hev⟩
      · subst he hev
        have HE3 := hid (show (if A.length = 8 then (10, j, O.map (·.1), A.map (·.1)) else (0, z, O.map (·.1), A.map (·.1) ++ [v])) = R by have h := HE2.out; rw [if_neg (show ¬ ((0 : Int) ≠ 0) by decide)] at h; exact h)
        clear HE2
        go_wp2_with (go_at_call 128; fail)
        have hR5 : RdO (w4.setCell ⟨P, 1, none⟩ (.int .i64 (z : Int))) P s z tO tA := heap_setCell_same w4 P 1 _ _ _ hR4
        have hK5 : KeepBut P w4 (w4.setCell ⟨P, 1, none⟩ (.int .i64 (z : Int))) := (KeepBut.refl P w4).set 1 _
        have hM5 := hM4.out.keep hP hK5
        have hx5 : RepIn (Free B (w4.setCell ⟨P, 1, none⟩ (.int .i64 (z : Int))) tO tA) 9 (w4.setCell ⟨P, 1, none⟩ (.int .i64 (z : Int))) v [.int .i64 k1, .int .i64 n1, .string t1, .slice a1 l1 c1, .slice a2 l2 c2] :=
          (hx4.out.agree hK5.size fun b hb => hK5.block b hb.2.1 (by have := hb.1; omega)).mono fun b hb => ⟨hb.1, Nat.lt_of_lt_of_le hb.2.1 hK5.size, hb.2.2⟩
        have hb5 : Below P w (w4.setCell ⟨P, 1, none⟩ (.int .i64 (z : Int))) := (hbX.mono (by omega)).trans (hK5.low hz4)
        clear hK5
        generalize w4.setCell ⟨P, 1, none⟩ (.int .i64 (z : Int)) = w5 at hR5 hM5 hx5 hb5 ⊢
        by_cases hn : A.length = 8
        · have HE4 := hid (show (10, j, O.map (·.1), A.map (·.1)) = R by rw [← HE3.out, if_pos hn])
          have hc := valueM P B s z tO tA O A (.int .i64 k1) (.int .i64 n1) (.string t1) (.slice a1 l1 c1) (.slice a2 l2 c2) w5 hR5 hM5 hn
          clear hM5 hx5 HE3 hn
          go_at_call 128
          refine hc.mono ?_
          rintro e w6 ⟨rfl, hb6⟩
          go_wp2
          go_ret
          rw [← HE4.out]
          exact ⟨rfl, hb5.trans hb6, hid (fun h => absurd (show (10 : Int) = 0 from h) (by decide))⟩
        · have HE4 := hid (show (0, z, O.map (·.1), A.map (·.1) ++ [v]) = R by rw [← HE3.out, if_neg hn])
          have hc := valueS P B s z tO tA O A k1 n1 t1 a1 a2 l1 c1 l2 c2 v w5 hP hR5 hM5 (by omega) hx5
          clear hM5 hx5 HE3 hn
          go_at_call 128
          refine hc.mono ?_
          rintro e w6 ⟨rfl, hb6, tA', hR6, hM6⟩
          go_wp2
          go_ret
          rw [← HE4.out]
          exact ⟨rfl, hb5.trans hb6, hid (fun _ => ⟨tO, tA', O, _, hR6, hM6, rfl, by simp⟩)⟩
      · subst hev
        have HE3 := hid (show (e1, j, O.map (·.1), A.map (·.1)) = R by rw [← HE2.out, if_pos he])
        have HX := hid he
        clear HE2 he
        go_wp2
        go_ret
        rw [← HE3.out]
        have hfin := errN_pos HX.out
        unfold errV at hfin
        exact ⟨by rw [hfin]; rfl, hbX.mono (by omega), hid (fun h => absurd h HX.out)⟩
end Go.Proofs.YtefbfgcbbpmhlabGreatDoor
