/-
  Reading, the document's answer: dictionaries, whole.
-/
import Derived.Test.YtfkjoppehbmomaaGreatDoorZg
namespace Go.Proofs.YtfkjoppehbmomaaGreatDoor
open Go.RowKit
set_option maxRecDepth 100000

theorem endsR_two (s : ByteArray) (j : Nat) : endsR s wEnd2 j = if skipP s j = s.size then (5, false, s.size) else if s.data.toList[skipP s j]? = some 62 ∧ s.data.toList[skipP s j + 1]? = some 62 then (0, true, skipP s j + 2) else (0, false, skipP s j) := by
  unfold endsR
  by_cases h : skipP s j = s.size
  · rw [if_pos h, if_pos h]
  · rw [if_neg h, if_neg h]
    have hb : Lib.hasPrefix (s.data.toList.drop (skipP s j)) wEnd2.data.toList = decide (s.data.toList[skipP s j]? = some 62 ∧ s.data.toList[skipP s j + 1]? = some 62) := by
      by_cases hl : skipP s j < s.size
      · have := ahB_two (c := 62) (e := 62) hl
        unfold ahB at this
        rw [show wEnd2.data.toList = (⟨#[62, 62]⟩ : ByteArray).data.toList from rfl, this, rdAt_get hl]
        simp
      · rw [List.drop_eq_nil_of_le (by simp; omega), show s.data.toList[skipP s j]? = none by rw [List.getElem?_eq_none_iff]; simp; omega]
        simp [wEnd2, Lib.hasPrefix]
    rw [hb]
    by_cases h9 : s.data.toList[skipP s j]? = some 62 ∧ s.data.toList[skipP s j + 1]? = some 62
    · rw [decide_eq_true h9, if_pos rfl, if_pos h9]; rfl
    · rw [decide_eq_false h9, if_neg (by simp), if_neg h9]
theorem dGet {w a : World} {d : Nat} {al : Option Addr} {cl : Nat} {O : List FC} {r : Bool} (name : ByteArray) (hO : O.length ≤ 300) (h : DictA w a d (.slice al O.length cl) O) (hg : (getF name (O.map (·.1))).isSome = r) :
    Calls Tryz.prog 86 #[.agg #[.int .i64 6, .int .i64 0, .string ⟨#[]⟩, .slice none 0 0, .slice al O.length cl], .string name] a fun e b => ∃ (k n : Int) (t : ByteArray) (a1 a2 : Option Addr) (l1 c1 l2 c2 : Nat), e = .returned (.tuple #[.agg #[.int .i64 k, .int .i64 n, .string t, .slice a1 l1 c1, .slice a2 l2 c2], .bool r]) ∧ Below a.heap.size a b := by
  have q := rGet_says (v := ⟨6, 0, eB, [], O.map (·.1)⟩) name (h.rep (by omega)).now
  refine q.mono ?_
  rintro e b ⟨⟨c, rfl, hr⟩, hb⟩
  obtain ⟨a1, a2, c1, c2, rfl, _⟩ := hr
  subst hg
  exact ⟨_, _, _, a1, a2, _, c1, _, c2, rfl, hb⟩
theorem freshA {w a b b3 : World} {d : Nat} {t : Value} {O : List FC} {x : V} {c : List Value} (h : DictA w a d t O) (_hb : Below a.heap.size a b) (hb3 : Below b.heap.size b b3) (hx : RepIn (fun g => a.heap.size ≤ g ∧ g < b.heap.size) d b x c) :
    RepIn (fun g => w.heap.size + 2 ≤ g ∧ g < b3.heap.size) d b3 x c := by
  have has := h.size
  exact (hx.agree hb3.size fun k hk => hb3.block k hk.2).mono fun k hk => ⟨by have := hk.1; omega, Nat.lt_of_lt_of_le hk.2 hb3.size⟩
set_option maxHeartbeats 8000000 in
theorem rDict (s : ByteArray) (k d : Nat) (deep : Int) (f : Nat → Rd) (w : World) (hk : k ≤ s.size) (hs : s.size ≤ 100000) (hd : 0 ≤ deep ∧ deep ≤ 8) (hfit : Fits s f) (hnn : ∀ j, 0 ≤ (f j).2.1)
    (hval : ∀ (w : World) (j : Nat), j ≤ s.size → Calls Tryz.prog 24 #[.string s, .int .i64 j, .int .i64 (deep + 1)] w (SaidR w d (f j))) :
    Calls Tryz.prog 48 #[.string s, .int .i64 k, .int .i64 deep] w (SaidR w (d + 1) (⟨6, 0, eB, [], (rdD f s 302 [] k).1⟩, (rdD f s 302 [] k).2.1, (rdD f s 302 [] k).2.2)) := by
  have hml : s.size ≤ maxLen := by unfold maxLen; omega
  obtain ⟨R, hRR⟩ : ∃ R, rdD f s 302 [] k = R := ⟨_, rfl⟩
  rw [hRR]
  have HR0 := hid hRR
  clear hRR
  have HV := hid hval
  have HF := hid (And.intro hfit hnn)
  clear hval hfit hnn
  go_enter Tryz.func48, Tryz.ntmps48
  go_wp2
  go_loopw [1] (fun av wr => ∃ (j : Nat) (t : Value) (O : List FC), av = .int .i64 j ∧ j ≤ s.size ∧ O.length ≤ 300 ∧ Hid (rdD f s (302 - O.length) (O.map (·.1)) j = R) ∧ DictA w wr d t O) (fun _ wr => 302 - lenAt4 (w.heap.size + 1) wr)
  case atStart =>
    refine ⟨k, .slice none 0 0, [], rfl, hk, by simp, hid HR0.out, ?_, ?_, ?_, World.ownsRow_nil _ _ _ _, by simp⟩
    · exact (below_box w _).alloc (by simp) _
    · exact (At.new _ _ _ rfl).alloc _
    · exact At.new _ _ _ (by simp)
  case round =>
    clear HR0
    obtain ⟨j, t, O, rfl, hj, hO, HT, hW⟩ := hrel
    have hWs := hW.size
    obtain ⟨a, c, rfl⟩ := own_slice6 hW.own
    obtain ⟨⟨bx0, bx1, bx2, bx3, bx4⟩, fx0, fx1, fx2, fx3, fx4⟩ := five_cells hW.box
    obtain ⟨⟨vx0, vx1, vx2, vx3, vx4⟩, gx0, gx1, gx2, gx3, gx4⟩ := hW.cells
    have hes := endsR_two s j
    have hpl := (skipP_le hj).2
    have e1 : skipP s (place s (j : Int)) = skipP s j := by rw [place_in hj]
    generalize skipP s j = p at *
    have hstep : ∀ (x : Int) (y : Bool) (z : Nat), endsR s wEnd2 j = (x, y, z) → (if x ≠ 0 then ([], x, j) else if y then (O.map (·.1), 0, z) else if (rdFd f s z).2.1 ≠ 0 then ([], (rdFd f s z).2.1, j) else if (getF (rdFd f s z).1.1 (O.map (·.1))).isSome then ([], 3, j) else if 300 < (O.map (·.1)).length + 1 then ([], 2, j) else rdD f s (302 - O.length - 1) (rsetF (rdFd f s z).1.1 (rdFd f s z).1.2 (O.map (·.1)) false) (rdFd f s z).2.2) = R := fun x y z he => by
      have h := HT.out; rw [show 302 - O.length = 302 - O.length - 1 + 1 by omega, rdD_step he] at h; exact h
    have HST := hid hstep
    clear hstep HT
    by_cases hend : p = s.size
    · rw [if_pos hend] at hes
      have HRN := hid (show ([], 5, j) = R by have h := HST.out _ _ _ hes; rw [if_pos (by decide)] at h; exact h)
      have hend' : (p : Int) = s.size := by omega
      clear hend hes HST
      go_wp2_with ((go_at_call 12; refine (rSkip s _ _ hml).mono ?_; rintro e w1 ⟨rfl, rfl⟩))
      obtain ⟨hM5, hB5, hP5⟩ := hW.fill (by omega) (.int .i64 6) (.int .i64 0) (.string ⟨#[]⟩) (.slice none 0 0) (.slice a O.length c) rfl
      unfold set5 at hM5 hB5 hP5
      generalize World.setCell _ _ _ = wf at hM5 hB5 hP5 ⊢
      obtain ⟨⟨cx0, cx1, cx2, cx3, cx4⟩, _⟩ := five_cells hB5
      refine bodyPost_ret (v := .tuple #[.agg #[.int .i64 6, .int .i64 0, .string ⟨#[]⟩, .slice none 0 0, .slice a O.length c], .int .i64 0, .int .i64 5]) (by simp [results, Tryz.results48, go_sem, cx0, cx1, cx2, cx3, cx4]; try first | exact ⟨rfl, rfl⟩ | rfl) rfl ?_
      rw [← HRN.out]
      exact ⟨6, 0, ⟨#[]⟩, none, a, 0, 0, _, c, 0, rfl, hM5, hid (fun h => absurd (show (5 : Int) = 0 from h) (by decide))⟩
    rw [if_neg hend] at hes
    have hlt : p < s.size := by omega
    have hlt' : (p : Int) < s.size := by omega
    have hend' : ¬ (p : Int) = s.size := by omega
    have hend2 : ((p : Int) == (s.size : Int)) = false := by simpa using hend'
    rw [rdAt_get hlt] at hes
    clear hend
    by_cases h62 : s[p] = 62
    · have q62 : (s[p].toNat : Int) = 62 := by rw [h62]; rfl
      by_cases hn : s.data.toList[p + 1]? = some 62
      · rw [if_pos ⟨by rw [h62], hn⟩] at hes
        have HRN := hid (show (O.map (·.1), 0, p + 2) = R by have h := HST.out _ _ _ hes; rw [if_neg (by simp), if_pos rfl] at h; exact h)
        have hl2 : p + 1 < s.size := by simpa using (List.getElem?_eq_some_iff.1 hn).1
        have hl2' : (p : Int) + 1 < s.size := by omega
        have q2 : (s[p + 1].toNat : Int) = 62 := by
          have := rdAt_get hl2
          rw [hn] at this
          injection this with this
          rw [← this]; rfl
        clear h62 hes HST hn
        go_wp2_with ((go_at_call 12; refine (rSkip s _ _ hml).mono ?_; rintro e w1 ⟨rfl, rfl⟩))
        obtain ⟨hM5, hB5, hP5⟩ := hW.fill (by omega) (.int .i64 6) (.int .i64 0) (.string ⟨#[]⟩) (.slice none 0 0) (.slice a O.length c) rfl
        unfold set5 at hM5 hB5 hP5
        generalize World.setCell _ _ _ = wf at hM5 hB5 hP5 ⊢
        obtain ⟨⟨cx0, cx1, cx2, cx3, cx4⟩, _⟩ := five_cells hB5
        refine bodyPost_ret (v := .tuple #[.agg #[.int .i64 6, .int .i64 0, .string ⟨#[]⟩, .slice none 0 0, .slice a O.length c], .int .i64 ((p : Int) + 2), .int .i64 0]) (by simp [results, Tryz.results48, go_sem, cx0, cx1, cx2, cx3, cx4]; try first | exact ⟨rfl, rfl⟩ | rfl) rfl ?_
        rw [← HRN.out]
        exact ⟨6, 0, ⟨#[]⟩, none, a, 0, 0, _, c, p + 2, by simp, hM5, hid (fun _ => ⟨rfl, hP5⟩)⟩
      · rw [if_neg (fun h => hn h.2)] at hes
        have hfd : rdFd f s p = ((eB, V0 0 0 eB), 4, p) := by unfold rdFd; rw [if_neg (by rw [rdAt_get hlt, h62]; decide)]
        have HRN := hid (show ([], 4, j) = R by have h := HST.out _ _ _ hes; rw [if_neg (by simp), if_neg (by simp), hfd, if_pos (show (4 : Int) ≠ 0 by decide)] at h; exact h)
        have q47 : ((s[p].toNat : Int) != 47) = true := by rw [q62]; rfl
        clear hes HST hfd h62
        by_cases hl2 : p + 1 < s.size
        · have hl2' : (p : Int) + 1 < s.size := by omega
          have q2 : ((s[p + 1].toNat : Int) == 62) = false := ne_u8 (k := 62) (by omega) (fun e => hn (by rw [rdAt_get hl2, e]; rfl))
          clear hn
          go_wp2_with ((go_at_call 12; refine (rSkip s _ _ hml).mono ?_; rintro e w1 ⟨rfl, rfl⟩))
          obtain ⟨hM5, hB5, hP5⟩ := hW.fill (by omega) (.int .i64 6) (.int .i64 0) (.string ⟨#[]⟩) (.slice none 0 0) (.slice a O.length c) rfl
          unfold set5 at hM5 hB5 hP5
          generalize World.setCell _ _ _ = wf at hM5 hB5 hP5 ⊢
          obtain ⟨⟨cx0, cx1, cx2, cx3, cx4⟩, _⟩ := five_cells hB5
          refine bodyPost_ret (v := .tuple #[.agg #[.int .i64 6, .int .i64 0, .string ⟨#[]⟩, .slice none 0 0, .slice a O.length c], .int .i64 0, .int .i64 4]) (by simp [results, Tryz.results48, go_sem, cx0, cx1, cx2, cx3, cx4]; try first | exact ⟨rfl, rfl⟩ | rfl) rfl ?_
          rw [← HRN.out]
          exact ⟨6, 0, ⟨#[]⟩, none, a, 0, 0, _, c, 0, rfl, hM5, hid (fun h => absurd (show (4 : Int) = 0 from h) (by decide))⟩
        · have hl2' : ¬ (p : Int) + 1 < s.size := by omega
          clear hn
          go_wp2_with ((go_at_call 12; refine (rSkip s _ _ hml).mono ?_; rintro e w1 ⟨rfl, rfl⟩))
          obtain ⟨hM5, hB5, hP5⟩ := hW.fill (by omega) (.int .i64 6) (.int .i64 0) (.string ⟨#[]⟩) (.slice none 0 0) (.slice a O.length c) rfl
          unfold set5 at hM5 hB5 hP5
          generalize World.setCell _ _ _ = wf at hM5 hB5 hP5 ⊢
          obtain ⟨⟨cx0, cx1, cx2, cx3, cx4⟩, _⟩ := five_cells hB5
          refine bodyPost_ret (v := .tuple #[.agg #[.int .i64 6, .int .i64 0, .string ⟨#[]⟩, .slice none 0 0, .slice a O.length c], .int .i64 0, .int .i64 4]) (by simp [results, Tryz.results48, go_sem, cx0, cx1, cx2, cx3, cx4]; try first | exact ⟨rfl, rfl⟩ | rfl) rfl ?_
          rw [← HRN.out]
          exact ⟨6, 0, ⟨#[]⟩, none, a, 0, 0, _, c, 0, rfl, hM5, hid (fun h => absurd (show (4 : Int) = 0 from h) (by decide))⟩
    rw [if_neg (fun h => h62 (by simpa using h.1))] at hes
    have q62 : ((s[p].toNat : Int) == 62) = false := ne_u8 (k := 62) (by omega) h62
    have HU := hid (show (if (rdFd f s p).2.1 ≠ 0 then ([], (rdFd f s p).2.1, j) else if (getF (rdFd f s p).1.1 (O.map (·.1))).isSome then ([], 3, j) else if 300 < (O.map (·.1)).length + 1 then ([], 2, j) else rdD f s (302 - O.length - 1) (rsetF (rdFd f s p).1.1 (rdFd f s p).1.2 (O.map (·.1)) false) (rdFd f s p).2.2) = R by
      have h := HST.out _ _ _ hes; rw [if_neg (by simp), if_neg (by simp)] at h; exact h)
    clear hes HST h62
    by_cases h47 : s[p] = 47
    · have q47 : (s[p].toNat : Int) = 47 := by rw [h47]; rfl
      have hnm := fun (w : World) => rReadName s p w hlt hs
      have hwl := yWordLe (s := s) (k := p + 1) (by omega)
      have HFD := hid (show rdFd f s p = match nameR (wordP s (p + 1)).data.toList with | none => ((eB, V0 0 0 eB), 4, p) | some b => ((⟨b.toArray⟩, (f (p + 1 + (wordP s (p + 1)).size)).1), (f (p + 1 + (wordP s (p + 1)).size)).2.1, (f (p + 1 + (wordP s (p + 1)).size)).2.2) by unfold rdFd; rw [if_pos (by rw [rdAt_get hlt, h47])]; cases nameR (wordP s (p + 1)).data.toList <;> rfl)
      have HNO := hid (rdFd_name (f := f) (s := s) (k := p))
      unfold rName at hnm
      generalize wordP s (p + 1) = W at hnm hwl HFD
      clear h47
      cases hr : nameR W.data.toList with
      | none =>
        have hfd := HFD.out
        rw [hr] at hfd hnm
        simp only at hfd hnm
        have HRN := hid (show ([], 4, j) = R by have h := HU.out; rw [hfd, if_pos (show (4 : Int) ≠ 0 by decide)] at h; exact h)
        clear HU HFD hfd hr HNO
        go_wp2_with (first | (go_at_call 12; refine (rSkip s _ _ hml).mono ?_; rintro e w1 ⟨rfl, rfl⟩) | (go_at_call 46; go_must (refine (hnm _).mono ?_); rintro e w2 ⟨rfl, hb2⟩; (have hW2 := hW.later hb2); obtain ⟨⟨bp0, bp1, bp2, bp3, bp4⟩, fp0, fp1, fp2, fp3, fp4⟩ := five_cells hW2.box; obtain ⟨⟨vp0, vp1, vp2, vp3, vp4⟩, gp0, gp1, gp2, gp3, gp4⟩ := hW2.cells))
        obtain ⟨hM5, hB5, hP5⟩ := hW2.fill (by omega) (.int .i64 6) (.int .i64 0) (.string ⟨#[]⟩) (.slice none 0 0) (.slice a O.length c) rfl
        unfold set5 at hM5 hB5 hP5
        generalize World.setCell _ _ _ = wf at hM5 hB5 hP5 ⊢
        obtain ⟨⟨cx0, cx1, cx2, cx3, cx4⟩, _⟩ := five_cells hB5
        refine bodyPost_ret (v := .tuple #[.agg #[.int .i64 6, .int .i64 0, .string ⟨#[]⟩, .slice none 0 0, .slice a O.length c], .int .i64 0, .int .i64 4]) (by simp [results, Tryz.results48, go_sem, cx0, cx1, cx2, cx3, cx4]; try first | exact ⟨rfl, rfl⟩ | rfl) rfl ?_
        rw [← HRN.out]
        exact ⟨6, 0, ⟨#[]⟩, none, a, 0, 0, _, c, 0, rfl, hM5, hid (fun h => absurd (show (4 : Int) = 0 from h) (by decide))⟩
      | some bb =>
        have hfd := HFD.out
        rw [hr] at hfd hnm
        simp only at hfd hnm
        rw [hfd] at HU HNO
        clear HFD hfd hr
        have hv := fun (w : World) => HV.out w (p + 1 + W.size) (by omega)
        have hff := HF.out.1 (p + 1 + W.size) (by omega)
        have hn0 := HF.out.2 (p + 1 + W.size)
        generalize f (p + 1 + W.size) = r at hv HU hff hn0 HNO
        obtain ⟨x, e2, z1⟩ := r
        unfold SaidR at hv
        simp only at hv hff hn0
        have HFF := hid hff
        clear hff
        have hcast : ((p + 1 + W.size : Nat) : Int) = (p : Int) + 1 + (W.size : Int) := by omega
        rw [hcast] at hnm hv
        obtain ⟨nm, hnme⟩ : ∃ nm : ByteArray, (⟨bb.toArray⟩ : ByteArray) = nm := ⟨_, rfl⟩
        rw [hnme] at hnm HU HNO
        clear hnme hcast
        by_cases he : e2 = 0
        · subst he
          have HZ := hid (HFF.out rfl).2
          have HNS := hid (nmOk_size (HNO.out rfl))
          cases hg : (getF nm (O.map (·.1))).isSome
          · have HG := hid hg
            by_cases hmany : O.length + 1 ≤ 300
            · have hm' : ¬ ((300 : Int) < (O.length : Int) + 1) := by omega
              have HRN := hid (show rdD f s (302 - O.length - 1) (rsetF nm x (O.map (·.1)) false) z1 = R by have h := HU.out; rw [if_neg (by simp), if_neg (by simp only; rw [hg]; simp), if_neg (by simp; omega)] at h; exact h)
              clear HU hg
              go_wp2_with (first | (go_at_call 12; refine (rSkip s _ _ hml).mono ?_; rintro e w1 ⟨rfl, rfl⟩) | (go_at_call 46; go_must (refine (hnm _).mono ?_); rintro e w2 ⟨rfl, hb2⟩; (have hW2 := hW.later hb2); obtain ⟨⟨bp0, bp1, bp2, bp3, bp4⟩, fp0, fp1, fp2, fp3, fp4⟩ := five_cells hW2.box; obtain ⟨⟨vp0, vp1, vp2, vp3, vp4⟩, gp0, gp1, gp2, gp3, gp4⟩ := hW2.cells) | (go_at_call 24; go_must (refine (hv _).mono ?_); rintro e w3 ⟨k1, n1, t1, a1, a2, l1, c1, l2, c2, J, rfl, hb3, HQ⟩; (have hW3 := hW2.later hb3); (have hz3 := hW3.size); (have hWa := hW3.later (below_box w3 (.cells #[.int .i64 k1, .int .i64 n1, .string t1, .slice a1 l1 c1, .slice a2 l2 c2] 26))); obtain ⟨⟨bq0, bq1, bq2, bq3, bq4⟩, fq0, fq1, fq2, fq3, fq4⟩ := five_cells hW3.box; obtain ⟨⟨vq0, vq1, vq2, vq3, vq4⟩, gq0, gq1, gq2, gq3, gq4⟩ := hW3.cells; obtain ⟨⟨br0, br1, br2, br3, br4⟩, fr0, fr1, fr2, fr3, fr4⟩ := five_cells hWa.box; obtain ⟨⟨vr0, vr1, vr2, vr3, vr4⟩, gr0, gr1, gr2, gr3, gr4⟩ := hWa.cells) | (go_at_call 86; go_must (refine (dGet nm hO hWa HG.out).mono ?_); rintro e w4 ⟨k3, n3, t3, a3, a4, l3, c3, l4, c4, rfl, hb4⟩; (have hW4 := hWa.later hb4); (have hWb := hW4.later (below_box w4 (.cells #[.int .i64 k3, .int .i64 n3, .string t3, .slice a3 l3 c3, .slice a4 l4 c4] 26))); (have hX4 := At.later (At.new w3 #[.int .i64 k1, .int .i64 n1, .string t1, .slice a1 l1 c1, .slice a2 l2 c2] 26 rfl) hb4); (have hXl := At.lt hX4); (have hXb := At.later hX4 (below_box w4 (.cells #[.int .i64 k3, .int .i64 n3, .string t3, .slice a3 l3 c3, .slice a4 l4 c4] 26))); obtain ⟨⟨bs0, bs1, bs2, bs3, bs4⟩, fs0, fs1, fs2, fs3, fs4⟩ := five_cells hW4.box; obtain ⟨⟨vs0, vs1, vs2, vs3, vs4⟩, gs0, gs1, gs2, gs3, gs4⟩ := hW4.cells; obtain ⟨⟨bu0, bu1, bu2, bu3, bu4⟩, fu0, fu1, fu2, fu3, fu4⟩ := five_cells hWb.box; obtain ⟨⟨vu0, vu1, vu2, vu3, vu4⟩, gu0, gu1, gu2, gu3, gu4⟩ := hWb.cells; obtain ⟨⟨xb0, xb1, xb2, xb3, xb4⟩, _⟩ := five_cells hXb) | (go_at_call 87; fail))
              go_at_call 87
              obtain ⟨hJ, hRep⟩ := HQ.out (by first | trivial | rfl)
              refine (dSet (x := x) nm hO HNS.out hWb (freshA hW2 hb3 ((Below.trans (below_box w3 _) ((hb4.mono (by simp)))).trans ((below_box w4 _).mono (by have := hb4.size; simp at this; omega))) hRep) HG.out).mono ?_
              rintro e w5 ⟨af, cf, O2, rfl, hb5, HY⟩
              have hW5 := hWb.later hb5
              have hzz := hW5.size
              have HV5 := hid hW5.vbox
              clear bp0 bp1 bp2 bp3 bp4 bq0 bq1 bq2 bq3 bq4 br0 br1 br2 br3 br4 bs0 bs1 bs2 bs3 bs4 bu0 bu1 bu2 bu3 bu4 vp0 vp1 vp2 vp3 vp4 vq0 vq1 vq2 vq3 vq4 vr0 vr1 vr2 vr3 vr4 vs0 vs1 vs2 vs3 vs4 vu0 vu1 vu2 vu3 vu4 fp0 fp1 fp2 fp3 fp4 fq0 fq1 fq2 fq3 fq4 fr0 fr1 fr2 fr3 fr4 fs0 fs1 fs2 fs3 fs4 fu0 fu1 fu2 fu3 fu4 gp0 gp1 gp2 gp3 gp4 gq0 gq1 gq2 gq3 gq4 gr0 gr1 gr2 gr3 gr4 gs0 gs1 gs2 gs3 gs4 gu0 gu1 gu2 gu3 gu4
              go_wp2_with (refine wpList_store_row rfl 26 (.tmp 9) (.tmp 86) rfl (w.heap.size + 1) #[.int .i64 6, .int .i64 0, .string ⟨#[]⟩, .slice none 0 0, .slice af (O.length + 1) cf] rfl rfl 26 #[.int .i64 6, .int .i64 0, .string ⟨#[]⟩, .slice none 0 0, .slice a O.length c] HV5.out (by kernel_rfl) rfl (by simp [Value.oneCell']) ?_; generalize World.setRow w5 _ _ = wz at HY ⊢; obtain ⟨⟨bb0, bb1, bb2, bb3, bb4⟩, fb0, fb1, fb2, fb3, fb4⟩ := five_cells HY.out.2.2.box; obtain ⟨⟨vb0, vb1, vb2, vb3, vb4⟩, gb0, gb1, gb2, gb3, gb4⟩ := HY.out.2.2.cells)
              have hY := HY.out
              refine ⟨⟨z1, _, O2, rfl, HZ.out, by rw [hY.2.1]; omega, hid ?_, hY.2.2⟩, ?_⟩
              · rw [hY.1, hY.2.1, show 302 - (O.length + 1) = 302 - O.length - 1 by omega]
                exact HRN.out
              · rw [lenAt4_at hY.2.2.vbox, lenAt4_at hW.vbox]; omega
            · have hm' : (300 : Int) < (O.length : Int) + 1 := by omega
              have HRN := hid (show ([], 2, j) = R by have h := HU.out; rw [if_neg (by simp), if_neg (by simp only; rw [hg]; simp), if_pos (by simp; omega)] at h; exact h)
              clear HU hg
              go_wp2_with (first | (go_at_call 12; refine (rSkip s _ _ hml).mono ?_; rintro e w1 ⟨rfl, rfl⟩) | (go_at_call 46; go_must (refine (hnm _).mono ?_); rintro e w2 ⟨rfl, hb2⟩; (have hW2 := hW.later hb2); obtain ⟨⟨bp0, bp1, bp2, bp3, bp4⟩, fp0, fp1, fp2, fp3, fp4⟩ := five_cells hW2.box; obtain ⟨⟨vp0, vp1, vp2, vp3, vp4⟩, gp0, gp1, gp2, gp3, gp4⟩ := hW2.cells) | (go_at_call 24; go_must (refine (hv _).mono ?_); rintro e w3 ⟨k1, n1, t1, a1, a2, l1, c1, l2, c2, J, rfl, hb3, HQ⟩; (have hW3 := hW2.later hb3); (have hz3 := hW3.size); (have hWa := hW3.later (below_box w3 (.cells #[.int .i64 k1, .int .i64 n1, .string t1, .slice a1 l1 c1, .slice a2 l2 c2] 26))); obtain ⟨⟨bq0, bq1, bq2, bq3, bq4⟩, fq0, fq1, fq2, fq3, fq4⟩ := five_cells hW3.box; obtain ⟨⟨vq0, vq1, vq2, vq3, vq4⟩, gq0, gq1, gq2, gq3, gq4⟩ := hW3.cells; obtain ⟨⟨br0, br1, br2, br3, br4⟩, fr0, fr1, fr2, fr3, fr4⟩ := five_cells hWa.box; obtain ⟨⟨vr0, vr1, vr2, vr3, vr4⟩, gr0, gr1, gr2, gr3, gr4⟩ := hWa.cells) | (go_at_call 86; go_must (refine (dGet nm hO hWa HG.out).mono ?_); rintro e w4 ⟨k3, n3, t3, a3, a4, l3, c3, l4, c4, rfl, hb4⟩; (have hW4 := hWa.later hb4); (have hWb := hW4.later (below_box w4 (.cells #[.int .i64 k3, .int .i64 n3, .string t3, .slice a3 l3 c3, .slice a4 l4 c4] 26))); (have hX4 := At.later (At.new w3 #[.int .i64 k1, .int .i64 n1, .string t1, .slice a1 l1 c1, .slice a2 l2 c2] 26 rfl) hb4); (have hXl := At.lt hX4); (have hXb := At.later hX4 (below_box w4 (.cells #[.int .i64 k3, .int .i64 n3, .string t3, .slice a3 l3 c3, .slice a4 l4 c4] 26))); obtain ⟨⟨bs0, bs1, bs2, bs3, bs4⟩, fs0, fs1, fs2, fs3, fs4⟩ := five_cells hW4.box; obtain ⟨⟨vs0, vs1, vs2, vs3, vs4⟩, gs0, gs1, gs2, gs3, gs4⟩ := hW4.cells; obtain ⟨⟨bu0, bu1, bu2, bu3, bu4⟩, fu0, fu1, fu2, fu3, fu4⟩ := five_cells hWb.box; obtain ⟨⟨vu0, vu1, vu2, vu3, vu4⟩, gu0, gu1, gu2, gu3, gu4⟩ := hWb.cells; obtain ⟨⟨xb0, xb1, xb2, xb3, xb4⟩, _⟩ := five_cells hXb) | (go_at_call 87; fail))
              go_at_call 87
              obtain ⟨hJ, hRep⟩ := HQ.out (by first | trivial | rfl)
              refine (dSet (x := x) nm hO HNS.out hWb (freshA hW2 hb3 ((Below.trans (below_box w3 _) ((hb4.mono (by simp)))).trans ((below_box w4 _).mono (by have := hb4.size; simp at this; omega))) hRep) HG.out).mono ?_
              rintro e w5 ⟨af, cf, O2, rfl, hb5, HY⟩
              have hW5 := hWb.later hb5
              have hzz := hW5.size
              have HV5 := hid hW5.vbox
              clear bp0 bp1 bp2 bp3 bp4 bq0 bq1 bq2 bq3 bq4 br0 br1 br2 br3 br4 bs0 bs1 bs2 bs3 bs4 bu0 bu1 bu2 bu3 bu4 vp0 vp1 vp2 vp3 vp4 vq0 vq1 vq2 vq3 vq4 vr0 vr1 vr2 vr3 vr4 vs0 vs1 vs2 vs3 vs4 vu0 vu1 vu2 vu3 vu4 fp0 fp1 fp2 fp3 fp4 fq0 fq1 fq2 fq3 fq4 fr0 fr1 fr2 fr3 fr4 fs0 fs1 fs2 fs3 fs4 fu0 fu1 fu2 fu3 fu4 gp0 gp1 gp2 gp3 gp4 gq0 gq1 gq2 gq3 gq4 gr0 gr1 gr2 gr3 gr4 gs0 gs1 gs2 gs3 gs4 gu0 gu1 gu2 gu3 gu4
              go_wp2_with (refine wpList_store_row rfl 26 (.tmp 9) (.tmp 86) rfl (w.heap.size + 1) #[.int .i64 6, .int .i64 0, .string ⟨#[]⟩, .slice none 0 0, .slice af (O.length + 1) cf] rfl rfl 26 #[.int .i64 6, .int .i64 0, .string ⟨#[]⟩, .slice none 0 0, .slice a O.length c] HV5.out (by kernel_rfl) rfl (by simp [Value.oneCell']) ?_; generalize World.setRow w5 _ _ = wz at HY ⊢; obtain ⟨⟨bb0, bb1, bb2, bb3, bb4⟩, fb0, fb1, fb2, fb3, fb4⟩ := five_cells HY.out.2.2.box; obtain ⟨⟨vb0, vb1, vb2, vb3, vb4⟩, gb0, gb1, gb2, gb3, gb4⟩ := HY.out.2.2.cells)
              obtain ⟨hM5, hB5, hP5⟩ := HY.out.2.2.fill (by rw [HY.out.2.1]; omega) (.int .i64 6) (.int .i64 0) (.string ⟨#[]⟩) (.slice none 0 0) (.slice af (O.length + 1) cf) rfl
              unfold set5 at hM5 hB5 hP5
              generalize World.setCell _ _ _ = wf at hM5 hB5 hP5 ⊢
              obtain ⟨⟨cx0, cx1, cx2, cx3, cx4⟩, _⟩ := five_cells hB5
              refine bodyPost_ret (v := .tuple #[.agg #[.int .i64 6, .int .i64 0, .string ⟨#[]⟩, .slice none 0 0, .slice af (O.length + 1) cf], .int .i64 0, .int .i64 2]) (by simp [results, Tryz.results48, go_sem, cx0, cx1, cx2, cx3, cx4]; try first | exact ⟨rfl, rfl⟩ | rfl) rfl ?_
              rw [← HRN.out]
              exact ⟨6, 0, ⟨#[]⟩, none, af, 0, 0, _, cf, 0, rfl, hM5, hid (fun h => absurd (show (2 : Int) = 0 from h) (by decide))⟩
          · have HG := hid hg
            have HRN := hid (show ([], 3, j) = R by have h := HU.out; rw [if_neg (by simp), if_pos (by simp only; exact hg)] at h; exact h)
            clear HU hg
            go_wp2_with (first | (go_at_call 12; refine (rSkip s _ _ hml).mono ?_; rintro e w1 ⟨rfl, rfl⟩) | (go_at_call 46; go_must (refine (hnm _).mono ?_); rintro e w2 ⟨rfl, hb2⟩; (have hW2 := hW.later hb2); obtain ⟨⟨bp0, bp1, bp2, bp3, bp4⟩, fp0, fp1, fp2, fp3, fp4⟩ := five_cells hW2.box; obtain ⟨⟨vp0, vp1, vp2, vp3, vp4⟩, gp0, gp1, gp2, gp3, gp4⟩ := hW2.cells) | (go_at_call 24; go_must (refine (hv _).mono ?_); rintro e w3 ⟨k1, n1, t1, a1, a2, l1, c1, l2, c2, J, rfl, hb3, HQ⟩; (have hW3 := hW2.later hb3); (have hz3 := hW3.size); (have hWa := hW3.later (below_box w3 (.cells #[.int .i64 k1, .int .i64 n1, .string t1, .slice a1 l1 c1, .slice a2 l2 c2] 26))); obtain ⟨⟨bq0, bq1, bq2, bq3, bq4⟩, fq0, fq1, fq2, fq3, fq4⟩ := five_cells hW3.box; obtain ⟨⟨vq0, vq1, vq2, vq3, vq4⟩, gq0, gq1, gq2, gq3, gq4⟩ := hW3.cells; obtain ⟨⟨br0, br1, br2, br3, br4⟩, fr0, fr1, fr2, fr3, fr4⟩ := five_cells hWa.box; obtain ⟨⟨vr0, vr1, vr2, vr3, vr4⟩, gr0, gr1, gr2, gr3, gr4⟩ := hWa.cells) | (go_at_call 86; go_must (refine (dGet nm hO hWa HG.out).mono ?_); rintro e w4 ⟨k3, n3, t3, a3, a4, l3, c3, l4, c4, rfl, hb4⟩; (have hW4 := hWa.later hb4); (have hWb := hW4.later (below_box w4 (.cells #[.int .i64 k3, .int .i64 n3, .string t3, .slice a3 l3 c3, .slice a4 l4 c4] 26))); (have hX4 := At.later (At.new w3 #[.int .i64 k1, .int .i64 n1, .string t1, .slice a1 l1 c1, .slice a2 l2 c2] 26 rfl) hb4); (have hXl := At.lt hX4); (have hXb := At.later hX4 (below_box w4 (.cells #[.int .i64 k3, .int .i64 n3, .string t3, .slice a3 l3 c3, .slice a4 l4 c4] 26))); obtain ⟨⟨bs0, bs1, bs2, bs3, bs4⟩, fs0, fs1, fs2, fs3, fs4⟩ := five_cells hW4.box; obtain ⟨⟨vs0, vs1, vs2, vs3, vs4⟩, gs0, gs1, gs2, gs3, gs4⟩ := hW4.cells; obtain ⟨⟨bu0, bu1, bu2, bu3, bu4⟩, fu0, fu1, fu2, fu3, fu4⟩ := five_cells hWb.box; obtain ⟨⟨vu0, vu1, vu2, vu3, vu4⟩, gu0, gu1, gu2, gu3, gu4⟩ := hWb.cells; obtain ⟨⟨xb0, xb1, xb2, xb3, xb4⟩, _⟩ := five_cells hXb))
            obtain ⟨hM5, hB5, hP5⟩ := hWb.fill (by omega) (.int .i64 6) (.int .i64 0) (.string ⟨#[]⟩) (.slice none 0 0) (.slice a O.length c) rfl
            unfold set5 at hM5 hB5 hP5
            generalize World.setCell _ _ _ = wf at hM5 hB5 hP5 ⊢
            obtain ⟨⟨cx0, cx1, cx2, cx3, cx4⟩, _⟩ := five_cells hB5
            refine bodyPost_ret (v := .tuple #[.agg #[.int .i64 6, .int .i64 0, .string ⟨#[]⟩, .slice none 0 0, .slice a O.length c], .int .i64 0, .int .i64 3]) (by simp [results, Tryz.results48, go_sem, cx0, cx1, cx2, cx3, cx4]; try first | exact ⟨rfl, rfl⟩ | rfl) rfl ?_
            rw [← HRN.out]
            exact ⟨6, 0, ⟨#[]⟩, none, a, 0, 0, _, c, 0, rfl, hM5, hid (fun h => absurd (show (3 : Int) = 0 from h) (by decide))⟩
        · have he' : (0 : Int) < e2 := by omega
          have HRN := hid (show ([], e2, j) = R by rw [← HU.out, if_pos he])
          have HX := hid he
          clear HU he
          go_wp2_with (first | (go_at_call 12; refine (rSkip s _ _ hml).mono ?_; rintro e w1 ⟨rfl, rfl⟩) | (go_at_call 46; go_must (refine (hnm _).mono ?_); rintro e w2 ⟨rfl, hb2⟩; (have hW2 := hW.later hb2); obtain ⟨⟨bp0, bp1, bp2, bp3, bp4⟩, fp0, fp1, fp2, fp3, fp4⟩ := five_cells hW2.box; obtain ⟨⟨vp0, vp1, vp2, vp3, vp4⟩, gp0, gp1, gp2, gp3, gp4⟩ := hW2.cells) | (go_at_call 24; go_must (refine (hv _).mono ?_); rintro e w3 ⟨k1, n1, t1, a1, a2, l1, c1, l2, c2, J, rfl, hb3, HQ⟩; (have hW3 := hW2.later hb3); (have hz3 := hW3.size); (have hWa := hW3.later (below_box w3 (.cells #[.int .i64 k1, .int .i64 n1, .string t1, .slice a1 l1 c1, .slice a2 l2 c2] 26))); obtain ⟨⟨bq0, bq1, bq2, bq3, bq4⟩, fq0, fq1, fq2, fq3, fq4⟩ := five_cells hW3.box; obtain ⟨⟨vq0, vq1, vq2, vq3, vq4⟩, gq0, gq1, gq2, gq3, gq4⟩ := hW3.cells; obtain ⟨⟨br0, br1, br2, br3, br4⟩, fr0, fr1, fr2, fr3, fr4⟩ := five_cells hWa.box; obtain ⟨⟨vr0, vr1, vr2, vr3, vr4⟩, gr0, gr1, gr2, gr3, gr4⟩ := hWa.cells))
          obtain ⟨hM5, hB5, hP5⟩ := hWa.fill (by omega) (.int .i64 6) (.int .i64 0) (.string ⟨#[]⟩) (.slice none 0 0) (.slice a O.length c) rfl
          unfold set5 at hM5 hB5 hP5
          generalize World.setCell _ _ _ = wf at hM5 hB5 hP5 ⊢
          obtain ⟨⟨cx0, cx1, cx2, cx3, cx4⟩, _⟩ := five_cells hB5
          refine bodyPost_ret (v := .tuple #[.agg #[.int .i64 6, .int .i64 0, .string ⟨#[]⟩, .slice none 0 0, .slice a O.length c], .int .i64 0, .int .i64 e2]) (by simp [results, Tryz.results48, go_sem, cx0, cx1, cx2, cx3, cx4]; try first | exact ⟨rfl, rfl⟩ | rfl) rfl ?_
          rw [← HRN.out]
          exact ⟨6, 0, ⟨#[]⟩, none, a, 0, 0, _, c, 0, rfl, hM5, hid (fun h => absurd h HX.out)⟩
    · have q47b : ((s[p].toNat : Int) == 47) = false := ne_u8 (k := 47) (by omega) h47
      have q47 : ((s[p].toNat : Int) != 47) = true := by simp [bne, q47b]
      have hfd : rdFd f s p = ((eB, V0 0 0 eB), 4, p) := by unfold rdFd; rw [if_neg (by rw [rdAt_get hlt]; simpa using h47)]
      have HRN := hid (show ([], 4, j) = R by have h := HU.out; rw [hfd, if_pos (show (4 : Int) ≠ 0 by decide)] at h; exact h)
      clear HU hfd h47
      go_wp2_with ((go_at_call 12; refine (rSkip s _ _ hml).mono ?_; rintro e w1 ⟨rfl, rfl⟩))
      obtain ⟨hM5, hB5, hP5⟩ := hW.fill (by omega) (.int .i64 6) (.int .i64 0) (.string ⟨#[]⟩) (.slice none 0 0) (.slice a O.length c) rfl
      unfold set5 at hM5 hB5 hP5
      generalize World.setCell _ _ _ = wf at hM5 hB5 hP5 ⊢
      obtain ⟨⟨cx0, cx1, cx2, cx3, cx4⟩, _⟩ := five_cells hB5
      refine bodyPost_ret (v := .tuple #[.agg #[.int .i64 6, .int .i64 0, .string ⟨#[]⟩, .slice none 0 0, .slice a O.length c], .int .i64 0, .int .i64 4]) (by simp [results, Tryz.results48, go_sem, cx0, cx1, cx2, cx3, cx4]; try first | exact ⟨rfl, rfl⟩ | rfl) rfl ?_
      rw [← HRN.out]
      exact ⟨6, 0, ⟨#[]⟩, none, a, 0, 0, _, c, 0, rfl, hM5, hid (fun h => absurd (show (4 : Int) = 0 from h) (by decide))⟩
end Go.Proofs.YtfkjoppehbmomaaGreatDoor
