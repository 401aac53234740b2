/-
  Joined: Zh, Pg, Pi.
-/
import Derived.Test.YtddoigjjgcefkaaGreatDoorZg
import Derived.Test.YtddoigjjgcefkaaGreatDoorPe

/-
  Reading, the document's answer: dictionaries, whole.
-/
namespace Go.Proofs.YtddoigjjgcefkaaGreatDoor
open Go.RowKit
set_option maxRecDepth 100000

theorem endsR_two (s : ByteArray) (j : Nat) : endsR s wEnd2 j = if skipP s j = s.size then (5, false, s.size) else if s.data.toList[skipP s j]? = some 62 ∧ s.data.toList[skipP s j + 1]? = some 62 then (0, true, skipP s j + 2) else (0, false, skipP s j) := by
  unfold endsR
  by_cases h : skipP s j = s.size
  · rw [if_pos h, if_pos h]
  · rw [if_neg h, if_neg h]
    have hb : Lib.hasPrefix (s.data.toList.drop (skipP s j)) wEnd2.data.toList = decide (s.data.toList[skipP s j]? = some 62 ∧ s.data.toList[skipP s j + 1]? = some 62) := by
      by_cases hl : skipP s j < s.size
      · have := ahB_two (c := 62) (e := 62) hl
        unfold ahB at this
        rw [show wEnd2.data.toList = (⟨#[62, 62]⟩ : ByteArray).data.toList from rfl, this, rdAt_get hl]
        simp
      · rw [List.drop_eq_nil_of_le (by simp; omega), show s.data.toList[skipP s j]? = none by rw [List.getElem?_eq_none_iff]; simp; omega]
        simp [wEnd2, Lib.hasPrefix]
    rw [hb]
    by_cases h9 : s.data.toList[skipP s j]? = some 62 ∧ s.data.toList[skipP s j + 1]? = some 62
    · rw [decide_eq_true h9, if_pos rfl, if_pos h9]; rfl
    · rw [decide_eq_false h9, if_neg (by simp), if_neg h9]
theorem dGet {w a : World} {d : Nat} {al : Option Addr} {cl : Nat} {O : List FC} {r : Bool} (name : ByteArray) (hO : O.length ≤ 300) (h : DictA w a d (.slice al O.length cl) O) (hg : (getF name (O.map (·.1))).isSome = r) :
    Calls Tryz.prog 86 #[.agg #[.int .i64 6, .int .i64 0, .string ⟨#[]⟩, .slice none 0 0, .slice al O.length cl], .string name] a fun e b => ∃ (k n : Int) (t : ByteArray) (a1 a2 : Option Addr) (l1 c1 l2 c2 : Nat), e = .returned (.tuple #[.agg #[.int .i64 k, .int .i64 n, .string t, .slice a1 l1 c1, .slice a2 l2 c2], .bool r]) ∧ Below a.heap.size a b := by
  have q := rGet_says (v := ⟨6, 0, eB, [], O.map (·.1)⟩) name (h.rep (by omega)).now
  refine q.mono ?_
  rintro e b ⟨⟨c, rfl, hr⟩, hb⟩
  obtain ⟨a1, a2, c1, c2, rfl, _⟩ := hr
  subst hg
  exact ⟨_, _, _, a1, a2, _, c1, _, c2, rfl, hb⟩
theorem freshA {w a b b3 : World} {d : Nat} {t : Value} {O : List FC} {x : V} {c : List Value} (h : DictA w a d t O) (_hb : Below a.heap.size a b) (hb3 : Below b.heap.size b b3) (hx : RepIn (fun g => a.heap.size ≤ g ∧ g < b.heap.size) d b x c) :
    RepIn (fun g => w.heap.size + 2 ≤ g ∧ g < b3.heap.size) d b3 x c := by
  have has := h.size
  exact (hx.agree hb3.size fun k hk => hb3.block k hk.2).mono fun k hk => ⟨by have := hk.1; omega, Nat.lt_of_lt_of_le hk.2 hb3.size⟩
set_option maxHeartbeats 8000000 in
theorem rDict (s : ByteArray) (k d : Nat) (deep : Int) (f : Nat → Rd) (w : World) (hk : k ≤ s.size) (hs : s.size ≤ 100000) (hd : 0 ≤ deep ∧ deep ≤ 8) (hfit : Fits s f) (hnn : ∀ j, 0 ≤ (f j).2.1)
    (hval : ∀ (w : World) (j : Nat), j ≤ s.size → Calls Tryz.prog 24 #[.string s, .int .i64 j, .int .i64 (deep + 1)] w (SaidR w d (f j))) :
    Calls Tryz.prog 48 #[.string s, .int .i64 k, .int .i64 deep] w (SaidR w (d + 1) (⟨6, 0, eB, [], (rdD f s 302 [] k).1⟩, (rdD f s 302 [] k).2.1, (rdD f s 302 [] k).2.2)) := by
  have hml : s.size ≤ maxLen := by unfold maxLen; omega
  obtain ⟨R, hRR⟩ : ∃ R, rdD f s 302 [] k = R := ⟨_, rfl⟩
  rw [hRR]
  have HR0 := hid hRR
  clear hRR
  have HV := hid hval
  have HF := hid (And.intro hfit hnn)
  clear hval hfit hnn
  go_enter Tryz.func48, Tryz.ntmps48
  go_wp2
  go_loopw [1] (fun av wr => ∃ (j : Nat) (t : Value) (O : List FC), av = .int .i64 j ∧ j ≤ s.size ∧ O.length ≤ 300 ∧ Hid (rdD f s (302 - O.length) (O.map (·.1)) j = R) ∧ DictA w wr d t O) (fun _ wr => 302 - lenAt4 (w.heap.size + 1) wr)
  case atStart =>
    refine ⟨k, .slice none 0 0, [], rfl, hk, by simp, hid HR0.out, ?_, ?_, ?_, World.ownsRow_nil _ _ _ _, by simp⟩
    · exact (below_box w _).alloc (by simp) _
    · exact (At.new _ _ _ rfl).alloc _
    · exact At.new _ _ _ (by simp)
  case round =>
    clear HR0
    obtain ⟨j, t, O, rfl, hj, hO, HT, hW⟩ := hrel
    have hWs := hW.size
    obtain ⟨a, c, rfl⟩ := own_slice6 hW.own
    obtain ⟨⟨bx0, bx1, bx2, bx3, bx4⟩, fx0, fx1, fx2, fx3, fx4⟩ := five_cells hW.box
    obtain ⟨⟨vx0, vx1, vx2, vx3, vx4⟩, gx0, gx1, gx2, gx3, gx4⟩ := hW.cells
    have hes := endsR_two s j
    have hpl := (skipP_le hj).2
    have e1 : skipP s (place s (j : Int)) = skipP s j := by rw [place_in hj]
    generalize skipP s j = p at *
    have hstep : ∀ (x : Int) (y : Bool) (z : Nat), endsR s wEnd2 j = (x, y, z) → (if x ≠ 0 then ([], x, j) else if y then (O.map (·.1), 0, z) else if (rdFd f s z).2.1 ≠ 0 then ([], (rdFd f s z).2.1, j) else if (getF (rdFd f s z).1.1 (O.map (·.1))).isSome then ([], 3, j) else if 300 < (O.map (·.1)).length + 1 then ([], 2, j) else rdD f s (302 - O.length - 1) (rsetF (rdFd f s z).1.1 (rdFd f s z).1.2 (O.map (·.1)) false) (rdFd f s z).2.2) = R := fun x y z he => by
      have h := HT.out; rw [show 302 - O.length = 302 - O.length - 1 + 1 by omega, rdD_step he] at h; exact h
    have HST := hid hstep
    clear hstep HT
    by_cases hend : p = s.size
    · rw [if_pos hend] at hes
      have HRN := hid (show ([], 5, j) = R by have h := HST.out _ _ _ hes; rw [if_pos (by decide)] at h; exact h)
      have hend' : (p : Int) = s.size := by omega
      clear hend hes HST
      go_wp2_with ((go_at_call 12; refine (rSkip s _ _ hml).mono ?_; rintro e w1 ⟨rfl, rfl⟩))
      obtain ⟨hM5, hB5, hP5⟩ := hW.fill (by omega) (.int .i64 6) (.int .i64 0) (.string ⟨#[]⟩) (.slice none 0 0) (.slice a O.length c) rfl
      unfold set5 at hM5 hB5 hP5
      generalize World.setCell _ _ _ = wf at hM5 hB5 hP5 ⊢
      obtain ⟨⟨cx0, cx1, cx2, cx3, cx4⟩, _⟩ := five_cells hB5
      refine bodyPost_ret (v := .tuple #[.agg #[.int .i64 6, .int .i64 0, .string ⟨#[]⟩, .slice none 0 0, .slice a O.length c], .int .i64 0, .int .i64 5]) (by simp [results, Tryz.results48, go_sem, cx0, cx1, cx2, cx3, cx4]; try first | exact ⟨rfl, rfl⟩ | rfl) rfl ?_
      rw [← HRN.out]
      exact ⟨6, 0, ⟨#[]⟩, none, a, 0, 0, _, c, 0, rfl, hM5, hid (fun h => absurd (show (5 : Int) = 0 from h) (by decide))⟩
    rw [if_neg hend] at hes
    have hlt : p < s.size := by omega
    have hlt' : (p : Int) < s.size := by omega
    have hend' : ¬ (p : Int) = s.size := by omega
    have hend2 : ((p : Int) == (s.size : Int)) = false := by simpa using hend'
    rw [rdAt_get hlt] at hes
    clear hend
    by_cases h62 : s[p] = 62
    · have q62 : (s[p].toNat : Int) = 62 := by rw [h62]; rfl
      by_cases hn : s.data.toList[p + 1]? = some 62
      · rw [if_pos ⟨by rw [h62], hn⟩] at hes
        have HRN := hid (show (O.map (·.1), 0, p + 2) = R by have h := HST.out _ _ _ hes; rw [if_neg (by simp), if_pos rfl] at h; exact h)
        have hl2 : p + 1 < s.size := by simpa using (List.getElem?_eq_some_iff.1 hn).1
        have hl2' : (p : Int) + 1 < s.size := by omega
        have q2 : (s[p + 1].toNat : Int) = 62 := by
          have := rdAt_get hl2
          rw [hn] at this
          injection this with this
          rw [← this]; rfl
        clear h62 hes HST hn
        go_wp2_with ((go_at_call 12; refine (rSkip s _ _ hml).mono ?_; rintro e w1 ⟨rfl, rfl⟩))
        obtain ⟨hM5, hB5, hP5⟩ := hW.fill (by omega) (.int .i64 6) (.int .i64 0) (.string ⟨#[]⟩) (.slice none 0 0) (.slice a O.length c) rfl
        unfold set5 at hM5 hB5 hP5
        generalize World.setCell _ _ _ = wf at hM5 hB5 hP5 ⊢
        obtain ⟨⟨cx0, cx1, cx2, cx3, cx4⟩, _⟩ := five_cells hB5
        refine bodyPost_ret (v := .tuple #[.agg #[.int .i64 6, .int .i64 0, .string ⟨#[]⟩, .slice none 0 0, .slice a O.length c], .int .i64 ((p : Int) + 2), .int .i64 0]) (by simp [results, Tryz.results48, go_sem, cx0, cx1, cx2, cx3, cx4]; try first | exact ⟨rfl, rfl⟩ | rfl) rfl ?_
        rw [← HRN.out]
        exact ⟨6, 0, ⟨#[]⟩, none, a, 0, 0, _, c, p + 2, by simp, hM5, hid (fun _ => ⟨rfl, hP5⟩)⟩
      · rw [if_neg (fun h => hn h.2)] at hes
        have hfd : rdFd f s p = ((eB, V0 0 0 eB), 4, p) := by unfold rdFd; rw [if_neg (by rw [rdAt_get hlt, h62]; decide)]
        have HRN := hid (show ([], 4, j) = R by have h := HST.out _ _ _ hes; rw [if_neg (by simp), if_neg (by simp), hfd, if_pos (show (4 : Int) ≠ 0 by decide)] at h; exact h)
        have q47 : ((s[p].toNat : Int) != 47) = true := by rw [q62]; rfl
        clear hes HST hfd h62
        by_cases hl2 : p + 1 < s.size
        · have hl2' : (p : Int) + 1 < s.size := by omega
          have q2 : ((s[p + 1].toNat : Int) == 62) = false := ne_u8 (k := 62) (by omega) (fun e => hn (by rw [rdAt_get hl2, e]; rfl))
          clear hn
          go_wp2_with ((go_at_call 12; refine (rSkip s _ _ hml).mono ?_; rintro e w1 ⟨rfl, rfl⟩))
          obtain ⟨hM5, hB5, hP5⟩ := hW.fill (by omega) (.int .i64 6) (.int .i64 0) (.string ⟨#[]⟩) (.slice none 0 0) (.slice a O.length c) rfl
          unfold set5 at hM5 hB5 hP5
          generalize World.setCell _ _ _ = wf at hM5 hB5 hP5 ⊢
          obtain ⟨⟨cx0, cx1, cx2, cx3, cx4⟩, _⟩ := five_cells hB5
          refine bodyPost_ret (v := .tuple #[.agg #[.int .i64 6, .int .i64 0, .string ⟨#[]⟩, .slice none 0 0, .slice a O.length c], .int .i64 0, .int .i64 4]) (by simp [results, Tryz.results48, go_sem, cx0, cx1, cx2, cx3, cx4]; try first | exact ⟨rfl, rfl⟩ | rfl) rfl ?_
          rw [← HRN.out]
          exact ⟨6, 0, ⟨#[]⟩, none, a, 0, 0, _, c, 0, rfl, hM5, hid (fun h => absurd (show (4 : Int) = 0 from h) (by decide))⟩
        · have hl2' : ¬ (p : Int) + 1 < s.size := by omega
          clear hn
          go_wp2_with ((go_at_call 12; refine (rSkip s _ _ hml).mono ?_; rintro e w1 ⟨rfl, rfl⟩))
          obtain ⟨hM5, hB5, hP5⟩ := hW.fill (by omega) (.int .i64 6) (.int .i64 0) (.string ⟨#[]⟩) (.slice none 0 0) (.slice a O.length c) rfl
          unfold set5 at hM5 hB5 hP5
          generalize World.setCell _ _ _ = wf at hM5 hB5 hP5 ⊢
          obtain ⟨⟨cx0, cx1, cx2, cx3, cx4⟩, _⟩ := five_cells hB5
          refine bodyPost_ret (v := .tuple #[.agg #[.int .i64 6, .int .i64 0, .string ⟨#[]⟩, .slice none 0 0, .slice a O.length c], .int .i64 0, .int .i64 4]) (by simp [results, Tryz.results48, go_sem, cx0, cx1, cx2, cx3, cx4]; try first | exact ⟨rfl, rfl⟩ | rfl) rfl ?_
          rw [← HRN.out]
          exact ⟨6, 0, ⟨#[]⟩, none, a, 0, 0, _, c, 0, rfl, hM5, hid (fun h => absurd (show (4 : Int) = 0 from h) (by decide))⟩
    rw [if_neg (fun h => h62 (by simpa using h.1))] at hes
    have q62 : ((s[p].toNat : Int) == 62) = false := ne_u8 (k := 62) (by omega) h62
    have HU := hid (show (if (rdFd f s p).2.1 ≠ 0 then ([], (rdFd f s p).2.1, j) else if (getF (rdFd f s p).1.1 (O.map (·.1))).isSome then ([], 3, j) else if 300 < (O.map (·.1)).length + 1 then ([], 2, j) else rdD f s (302 - O.length - 1) (rsetF (rdFd f s p).1.1 (rdFd f s p).1.2 (O.map (·.1)) false) (rdFd f s p).2.2) = R by
      have h := HST.out _ _ _ hes; rw [if_neg (by simp), if_neg (by simp)] at h; exact h)
    clear hes HST h62
    by_cases h47 : s[p] = 47
    · have q47 : (s[p].toNat : Int) = 47 := by rw [h47]; rfl
      have hnm := fun (w : World) => rReadName s p w hlt hs
      have hwl := yWordLe (s := s) (k := p + 1) (by omega)
      have HFD := hid (show rdFd f s p = match nameR (wordP s (p + 1)).data.toList with | none => ((eB, V0 0 0 eB), 4, p) | some b => ((⟨b.toArray⟩, (f (p + 1 + (wordP s (p + 1)).size)).1), (f (p + 1 + (wordP s (p + 1)).size)).2.1, (f (p + 1 + (wordP s (p + 1)).size)).2.2) by unfold rdFd; rw [if_pos (by rw [rdAt_get hlt, h47])]; cases nameR (wordP s (p + 1)).data.toList <;> rfl)
      have HNO := hid (rdFd_name (f := f) (s := s) (k := p))
      unfold rName at hnm
      generalize wordP s (p + 1) = W at hnm hwl HFD
      clear h47
      cases hr : nameR W.data.toList with
      | none =>
        have hfd := HFD.out
        rw [hr] at hfd hnm
        simp only at hfd hnm
        have HRN := hid (show ([], 4, j) = R by have h := HU.out; rw [hfd, if_pos (show (4 : Int) ≠ 0 by decide)] at h; exact h)
        clear HU HFD hfd hr HNO
        go_wp2_with (first | (go_at_call 12; refine (rSkip s _ _ hml).mono ?_; rintro e w1 ⟨rfl, rfl⟩) | (go_at_call 46; go_must (refine (hnm _).mono ?_); rintro e w2 ⟨rfl, hb2⟩; (have hW2 := hW.later hb2); obtain ⟨⟨bp0, bp1, bp2, bp3, bp4⟩, fp0, fp1, fp2, fp3, fp4⟩ := five_cells hW2.box; obtain ⟨⟨vp0, vp1, vp2, vp3, vp4⟩, gp0, gp1, gp2, gp3, gp4⟩ := hW2.cells))
        obtain ⟨hM5, hB5, hP5⟩ := hW2.fill (by omega) (.int .i64 6) (.int .i64 0) (.string ⟨#[]⟩) (.slice none 0 0) (.slice a O.length c) rfl
        unfold set5 at hM5 hB5 hP5
        generalize World.setCell _ _ _ = wf at hM5 hB5 hP5 ⊢
        obtain ⟨⟨cx0, cx1, cx2, cx3, cx4⟩, _⟩ := five_cells hB5
        refine bodyPost_ret (v := .tuple #[.agg #[.int .i64 6, .int .i64 0, .string ⟨#[]⟩, .slice none 0 0, .slice a O.length c], .int .i64 0, .int .i64 4]) (by simp [results, Tryz.results48, go_sem, cx0, cx1, cx2, cx3, cx4]; try first | exact ⟨rfl, rfl⟩ | rfl) rfl ?_
        rw [← HRN.out]
        exact ⟨6, 0, ⟨#[]⟩, none, a, 0, 0, _, c, 0, rfl, hM5, hid (fun h => absurd (show (4 : Int) = 0 from h) (by decide))⟩
      | some bb =>
        have hfd := HFD.out
        rw [hr] at hfd hnm
        simp only at hfd hnm
        rw [hfd] at HU HNO
        clear HFD hfd hr
        have hv := fun (w : World) => HV.out w (p + 1 + W.size) (by omega)
        have hff := HF.out.1 (p + 1 + W.size) (by omega)
        have hn0 := HF.out.2 (p + 1 + W.size)
        generalize f (p + 1 + W.size) = r at hv HU hff hn0 HNO
        obtain ⟨x, e2, z1⟩ := r
        unfold SaidR at hv
        simp only at hv hff hn0
        have HFF := hid hff
        clear hff
        have hcast : ((p + 1 + W.size : Nat) : Int) = (p : Int) + 1 + (W.size : Int) := by omega
        rw [hcast] at hnm hv
        obtain ⟨nm, hnme⟩ : ∃ nm : ByteArray, (⟨bb.toArray⟩ : ByteArray) = nm := ⟨_, rfl⟩
        rw [hnme] at hnm HU HNO
        clear hnme hcast
        by_cases he : e2 = 0
        · subst he
          have HZ := hid (HFF.out rfl).2
          have HNS := hid (nmOk_size (HNO.out rfl))
          cases hg : (getF nm (O.map (·.1))).isSome
          · have HG := hid hg
            by_cases hmany : O.length + 1 ≤ 300
            · have hm' : ¬ ((300 : Int) < (O.length : Int) + 1) := by omega
              have HRN := hid (show rdD f s (302 - O.length - 1) (rsetF nm x (O.map (·.1)) false) z1 = R by have h := HU.out; rw [if_neg (by simp), if_neg (by simp only; rw [hg]; simp), if_neg (by simp; omega)] at h; exact h)
              clear HU hg
              go_wp2_with (first | (go_at_call 12; refine (rSkip s _ _ hml).mono ?_; rintro e w1 ⟨rfl, rfl⟩) | (go_at_call 46; go_must (refine (hnm _).mono ?_); rintro e w2 ⟨rfl, hb2⟩; (have hW2 := hW.later hb2); obtain ⟨⟨bp0, bp1, bp2, bp3, bp4⟩, fp0, fp1, fp2, fp3, fp4⟩ := five_cells hW2.box; obtain ⟨⟨vp0, vp1, vp2, vp3, vp4⟩, gp0, gp1, gp2, gp3, gp4⟩ := hW2.cells) | (go_at_call 24; go_must (refine (hv _).mono ?_); rintro e w3 ⟨k1, n1, t1, a1, a2, l1, c1, l2, c2, J, rfl, hb3, HQ⟩; (have hW3 := hW2.later hb3); (have hz3 := hW3.size); (have hWa := hW3.later (below_box w3 (.cells #[.int .i64 k1, .int .i64 n1, .string t1, .slice a1 l1 c1, .slice a2 l2 c2] 26))); obtain ⟨⟨bq0, bq1, bq2, bq3, bq4⟩, fq0, fq1, fq2, fq3, fq4⟩ := five_cells hW3.box; obtain ⟨⟨vq0, vq1, vq2, vq3, vq4⟩, gq0, gq1, gq2, gq3, gq4⟩ := hW3.cells; obtain ⟨⟨br0, br1, br2, br3, br4⟩, fr0, fr1, fr2, fr3, fr4⟩ := five_cells hWa.box; obtain ⟨⟨vr0, vr1, vr2, vr3, vr4⟩, gr0, gr1, gr2, gr3, gr4⟩ := hWa.cells) | (go_at_call 86; go_must (refine (dGet nm hO hWa HG.out).mono ?_); rintro e w4 ⟨k3, n3, t3, a3, a4, l3, c3, l4, c4, rfl, hb4⟩; (have hW4 := hWa.later hb4); (have hWb := hW4.later (below_box w4 (.cells #[.int .i64 k3, .int .i64 n3, .string t3, .slice a3 l3 c3, .slice a4 l4 c4] 26))); (have hX4 := At.later (At.new w3 #[.int .i64 k1, .int .i64 n1, .string t1, .slice a1 l1 c1, .slice a2 l2 c2] 26 rfl) hb4); (have hXl := At.lt hX4); (have hXb := At.later hX4 (below_box w4 (.cells #[.int .i64 k3, .int .i64 n3, .string t3, .slice a3 l3 c3, .slice a4 l4 c4] 26))); obtain ⟨⟨bs0, bs1, bs2, bs3, bs4⟩, fs0, fs1, fs2, fs3, fs4⟩ := five_cells hW4.box; obtain ⟨⟨vs0, vs1, vs2, vs3, vs4⟩, gs0, gs1, gs2, gs3, gs4⟩ := hW4.cells; obtain ⟨⟨bu0, bu1, bu2, bu3, bu4⟩, fu0, fu1, fu2, fu3, fu4⟩ := five_cells hWb.box; obtain ⟨⟨vu0, vu1, vu2, vu3, vu4⟩, gu0, gu1, gu2, gu3, gu4⟩ := hWb.cells; obtain ⟨⟨xb0, xb1, xb2, xb3, xb4⟩, _⟩ := five_cells hXb) | (go_at_call 87; fail))
              go_at_call 87
              obtain ⟨hJ, hRep⟩ := HQ.out (by first | trivial | rfl)
              refine (dSet (x := x) nm hO HNS.out hWb (freshA hW2 hb3 ((Below.trans (below_box w3 _) ((hb4.mono (by simp)))).trans ((below_box w4 _).mono (by have := hb4.size; simp at this; omega))) hRep) HG.out).mono ?_
              rintro e w5 ⟨af, cf, O2, rfl, hb5, HY⟩
              have hW5 := hWb.later hb5
              have hzz := hW5.size
              have HV5 := hid hW5.vbox
              clear bp0 bp1 bp2 bp3 bp4 bq0 bq1 bq2 bq3 bq4 br0 br1 br2 br3 br4 bs0 bs1 bs2 bs3 bs4 bu0 bu1 bu2 bu3 bu4 vp0 vp1 vp2 vp3 vp4 vq0 vq1 vq2 vq3 vq4 vr0 vr1 vr2 vr3 vr4 vs0 vs1 vs2 vs3 vs4 vu0 vu1 vu2 vu3 vu4 fp0 fp1 fp2 fp3 fp4 fq0 fq1 fq2 fq3 fq4 fr0 fr1 fr2 fr3 fr4 fs0 fs1 fs2 fs3 fs4 fu0 fu1 fu2 fu3 fu4 gp0 gp1 gp2 gp3 gp4 gq0 gq1 gq2 gq3 gq4 gr0 gr1 gr2 gr3 gr4 gs0 gs1 gs2 gs3 gs4 gu0 gu1 gu2 gu3 gu4
              go_wp2_with (refine wpList_store_row rfl 26 (.tmp 9) (.tmp 86) rfl (w.heap.size + 1) #[.int .i64 6, .int .i64 0, .string ⟨#[]⟩, .slice none 0 0, .slice af (O.length + 1) cf] rfl rfl 26 #[.int .i64 6, .int .i64 0, .string ⟨#[]⟩, .slice none 0 0, .slice a O.length c] HV5.out (by kernel_rfl) rfl (by simp [Value.oneCell']) ?_; generalize World.setRow w5 _ _ = wz at HY ⊢; obtain ⟨⟨bb0, bb1, bb2, bb3, bb4⟩, fb0, fb1, fb2, fb3, fb4⟩ := five_cells HY.out.2.2.box; obtain ⟨⟨vb0, vb1, vb2, vb3, vb4⟩, gb0, gb1, gb2, gb3, gb4⟩ := HY.out.2.2.cells)
              have hY := HY.out
              refine ⟨⟨z1, _, O2, rfl, HZ.out, by rw [hY.2.1]; omega, hid ?_, hY.2.2⟩, ?_⟩
              · rw [hY.1, hY.2.1, show 302 - (O.length + 1) = 302 - O.length - 1 by omega]
                exact HRN.out
              · rw [lenAt4_at hY.2.2.vbox, lenAt4_at hW.vbox]; omega
            · have hm' : (300 : Int) < (O.length : Int) + 1 := by omega
              have HRN := hid (show ([], 2, j) = R by have h := HU.out; rw [if_neg (by simp), if_neg (by simp only; rw [hg]; simp), if_pos (by simp; omega)] at h; exact h)
              clear HU hg
              go_wp2_with (first | (go_at_call 12; refine (rSkip s _ _ hml).mono ?_; rintro e w1 ⟨rfl, rfl⟩) | (go_at_call 46; go_must (refine (hnm _).mono ?_); rintro e w2 ⟨rfl, hb2⟩; (have hW2 := hW.later hb2); obtain ⟨⟨bp0, bp1, bp2, bp3, bp4⟩, fp0, fp1, fp2, fp3, fp4⟩ := five_cells hW2.box; obtain ⟨⟨vp0, vp1, vp2, vp3, vp4⟩, gp0, gp1, gp2, gp3, gp4⟩ := hW2.cells) | (go_at_call 24; go_must (refine (hv _).mono ?_); rintro e w3 ⟨k1, n1, t1, a1, a2, l1, c1, l2, c2, J, rfl, hb3, HQ⟩; (have hW3 := hW2.later hb3); (have hz3 := hW3.size); (have hWa := hW3.later (below_box w3 (.cells #[.int .i64 k1, .int .i64 n1, .string t1, .slice a1 l1 c1, .slice a2 l2 c2] 26))); obtain ⟨⟨bq0, bq1, bq2, bq3, bq4⟩, fq0, fq1, fq2, fq3, fq4⟩ := five_cells hW3.box; obtain ⟨⟨vq0, vq1, vq2, vq3, vq4⟩, gq0, gq1, gq2, gq3, gq4⟩ := hW3.cells; obtain ⟨⟨br0, br1, br2, br3, br4⟩, fr0, fr1, fr2, fr3, fr4⟩ := five_cells hWa.box; obtain ⟨⟨vr0, vr1, vr2, vr3, vr4⟩, gr0, gr1, gr2, gr3, gr4⟩ := hWa.cells) | (go_at_call 86; go_must (refine (dGet nm hO hWa HG.out).mono ?_); rintro e w4 ⟨k3, n3, t3, a3, a4, l3, c3, l4, c4, rfl, hb4⟩; (have hW4 := hWa.later hb4); (have hWb := hW4.later (below_box w4 (.cells #[.int .i64 k3, .int .i64 n3, .string t3, .slice a3 l3 c3, .slice a4 l4 c4] 26))); (have hX4 := At.later (At.new w3 #[.int .i64 k1, .int .i64 n1, .string t1, .slice a1 l1 c1, .slice a2 l2 c2] 26 rfl) hb4); (have hXl := At.lt hX4); (have hXb := At.later hX4 (below_box w4 (.cells #[.int .i64 k3, .int .i64 n3, .string t3, .slice a3 l3 c3, .slice a4 l4 c4] 26))); obtain ⟨⟨bs0, bs1, bs2, bs3, bs4⟩, fs0, fs1, fs2, fs3, fs4⟩ := five_cells hW4.box; obtain ⟨⟨vs0, vs1, vs2, vs3, vs4⟩, gs0, gs1, gs2, gs3, gs4⟩ := hW4.cells; obtain ⟨⟨bu0, bu1, bu2, bu3, bu4⟩, fu0, fu1, fu2, fu3, fu4⟩ := five_cells hWb.box; obtain ⟨⟨vu0, vu1, vu2, vu3, vu4⟩, gu0, gu1, gu2, gu3, gu4⟩ := hWb.cells; obtain ⟨⟨xb0, xb1, xb2, xb3, xb4⟩, _⟩ := five_cells hXb) | (go_at_call 87; fail))
              go_at_call 87
              obtain ⟨hJ, hRep⟩ := HQ.out (by first | trivial | rfl)
              refine (dSet (x := x) nm hO HNS.out hWb (freshA hW2 hb3 ((Below.trans (below_box w3 _) ((hb4.mono (by simp)))).trans ((below_box w4 _).mono (by have := hb4.size; simp at this; omega))) hRep) HG.out).mono ?_
              rintro e w5 ⟨af, cf, O2, rfl, hb5, HY⟩
              have hW5 := hWb.later hb5
              have hzz := hW5.size
              have HV5 := hid hW5.vbox
              clear bp0 bp1 bp2 bp3 bp4 bq0 bq1 bq2 bq3 bq4 br0 br1 br2 br3 br4 bs0 bs1 bs2 bs3 bs4 bu0 bu1 bu2 bu3 bu4 vp0 vp1 vp2 vp3 vp4 vq0 vq1 vq2 vq3 vq4 vr0 vr1 vr2 vr3 vr4 vs0 vs1 vs2 vs3 vs4 vu0 vu1 vu2 vu3 vu4 fp0 fp1 fp2 fp3 fp4 fq0 fq1 fq2 fq3 fq4 fr0 fr1 fr2 fr3 fr4 fs0 fs1 fs2 fs3 fs4 fu0 fu1 fu2 fu3 fu4 gp0 gp1 gp2 gp3 gp4 gq0 gq1 gq2 gq3 gq4 gr0 gr1 gr2 gr3 gr4 gs0 gs1 gs2 gs3 gs4 gu0 gu1 gu2 gu3 gu4
              go_wp2_with (refine wpList_store_row rfl 26 (.tmp 9) (.tmp 86) rfl (w.heap.size + 1) #[.int .i64 6, .int .i64 0, .string ⟨#[]⟩, .slice none 0 0, .slice af (O.length + 1) cf] rfl rfl 26 #[.int .i64 6, .int .i64 0, .string ⟨#[]⟩, .slice none 0 0, .slice a O.length c] HV5.out (by kernel_rfl) rfl (by simp [Value.oneCell']) ?_; generalize World.setRow w5 _ _ = wz at HY ⊢; obtain ⟨⟨bb0, bb1, bb2, bb3, bb4⟩, fb0, fb1, fb2, fb3, fb4⟩ := five_cells HY.out.2.2.box; obtain ⟨⟨vb0, vb1, vb2, vb3, vb4⟩, gb0, gb1, gb2, gb3, gb4⟩ := HY.out.2.2.cells)
              obtain ⟨hM5, hB5, hP5⟩ := HY.out.2.2.fill (by rw [HY.out.2.1]; omega) (.int .i64 6) (.int .i64 0) (.string ⟨#[]⟩) (.slice none 0 0) (.slice af (O.length + 1) cf) rfl
              unfold set5 at hM5 hB5 hP5
              generalize World.setCell _ _ _ = wf at hM5 hB5 hP5 ⊢
              obtain ⟨⟨cx0, cx1, cx2, cx3, cx4⟩, _⟩ := five_cells hB5
              refine bodyPost_ret (v := .tuple #[.agg #[.int .i64 6, .int .i64 0, .string ⟨#[]⟩, .slice none 0 0, .slice af (O.length + 1) cf], .int .i64 0, .int .i64 2]) (by simp [results, Tryz.results48, go_sem, cx0, cx1, cx2, cx3, cx4]; try first | exact ⟨rfl, rfl⟩ | rfl) rfl ?_
              rw [← HRN.out]
              exact ⟨6, 0, ⟨#[]⟩, none, af, 0, 0, _, cf, 0, rfl, hM5, hid (fun h => absurd (show (2 : Int) = 0 from h) (by decide))⟩
          · have HG := hid hg
            have HRN := hid (show ([], 3, j) = R by have h := HU.out; rw [if_neg (by simp), if_pos (by simp only; exact hg)] at h; exact h)
            clear HU hg
            go_wp2_with (first | (go_at_call 12; refine (rSkip s _ _ hml).mono ?_; rintro e w1 ⟨rfl, rfl⟩) | (go_at_call 46; go_must (refine (hnm _).mono ?_); rintro e w2 ⟨rfl, hb2⟩; (have hW2 := hW.later hb2); obtain ⟨⟨bp0, bp1, bp2, bp3, bp4⟩, fp0, fp1, fp2, fp3, fp4⟩ := five_cells hW2.box; obtain ⟨⟨vp0, vp1, vp2, vp3, vp4⟩, gp0, gp1, gp2, gp3, gp4⟩ := hW2.cells) | (go_at_call 24; go_must (refine (hv _).mono ?_); rintro e w3 ⟨k1, n1, t1, a1, a2, l1, c1, l2, c2, J, rfl, hb3, HQ⟩; (have hW3 := hW2.later hb3); (have hz3 := hW3.size); (have hWa := hW3.later (below_box w3 (.cells #[.int .i64 k1, .int .i64 n1, .string t1, .slice a1 l1 c1, .slice a2 l2 c2] 26))); obtain ⟨⟨bq0, bq1, bq2, bq3, bq4⟩, fq0, fq1, fq2, fq3, fq4⟩ := five_cells hW3.box; obtain ⟨⟨vq0, vq1, vq2, vq3, vq4⟩, gq0, gq1, gq2, gq3, gq4⟩ := hW3.cells; obtain ⟨⟨br0, br1, br2, br3, br4⟩, fr0, fr1, fr2, fr3, fr4⟩ := five_cells hWa.box; obtain ⟨⟨vr0, vr1, vr2, vr3, vr4⟩, gr0, gr1, gr2, gr3, gr4⟩ := hWa.cells) | (go_at_call 86; go_must (refine (dGet nm hO hWa HG.out).mono ?_); rintro e w4 ⟨k3, n3, t3, a3, a4, l3, c3, l4, c4, rfl, hb4⟩; (have hW4 := hWa.later hb4); (have hWb := hW4.later (below_box w4 (.cells #[.int .i64 k3, .int .i64 n3, .string t3, .slice a3 l3 c3, .slice a4 l4 c4] 26))); (have hX4 := At.later (At.new w3 #[.int .i64 k1, .int .i64 n1, .string t1, .slice a1 l1 c1, .slice a2 l2 c2] 26 rfl) hb4); (have hXl := At.lt hX4); (have hXb := At.later hX4 (below_box w4 (.cells #[.int .i64 k3, .int .i64 n3, .string t3, .slice a3 l3 c3, .slice a4 l4 c4] 26))); obtain ⟨⟨bs0, bs1, bs2, bs3, bs4⟩, fs0, fs1, fs2, fs3, fs4⟩ := five_cells hW4.box; obtain ⟨⟨vs0, vs1, vs2, vs3, vs4⟩, gs0, gs1, gs2, gs3, gs4⟩ := hW4.cells; obtain ⟨⟨bu0, bu1, bu2, bu3, bu4⟩, fu0, fu1, fu2, fu3, fu4⟩ := five_cells hWb.box; obtain ⟨⟨vu0, vu1, vu2, vu3, vu4⟩, gu0, gu1, gu2, gu3, gu4⟩ := hWb.cells; obtain ⟨⟨xb0, xb1, xb2, xb3, xb4⟩, _⟩ := five_cells hXb))
            obtain ⟨hM5, hB5, hP5⟩ := hWb.fill (by omega) (.int .i64 6) (.int .i64 0) (.string ⟨#[]⟩) (.slice none 0 0) (.slice a O.length c) rfl
            unfold set5 at hM5 hB5 hP5
            generalize World.setCell _ _ _ = wf at hM5 hB5 hP5 ⊢
            obtain ⟨⟨cx0, cx1, cx2, cx3, cx4⟩, _⟩ := five_cells hB5
            refine bodyPost_ret (v := .tuple #[.agg #[.int .i64 6, .int .i64 0, .string ⟨#[]⟩, .slice none 0 0, .slice a O.length c], .int .i64 0, .int .i64 3]) (by simp [results, Tryz.results48, go_sem, cx0, cx1, cx2, cx3, cx4]; try first | exact ⟨rfl, rfl⟩ | rfl) rfl ?_
            rw [← HRN.out]
            exact ⟨6, 0, ⟨#[]⟩, none, a, 0, 0, _, c, 0, rfl, hM5, hid (fun h => absurd (show (3 : Int) = 0 from h) (by decide))⟩
        · have he' : (0 : Int) < e2 := by omega
          have HRN := hid (show ([], e2, j) = R by rw [← HU.out, if_pos he])
          have HX := hid he
          clear HU he
          go_wp2_with (first | (go_at_call 12; refine (rSkip s _ _ hml).mono ?_; rintro e w1 ⟨rfl, rfl⟩) | (go_at_call 46; go_must (refine (hnm _).mono ?_); rintro e w2 ⟨rfl, hb2⟩; (have hW2 := hW.later hb2); obtain ⟨⟨bp0, bp1, bp2, bp3, bp4⟩, fp0, fp1, fp2, fp3, fp4⟩ := five_cells hW2.box; obtain ⟨⟨vp0, vp1, vp2, vp3, vp4⟩, gp0, gp1, gp2, gp3, gp4⟩ := hW2.cells) | (go_at_call 24; go_must (refine (hv _).mono ?_); rintro e w3 ⟨k1, n1, t1, a1, a2, l1, c1, l2, c2, J, rfl, hb3, HQ⟩; (have hW3 := hW2.later hb3); (have hz3 := hW3.size); (have hWa := hW3.later (below_box w3 (.cells #[.int .i64 k1, .int .i64 n1, .string t1, .slice a1 l1 c1, .slice a2 l2 c2] 26))); obtain ⟨⟨bq0, bq1, bq2, bq3, bq4⟩, fq0, fq1, fq2, fq3, fq4⟩ := five_cells hW3.box; obtain ⟨⟨vq0, vq1, vq2, vq3, vq4⟩, gq0, gq1, gq2, gq3, gq4⟩ := hW3.cells; obtain ⟨⟨br0, br1, br2, br3, br4⟩, fr0, fr1, fr2, fr3, fr4⟩ := five_cells hWa.box; obtain ⟨⟨vr0, vr1, vr2, vr3, vr4⟩, gr0, gr1, gr2, gr3, gr4⟩ := hWa.cells))
          obtain ⟨hM5, hB5, hP5⟩ := hWa.fill (by omega) (.int .i64 6) (.int .i64 0) (.string ⟨#[]⟩) (.slice none 0 0) (.slice a O.length c) rfl
          unfold set5 at hM5 hB5 hP5
          generalize World.setCell _ _ _ = wf at hM5 hB5 hP5 ⊢
          obtain ⟨⟨cx0, cx1, cx2, cx3, cx4⟩, _⟩ := five_cells hB5
          refine bodyPost_ret (v := .tuple #[.agg #[.int .i64 6, .int .i64 0, .string ⟨#[]⟩, .slice none 0 0, .slice a O.length c], .int .i64 0, .int .i64 e2]) (by simp [results, Tryz.results48, go_sem, cx0, cx1, cx2, cx3, cx4]; try first | exact ⟨rfl, rfl⟩ | rfl) rfl ?_
          rw [← HRN.out]
          exact ⟨6, 0, ⟨#[]⟩, none, a, 0, 0, _, c, 0, rfl, hM5, hid (fun h => absurd h HX.out)⟩
    · have q47b : ((s[p].toNat : Int) == 47) = false := ne_u8 (k := 47) (by omega) h47
      have q47 : ((s[p].toNat : Int) != 47) = true := by simp [bne, q47b]
      have hfd : rdFd f s p = ((eB, V0 0 0 eB), 4, p) := by unfold rdFd; rw [if_neg (by rw [rdAt_get hlt]; simpa using h47)]
      have HRN := hid (show ([], 4, j) = R by have h := HU.out; rw [hfd, if_pos (show (4 : Int) ≠ 0 by decide)] at h; exact h)
      clear HU hfd h47
      go_wp2_with ((go_at_call 12; refine (rSkip s _ _ hml).mono ?_; rintro e w1 ⟨rfl, rfl⟩))
      obtain ⟨hM5, hB5, hP5⟩ := hW.fill (by omega) (.int .i64 6) (.int .i64 0) (.string ⟨#[]⟩) (.slice none 0 0) (.slice a O.length c) rfl
      unfold set5 at hM5 hB5 hP5
      generalize World.setCell _ _ _ = wf at hM5 hB5 hP5 ⊢
      obtain ⟨⟨cx0, cx1, cx2, cx3, cx4⟩, _⟩ := five_cells hB5
      refine bodyPost_ret (v := .tuple #[.agg #[.int .i64 6, .int .i64 0, .string ⟨#[]⟩, .slice none 0 0, .slice a O.length c], .int .i64 0, .int .i64 4]) (by simp [results, Tryz.results48, go_sem, cx0, cx1, cx2, cx3, cx4]; try first | exact ⟨rfl, rfl⟩ | rfl) rfl ?_
      rw [← HRN.out]
      exact ⟨6, 0, ⟨#[]⟩, none, a, 0, 0, _, c, 0, rfl, hM5, hid (fun h => absurd (show (4 : Int) = 0 from h) (by decide))⟩
end Go.Proofs.YtddoigjjgcefkaaGreatDoor

/-
  Reading, plainly: what stands behind a value, parted by a blank, tells nothing.
-/
namespace Go.Proofs.YtddoigjjgcefkaaGreatDoor
open Go.RowKit
set_option maxRecDepth 100000

theorem skipL_stop : ∀ (l : List UInt8) (b : Bool), skipL (l.drop (skipL l b)) false = 0
  | [], b => by simp [skipL]
  | c :: r, b => by
    by_cases h : (!(c == 37 || (b && c != 10 && c != 13)) && !isBl c) = true
    · have e : skipL (c :: r) b = 0 := by unfold skipL; rw [if_pos h]
      rw [e, List.drop_zero]
      unfold skipL
      have h1 : (c == 37) = false := by
        cases hc : (c == 37)
        · rfl
        · rw [hc] at h; simp at h
      have h2 : isBl c = false := by
        cases hc : isBl c
        · rfl
        · rw [hc] at h; simp at h
      rw [h1, h2]; rfl
    · have e : skipL (c :: r) b = skipL r (c == 37 || (b && c != 10 && c != 13)) + 1 := by
        conv => lhs; unfold skipL
        rw [if_neg h]
      rw [e, List.drop_succ_cons]
      exact skipL_stop r _
theorem skip_idem (s : ByteArray) (j : Nat) : skipP s (skipP s j) = skipP s j := by
  have h := skipL_stop (s.data.toList.drop j) false
  rw [List.drop_drop] at h
  unfold skipP
  omega
theorem rdV_skip (s : ByteArray) (m j : Nat) : rdV s (m + 1) (skipP s j) = rdV s (m + 1) j ∨ skipP s j = s.size := by
  by_cases h : skipP s j = s.size
  · exact .inr h
  · refine .inl ?_
    rw [rdV, rdV, skip_idem, if_neg h, if_neg h]
theorem word_sign {s : ByteArray} {p : Nat} {c : UInt8} (h : s.data.toList[p]? = some c) (hc : isSg c = true) : (wordP s p).size = 0 := by
  have hp : p < s.size := by simpa using (List.getElem?_eq_some_iff.1 h).1
  rw [(wordP_size (Nat.le_of_lt hp)).1, drop_some h]
  unfold wordL
  rw [List.takeWhile_cons, hc]
  simp
/-- What a value's reading shows of the word that stands there. -/
theorem rdV_word (s : ByteArray) (m j : Nat) (hj : j ≤ s.size) (h : (rdV s m j).2.1 = 0) :
    skipP s j < (rdV s m j).2.2 ∧ skipP s j + (wordP s (skipP s j)).size ≤ (rdV s m j).2.2 ∧ (wordP s (skipP s j) = w0 → (rdV s m j).2.2 = skipP s j + 1) := by
  cases m with
  | zero =>
    unfold rdV at h
    simp only at h
    split at h
    · exact absurd h (by decide)
    · exact absurd h (by decide)
  | succ m =>
    have hl := skipP_le hj
    have h0 : ¬ skipP s j = s.size := fun e => by rw [rdV, if_pos e] at h; exact absurd (show (5 : Int) = 0 from h) (by decide)
    have hfit := rdV_fits s (m + 1) (skipP s j) hl.2
    rw [(rdV_skip s m j).resolve_right h0] at hfit
    have hlt : skipP s j < (rdV s (m + 1) j).2.2 := by
      have := (hfit h).1
      have hc : 1 ≤ (rdV s (m + 1) j).1.cnt := by rw [cnt_eq]; omega
      omega
    refine ⟨hlt, ?_⟩
    have hpl : skipP s j < s.size := by omega
    have hg := rdAt_get hpl
    rw [rdV, if_neg h0] at h hlt ⊢
    generalize skipP s j = p at *
    have sign : isSg s[p] = true → p + (wordP s p).size ≤ (rdAt (rdV s m) s p).2.2 ∧ (wordP s p = w0 → (rdAt (rdV s m) s p).2.2 = p + 1) := fun hs => by
      have hz := word_sign hg hs
      refine ⟨by omega, fun e => ?_⟩
      rw [e] at hz
      exact absurd hz (by decide)
    by_cases hs : isSg s[p] = true
    · exact sign hs
    · have hb : isSg s[p] = false := by simpa using hs
      have ne : ∀ c : UInt8, isSg c = true → ¬ s.data.toList[p]? = some c := fun c hc e => by
        rw [hg] at e
        injection e with e
        rw [e] at hs; exact hs hc
      have e : rdAt (rdV s m) s p = otherV s p := by
        unfold rdAt
        rw [if_neg (ne 47 rfl), if_neg (ne 40 rfl), if_neg (ne 60 rfl), if_neg (ne 91 rfl), if_neg (by rw [hg]; simp [hb])]
      rw [e] at h ⊢
      unfold otherV at h ⊢
      rw [otherK_eq s p _ rfl] at h ⊢
      have hle := yWordLe (s := s) (k := p) (by omega)
      generalize wordP s p = W at *
      by_cases h1 : W = wNull
      · simp only [if_pos h1]; exact ⟨Nat.le_refl _, fun e => by rw [h1] at e; exact absurd (congrArg ByteArray.size e) (by decide)⟩
      · by_cases h2 : W = wTrue
        · simp only [if_neg h1, if_pos h2]; exact ⟨Nat.le_refl _, fun e => by rw [h2] at e; exact absurd (congrArg ByteArray.size e) (by decide)⟩
        · by_cases h3 : W = wFalse
          · simp only [if_neg h1, if_neg h2, if_pos h3]; exact ⟨Nat.le_refl _, fun e => by rw [h3] at e; exact absurd (congrArg ByteArray.size e) (by decide)⟩
          · by_cases h4 : objL W.data.toList ≠ 0 ∧ (refP s (p + W.size)).isSome = true
            · simp only [if_neg h1, if_neg h2, if_neg h3, if_pos h4]
              refine ⟨?_, fun e => ?_⟩
              · obtain ⟨x, hx⟩ := Option.isSome_iff_exists.1 h4.2
                rw [hx]
                show p + W.size ≤ x
                unfold refP at hx
                split at hx
                · split at hx
                  · injection hx with hx
                    have a1 := (skipP_le hle).1
                    have a2 : skipP s (p + W.size) + 1 ≤ skipP s (skipP s (p + W.size) + 1) := by unfold skipP; omega
                    omega
                  · cases hx
                · cases hx
              · rw [e] at h4; exact absurd rfl h4.1
            · simp only [if_neg h1, if_neg h2, if_neg h3, if_neg h4]
              exact ⟨Nat.le_refl _, fun e => by rw [e]; rfl⟩
section
variable {k : Nat} {s t : ByteArray}
/-- What may be looked at behind a number is the same. -/
theorem Upto.ref (h : Upto k s t) {z : Nat} (h1 : skipP s z < k) (h2 : skipP s z + (wordP s (skipP s z)).size ≤ k)
    (h3 : wordP s (skipP s z) = w0 → skipP s (skipP s z + 1) < k ∧ skipP s (skipP s z + 1) + (wordP s (skipP s (skipP s z + 1))).size ≤ k) : refP t z = refP s z := by
  unfold refP
  rw [h.skip h1, h.word (Nat.le_of_lt h1) h2]
  by_cases e : wordP s (skipP s z) = w0
  · obtain ⟨a, b⟩ := h3 e
    rw [if_pos e, if_pos e, h.skip a, h.word (Nat.le_of_lt a) b]
  · rw [if_neg e, if_neg e]
theorem Upto.refSome (h : Upto k s t) {z x : Nat} (hz : z ≤ s.size) (hr : refP s z = Option.some x) (hx : x ≤ k) : refP t z = Option.some x := by
  have q := hr
  unfold refP at q
  split at q
  · rename_i e1
    split at q
    · rename_i e2
      injection q with q
      have a1 := (skipP_le hz).2
      have b1 : w0.size = 1 := rfl
      have b2 : wR.size = 1 := rfl
      have c1 : skipP s z + 1 ≤ skipP s (skipP s z + 1) := by unfold skipP; omega
      rw [h.ref (z := z) (by omega) (by rw [e1]; omega) (fun _ => ⟨by omega, by rw [e2]; omega⟩)]
      exact hr
    · cases q
  · cases q
/-- The same is read in t. -/
def Loc (k : Nat) (s t : ByteArray) (f g : Nat → Rd) : Prop := ∀ j, j ≤ s.size → (f j).2.1 = 0 → (f j).2.2 ≤ k → ((f j).1.k = 2 → refP t (f j).2.2 = refP s (f j).2.2) → g j = f j
def Wrd (s : ByteArray) (f : Nat → Rd) : Prop := ∀ j, j ≤ s.size → (f j).2.1 = 0 → skipP s j < (f j).2.2 ∧ skipP s j + (wordP s (skipP s j)).size ≤ (f j).2.2 ∧ (wordP s (skipP s j) = w0 → (f j).2.2 = skipP s j + 1)
variable {f g : Nat → Rd}
/-- A list's reading, one step. -/
theorem rdL_one (hf : Fits s f) {m : Nat} {acc : List V} {j : Nat} (hj : j ≤ s.size) (h : (rdL f s m acc j).2.1 = 0) :
    ∃ m', m = m' + 1 ∧ skipP s j < s.size ∧ ((s.data.toList[skipP s j]? = some 93 ∧ rdL f s m acc j = (acc, 0, skipP s j + 1)) ∨
      (¬ s.data.toList[skipP s j]? = some 93 ∧ (f (skipP s j)).2.1 = 0 ∧ (f (skipP s j)).2.2 ≤ s.size ∧ acc.length + 1 ≤ 300 ∧ rdL f s m acc j = rdL f s m' (acc ++ [(f (skipP s j)).1]) (f (skipP s j)).2.2)) := by
  cases m with
  | zero => exact absurd (show (2 : Int) = 0 from h) (by decide)
  | succ m =>
    have hl := skipP_le hj
    have hes := endsR_one s j
    by_cases h0 : skipP s j = s.size
    · rw [if_pos h0] at hes
      rw [rdL_step hes, if_pos (by decide)] at h
      exact absurd (show (5 : Int) = 0 from h) (by decide)
    rw [if_neg h0] at hes
    refine ⟨m, rfl, by omega, ?_⟩
    by_cases h9 : s.data.toList[skipP s j]? = some 93
    · rw [if_pos h9] at hes
      exact .inl ⟨h9, by rw [rdL_step hes, if_neg (by simp), if_pos rfl]⟩
    · rw [if_neg h9] at hes
      rw [rdL_step hes] at h ⊢
      simp only [ne_eq, not_true_eq_false, if_false, Bool.false_eq_true] at h ⊢
      by_cases he : (f (skipP s j)).2.1 = 0
      · by_cases hm : 300 < acc.length + 1
        · simp only [he, not_true_eq_false, if_false, if_pos hm] at h; exact absurd (show (2 : Int) = 0 from h) (by decide)
        · exact .inr ⟨h9, he, (hf _ hl.2 he).2, by omega, by simp only [he, not_true_eq_false, if_false, if_neg hm]⟩
      · simp only [he, not_false_eq_true, if_true] at h
theorem rdL_mono (hf : Fits s f) : ∀ (m : Nat) (acc : List V) (j : Nat), j ≤ s.size → (rdL f s m acc j).2.1 = 0 → j ≤ (rdL f s m acc j).2.2
  | m, acc, j, hj, h => by
    obtain ⟨m', rfl, hlt, ⟨h9, e⟩ | ⟨h9, he, hle, _, e⟩⟩ := rdL_one hf hj h
    · rw [e]; have := (skipP_le hj).1; show j ≤ skipP s j + 1; omega
    · rw [e] at h ⊢
      have := rdL_mono hf m' _ _ hle h
      have h1 := (hf _ (skipP_le hj).2 he).1
      have h2 := (skipP_le hj).1
      omega
theorem rdL_tok1 (hf : Fits s f) (hw : Wrd s f) {m : Nat} {acc : List V} {z : Nat} (hz : z ≤ s.size) (h : (rdL f s m acc z).2.1 = 0) (hk : (rdL f s m acc z).2.2 ≤ k) :
    skipP s z < k ∧ skipP s z + (wordP s (skipP s z)).size ≤ k ∧ (wordP s (skipP s z) = w0 → ∃ m' acc', (rdL f s m' acc' (skipP s z + 1)).2.1 = 0 ∧ (rdL f s m' acc' (skipP s z + 1)).2.2 ≤ k ∧ skipP s z + 1 ≤ s.size) := by
  obtain ⟨m', rfl, hlt, ⟨h9, e⟩ | ⟨h9, he, hle, _, e⟩⟩ := rdL_one hf hz h
  · rw [e] at hk
    have hs := word_sign h9 rfl
    simp only at hk
    exact ⟨by omega, by omega, fun q => by rw [q] at hs; exact absurd hs (by decide)⟩
  · rw [e] at h hk
    have hl := skipP_le hz
    obtain ⟨w1, w2, w3⟩ := hw (skipP s z) hl.2 he
    rw [skip_idem] at w1 w2 w3
    have hge : (f (skipP s z)).2.2 ≤ (rdL f s m' (acc ++ [(f (skipP s z)).1]) (f (skipP s z)).2.2).2.2 := by
      have := rdL_mono hf m' (acc ++ [(f (skipP s z)).1]) _ hle h
      exact this
    refine ⟨by omega, by omega, fun q => ⟨m', acc ++ [(f (skipP s z)).1], ?_⟩⟩
    rw [← w3 q]
    exact ⟨h, hk, hle⟩
end
end Go.Proofs.YtddoigjjgcefkaaGreatDoor

/-
  Reading, plainly: what stands behind a value, parted by a blank, tells nothing: lists, dictionaries, values.
-/
namespace Go.Proofs.YtddoigjjgcefkaaGreatDoor
open Go.RowKit
set_option maxRecDepth 100000

section
variable {k : Nat} {s t : ByteArray} {f g : Nat → Rd}
theorem rdL_ref (h : Upto k s t) (hf : Fits s f) (hw : Wrd s f) {m : Nat} {acc : List V} {z : Nat} (hz : z ≤ s.size) (hr : (rdL f s m acc z).2.1 = 0) (hk : (rdL f s m acc z).2.2 ≤ k) : refP t z = refP s z := by
  obtain ⟨a, b, c⟩ := rdL_tok1 hf hw hz hr hk
  refine h.ref a b (fun e => ?_)
  obtain ⟨m', acc', h', hk', hz'⟩ := c e
  obtain ⟨a', b', _⟩ := rdL_tok1 hf hw hz' h' hk'
  exact ⟨a', b'⟩
theorem Upto.endsOne (h : Upto k s t) {j : Nat} (hp : skipP s j < k) : endsR t wEnd j = if s.data.toList[skipP s j]? = Option.some 93 then (0, true, skipP s j + 1) else (0, false, skipP s j) := by
  have := h.lt
  rw [endsR_one, h.skip hp, if_neg (by omega), h.get _ hp]
theorem rdL_loc (h : Upto k s t) (hf : Fits s f) (hw : Wrd s f) (hl : Loc k s t f g) : ∀ (m : Nat) (acc : List V) (j : Nat), j ≤ s.size → (rdL f s m acc j).2.1 = 0 → (rdL f s m acc j).2.2 ≤ k → rdL g t m acc j = rdL f s m acc j
  | m, acc, j, hj, hr, hk => by
    have hp := (rdL_tok1 hf hw hj hr hk).1
    have hes := h.endsOne hp
    obtain ⟨m', rfl, hlt, ⟨h9, e⟩ | ⟨h9, he, hle, hm, e⟩⟩ := rdL_one hf hj hr
    · rw [if_pos h9] at hes
      rw [e, rdL_step hes, if_neg (by simp), if_pos rfl]
    · rw [if_neg h9] at hes
      rw [e] at hr hk ⊢
      have hmn := rdL_mono hf m' _ _ hle hr
      have hg : g (skipP s j) = f (skipP s j) := hl _ (Nat.le_of_lt hlt) he (by omega) (fun _ => rdL_ref h hf hw hle hr hk)
      rw [rdL_step hes, hg]
      simp only [ne_eq, not_true_eq_false, if_false, Bool.false_eq_true, he]
      rw [if_neg (by omega)]
      exact rdL_loc h hf hw hl m' _ _ hle hr hk
theorem rdFd_inv {p : Nat} (h : (rdFd f s p).2.1 = 0) : ∃ b, s.data.toList[p]? = Option.some 47 ∧ nameR (wordP s (p + 1)).data.toList = Option.some b ∧ rdFd f s p = ((⟨b.toArray⟩, (f (p + 1 + (wordP s (p + 1)).size)).1), (f (p + 1 + (wordP s (p + 1)).size)).2.1, (f (p + 1 + (wordP s (p + 1)).size)).2.2) := by
  by_cases h47 : s.data.toList[p]? = Option.some 47
  · cases hr : nameR (wordP s (p + 1)).data.toList with
    | none => unfold rdFd at h; rw [if_pos h47, hr] at h; exact absurd (show (4 : Int) = 0 from h) (by decide)
    | some b => exact ⟨b, h47, rfl, by unfold rdFd; rw [if_pos h47, hr]⟩
  · unfold rdFd at h; rw [if_neg h47] at h; exact absurd (show (4 : Int) = 0 from h) (by decide)
theorem rdD_one (hf : Fits s f) {m : Nat} {acc : List (ByteArray × V)} {j : Nat} (hj : j ≤ s.size) (h : (rdD f s m acc j).2.1 = 0) :
    ∃ m', m = m' + 1 ∧ skipP s j < s.size ∧ (((s.data.toList[skipP s j]? = Option.some 62 ∧ s.data.toList[skipP s j + 1]? = Option.some 62) ∧ rdD f s m acc j = (acc, 0, skipP s j + 2)) ∨
      ((rdFd f s (skipP s j)).2.1 = 0 ∧ (rdFd f s (skipP s j)).2.2 ≤ s.size ∧ skipP s j < (rdFd f s (skipP s j)).2.2 ∧ (getF (rdFd f s (skipP s j)).1.1 acc).isSome = false ∧ acc.length + 1 ≤ 300 ∧
        rdD f s m acc j = rdD f s m' (rsetF (rdFd f s (skipP s j)).1.1 (rdFd f s (skipP s j)).1.2 acc false) (rdFd f s (skipP s j)).2.2)) := by
  cases m with
  | zero => exact absurd (show (2 : Int) = 0 from h) (by decide)
  | succ m =>
    have hl := skipP_le hj
    have hes := endsR_two s j
    by_cases h0 : skipP s j = s.size
    · rw [if_pos h0] at hes
      rw [rdD_step hes, if_pos (by decide)] at h
      exact absurd (show (5 : Int) = 0 from h) (by decide)
    rw [if_neg h0] at hes
    refine ⟨m, rfl, by omega, ?_⟩
    by_cases h9 : s.data.toList[skipP s j]? = Option.some 62 ∧ s.data.toList[skipP s j + 1]? = Option.some 62
    · rw [if_pos h9] at hes
      exact .inl ⟨h9, by rw [rdD_step hes, if_neg (by simp), if_pos rfl]⟩
    · rw [if_neg h9] at hes
      rw [rdD_step hes] at h ⊢
      simp only [ne_eq, not_true_eq_false, if_false, Bool.false_eq_true] at h ⊢
      by_cases he : (rdFd f s (skipP s j)).2.1 = 0
      · simp only [he, not_true_eq_false, if_false] at h ⊢
        cases hg : (getF (rdFd f s (skipP s j)).1.1 acc).isSome
        · rw [hg] at h
          simp only [Bool.false_eq_true, if_false] at h ⊢
          by_cases hm : 300 < acc.length + 1
          · rw [if_pos hm] at h; exact absurd (show (2 : Int) = 0 from h) (by decide)
          · have hft := rdFd_fits hf (by omega : skipP s j < s.size) he
            exact .inr ⟨trivial, hft.2, by omega, trivial, by omega, by rw [if_neg hm]⟩
        · rw [hg] at h
          exact absurd (show (3 : Int) = 0 from h) (by decide)
      · simp only [he, not_false_eq_true, if_true] at h
theorem rdD_mono (hf : Fits s f) : ∀ (m : Nat) (acc : List (ByteArray × V)) (j : Nat), j ≤ s.size → (rdD f s m acc j).2.1 = 0 → skipP s j + 1 ≤ (rdD f s m acc j).2.2
  | m, acc, j, hj, h => by
    obtain ⟨m', rfl, hlt, ⟨h9, e⟩ | ⟨he, hle, hgt, _, _, e⟩⟩ := rdD_one hf hj h
    · rw [e]; show skipP s j + 1 ≤ skipP s j + 2; omega
    · rw [e] at h ⊢
      have := rdD_mono hf m' _ _ hle h
      have h2 := (skipP_le hle).1
      omega
theorem rdD_tok (hf : Fits s f) {m : Nat} {acc : List (ByteArray × V)} {z : Nat} (hz : z ≤ s.size) (h : (rdD f s m acc z).2.1 = 0) (hk : (rdD f s m acc z).2.2 ≤ k) : skipP s z < k ∧ (wordP s (skipP s z)).size = 0 := by
  have hm := rdD_mono hf m acc z hz h
  refine ⟨by omega, ?_⟩
  obtain ⟨m', rfl, hlt, ⟨h9, e⟩ | ⟨he, _⟩⟩ := rdD_one hf hz h
  · exact word_sign h9.1 rfl
  · obtain ⟨b, h47, _⟩ := rdFd_inv he
    exact word_sign h47 rfl
theorem rdD_ref (h : Upto k s t) (hf : Fits s f) {m : Nat} {acc : List (ByteArray × V)} {z : Nat} (hz : z ≤ s.size) (hr : (rdD f s m acc z).2.1 = 0) (hk : (rdD f s m acc z).2.2 ≤ k) : refP t z = refP s z := by
  obtain ⟨a, b⟩ := rdD_tok hf hz hr hk
  exact h.ref a (by omega) (fun e => by rw [e] at b; exact absurd b (by decide))
set_option maxHeartbeats 1000000 in
theorem rdD_loc (h : Upto k s t) (hf : Fits s f) (hl : Loc k s t f g) : ∀ (m : Nat) (acc : List (ByteArray × V)) (j : Nat), j ≤ s.size → (rdD f s m acc j).2.1 = 0 → (rdD f s m acc j).2.2 ≤ k → rdD g t m acc j = rdD f s m acc j := by
  intro m
  induction m with
  | zero =>
    intro acc j hj hr
    obtain ⟨m', e, _⟩ := rdD_one hf hj hr
    cases e
  | succ m ih =>
    intro acc j hj hr hk
    have hp := (rdD_tok hf hj hr hk).1
    have htl := h.lt
    have hes := endsR_two t j
    rw [h.skip hp, if_neg (by omega), h.get _ hp] at hes
    obtain ⟨m', em, hlt, ⟨h9, e⟩ | ⟨he, hle, hgt, hg, hm, e⟩⟩ := rdD_one hf hj hr
    · rw [e] at hk
      simp only at hk
      rw [h.get _ (by omega), if_pos h9] at hes
      rw [e, rdD_step hes, if_neg (by simp), if_pos rfl]
    · obtain rfl : m = m' := by omega
      rw [e] at hr hk ⊢
      have hmn := rdD_mono hf _ _ _ hle hr
      have hsl := (skipP_le hle).1
      obtain ⟨b, h47, hnm, hfd⟩ := rdFd_inv he
      rw [if_neg (fun q => by rw [h47] at q; exact absurd q.1 (by decide))] at hes
      have hwl := yWordLe (s := s) (k := skipP s j + 1) (by omega)
      have he' := he
      rw [hfd] at he'
      simp only at he'
      have hq := (hf _ hwl he').1
      have hend : (f (skipP s j + 1 + (wordP s (skipP s j + 1)).size)).2.2 = (rdFd f s (skipP s j)).2.2 := by rw [hfd]
      have hgq : g (skipP s j + 1 + (wordP s (skipP s j + 1)).size) = f (skipP s j + 1 + (wordP s (skipP s j + 1)).size) := hl _ hwl he' (by omega) (fun _ => by rw [hend]; exact rdD_ref h hf hle hr hk)
      have hwt : wordP t (skipP s j + 1) = wordP s (skipP s j + 1) := h.word (by omega) (by omega)
      have hft : rdFd g t (skipP s j) = rdFd f s (skipP s j) := by
        rw [hfd]
        unfold rdFd
        rw [h.get _ hp, if_pos h47, hwt, hnm]
        simp only
        rw [hgq]
      rw [rdD_step hes, hft]
      simp only [ne_eq, not_true_eq_false, if_false, Bool.false_eq_true, he, hg]
      rw [if_neg (by omega)]
      exact ih _ _ hle hr hk
end
theorem rdV_wrd (s : ByteArray) (m : Nat) : Wrd s (rdV s m) := fun j hj h => rdV_word s m j hj h
/-- The same is read of both texts. -/
theorem rdV_loc {k : Nat} {s t : ByteArray} (h : Upto k s t) : ∀ m, Loc k s t (rdV s m) (rdV t m)
  | 0 => fun j hj he => by
    exfalso
    unfold rdV at he
    simp only at he
    split at he
    · exact absurd he (by decide)
    · exact absurd he (by decide)
  | m + 1 => fun j hj he hk hrf => by
    have ih := rdV_loc h m
    have hl := skipP_le hj
    have htl := h.lt
    have h0 : ¬ skipP s j = s.size := fun e => by rw [rdV, if_pos e] at he; exact absurd (show (5 : Int) = 0 from he) (by decide)
    have hw := rdV_word s (m + 1) j hj he
    have hp : skipP s j < k := by omega
    have hpl : skipP s j < s.size := by omega
    rw [rdV, h.skip hp, if_neg (by omega)]
    rw [rdV, if_neg h0] at he hk hrf hw ⊢
    generalize skipP s j = p at *
    have hgs := rdAt_get hpl
    have hgt : t.data.toList[p]? = s.data.toList[p]? := h.get p hp
    unfold rdAt at he hk hrf hw ⊢
    rw [hgt]
    by_cases h47 : s.data.toList[p]? = some 47
    · simp only [if_pos h47] at he hk hrf hw ⊢
      unfold nameV at he hk ⊢
      cases hr : nameR (wordP s (p + 1)).data.toList with
      | none => rw [hr] at he; exact absurd (show (4 : Int) = 0 from he) (by decide)
      | some b =>
        rw [hr] at hk
        simp only at hk
        rw [h.word (by omega) (by omega), hr]
    simp only [if_neg h47] at he hk hrf hw ⊢
    by_cases h40 : s.data.toList[p]? = some 40
    · simp only [if_pos h40] at he hk hrf hw ⊢
      unfold litV at he hk ⊢
      have he0 := (textR_zero he).1
      unfold litT at he0 hk ⊢
      have e := litF_loc _ _ 1 [] (p + 1) he0 (t.data.toList.drop (p + 1)).length (t.data.toList.drop (p + 1)) (Nat.le_refl _) (fun i hi => by
        rw [List.getElem?_drop, List.getElem?_drop]
        exact h.get _ (by simp only at hk; omega))
      rw [e]
    simp only [if_neg h40] at he hk hrf hw ⊢
    by_cases h60 : s.data.toList[p]? = some 60
    · simp only [if_pos h60] at he hk hrf hw ⊢
      by_cases h6 : s.data.toList[p + 1]? = some 60
      · simp only [if_pos h6] at he hk hrf hw ⊢
        have h6l : p + 1 < s.size := by simpa using (List.getElem?_eq_some_iff.1 h6).1
        unfold dictV at he hk ⊢
        have hmn := rdD_mono (rdV_fits s m) 302 [] (p + 2) (by omega) he
        have hs2 := (skipP_le (s := s) (k := p + 2) (by omega)).1
        simp only at hk
        rw [h.get (p + 1) (by omega), if_pos h6, rdD_loc h (rdV_fits s m) ih 302 [] (p + 2) (by omega) he hk]
      · simp only [if_neg h6] at he hk hrf hw ⊢
        unfold hexW at he hk ⊢
        have he0 := (textR_zero he).1
        have hfit := hexTk_fits _ _ _ _ he0
        simp only at hk
        have e := hexTk_loc _ none [] (p + 1) he0 (t.data.toList.drop (p + 1)) (fun i hi => by
          rw [List.getElem?_drop, List.getElem?_drop]
          exact h.get _ (by omega))
        rw [h.get (p + 1) (by omega), if_neg h6, e]
    simp only [if_neg h60] at he hk hrf hw ⊢
    by_cases h91 : s.data.toList[p]? = some 91
    · simp only [if_pos h91] at he hk hrf hw ⊢
      unfold listV at he hk ⊢
      simp only at hk
      rw [rdL_loc h (rdV_fits s m) (rdV_wrd s m) ih 302 [] (p + 1) (by omega) he hk]
    simp only [if_neg h91] at he hk hrf hw ⊢
    by_cases hsg : (s.data.toList[p]?).map isSg = some true
    · simp only [if_pos hsg] at he; exact absurd (show (4 : Int) = 0 from he) (by decide)
    simp only [if_neg hsg] at he hk hrf hw ⊢
    unfold otherV at he hk hrf hw ⊢
    have hle := yWordLe (s := s) (k := p) (by omega)
    rw [otherK_eq t p _ (h.word (Nat.le_of_lt hp) (by omega)), otherK_eq s p _ rfl]
    rw [otherK_eq s p _ rfl] at he hk hrf
    generalize wordP s p = W at *
    by_cases h1 : W = wNull
    · simp only [if_pos h1]
    · by_cases h2 : W = wTrue
      · simp only [if_neg h1, if_pos h2]
      · by_cases h3 : W = wFalse
        · simp only [if_neg h1, if_neg h2, if_pos h3]
        · simp only [if_neg h1, if_neg h2, if_neg h3] at he hk hrf ⊢
          by_cases h4 : objL W.data.toList ≠ 0 ∧ (refP s (p + W.size)).isSome = true
          · simp only [if_pos h4] at hk
            obtain ⟨x, hx⟩ := Option.isSome_iff_exists.1 h4.2
            rw [hx] at hk
            rw [h.refSome hle hx (by simpa using hk), hx]
          · simp only [if_neg h4] at hrf
            rw [hrf rfl]
end Go.Proofs.YtddoigjjgcefkaaGreatDoor
