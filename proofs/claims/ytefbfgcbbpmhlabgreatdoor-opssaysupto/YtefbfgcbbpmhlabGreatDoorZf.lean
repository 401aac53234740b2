/-
  Joined: Ze, Zf.
-/
import Derived.Test.YtefbfgcbbpmhlabGreatDoorZb

/-
  Reading, the document's answer: lists.
-/
namespace Go.Proofs.YtefbfgcbbpmhlabGreatDoor
open Go.RowKit
set_option maxRecDepth 100000

/-- What a call of the answer's that reads a value says. -/
def SaidR (w : World) (d : Nat) (r : Rd) (e : Ending) (w' : World) : Prop :=
  ∃ (k n : Int) (t : ByteArray) (a1 a2 : Option Addr) (l1 c1 l2 c2 J : Nat), e = .returned (.tuple #[.agg #[.int .i64 k, .int .i64 n, .string t, .slice a1 l1 c1, .slice a2 l2 c2], .int .i64 (J : Nat), .int .i64 r.2.1]) ∧ Below w.heap.size w w' ∧
    Hid (r.2.1 = 0 → J = r.2.2 ∧ RepIn (fun b => w.heap.size ≤ b ∧ b < w'.heap.size) d w' r.1 [.int .i64 k, .int .i64 n, .string t, .slice a1 l1 c1, .slice a2 l2 c2])
/-- A list that the answer is reading: its result's block, the list's block, its row, the values. -/
structure RowA (w wr : World) (d : Nat) (t : Value) (O : List VC) : Prop where
  below : Below w.heap.size w wr
  box : At wr w.heap.size 26 (vc 0 0 ⟨#[]⟩)
  vbox : At wr (w.heap.size + 1) 26 #[.int .i64 5, .int .i64 0, .string ⟨#[]⟩, t, .slice none 0 0]
  own : wr.ownsRow (w.heap.size + 2) 26 5 t O.length (flatV O)
  reps : ∀ o ∈ O, RepIn (Room (w.heap.size + 2) wr t) d wr o.1 o.2
theorem RowA.size {w a : World} {d : Nat} {t : Value} {O : List VC} (h : RowA w a d t O) : w.heap.size + 2 ≤ a.heap.size := At.lt h.vbox
theorem RowA.later {w a b : World} {d : Nat} {t : Value} {O : List VC} (h : RowA w a d t O) (m : Below a.heap.size a b) : RowA w b d t O := by
  have hs := h.size
  refine ⟨h.below.trans (m.mono (by omega)), At.later h.box m, At.later h.vbox m, ?_, fun o ho => ?_⟩
  · refine World.ownsRow.kept h.own (row := none) ⟨m.os, m.tape, m.output, m.size, fun k hk _ => m.block k hk⟩ ?_
    cases hv : t.ownBlock with
    | none => exact .inl rfl
    | some g => exact .inr (by simp)
  · exact ((h.reps o ho).agree m.size fun b hb => m.block b hb.2.1).mono fun b hb => ⟨hb.1, Nat.lt_of_lt_of_le hb.2.1 m.size, hb.2.2⟩
theorem RowA.grow {w a b : World} {d : Nat} {t t' : Value} {O : List VC} {x : V} {c : List Value} {o1 o2 : Obj} {w2 : World} (h : RowA w a d t O) (m : Below a.heap.size a b)
    (hx : RepIn (fun g => a.heap.size ≤ g ∧ g < b.heap.size) d b x c) (hown : w2.ownsRow (w.heap.size + 2) 26 5 t' (O.length + 1) (flatV O ++ c)) (hg : ((b.alloc o1).alloc o2).grownBy w2 t.ownBlock)
    (hat : t'.ownBlock = t.ownBlock ∨ t'.ownBlock = some ((b.alloc o1).alloc o2).heap.size) : RowA w (w2.setCell ⟨w.heap.size + 1, 3, none⟩ t') d t' (O ++ [(x, c)]) := by
  have hb := h.later m
  have hbs := hb.size
  have has := h.size
  have hsz := hg.size
  have hsz2 : b.heap.size + 2 ≤ w2.heap.size := by simp at hsz; omega
  have same : ∀ k, k < b.heap.size → some k ≠ t.ownBlock → w2.heap[k]? = b.heap[k]? := fun k hk hne => by
    rw [hg.block k (by simp; omega) hne, heap_alloc_old _ _ (by simp; omega), heap_alloc_old _ _ hk]
  have low : ∀ k, k < w.heap.size + 2 → some k ≠ t.ownBlock := fun k hk e => by
    have := (hb.own.lt k e.symm).1; omega
  have hW : Below w.heap.size w w2 := ⟨hg.os.trans hb.below.os, hg.tape.trans hb.below.tape, hg.output.trans hb.below.output, by omega, fun k hk => by
    rw [same k (by omega) (low k (by omega))]; exact hb.below.block k hk⟩
  have sz : (w2.setCell ⟨w.heap.size + 1, 3, none⟩ t').heap.size = w2.heap.size := by simp [World.setCell]
  have oth : ∀ k, k ≠ w.heap.size + 1 → (w2.setCell ⟨w.heap.size + 1, 3, none⟩ t').heap[k]? = w2.heap[k]? := fun k hk => Below.heap_setCell _ _ _ _ hk
  refine ⟨hW.setCell (p := ⟨w.heap.size + 1, 3, none⟩) (by simp) _, ?_, ?_, ?_, ?_⟩
  · exact (oth _ (by omega)).trans ((same _ (by omega) (low _ (by omega))).trans hb.box)
  · have hv : At w2 (w.heap.size + 1) 26 #[.int .i64 5, .int .i64 0, .string ⟨#[]⟩, t, .slice none 0 0] := (same _ (by omega) (low _ (by omega))).trans hb.vbox
    exact heap_setCell_same w2 _ 3 _ _ t' hv
  · rw [List.length_append, flatV_append, flatV_one]
    refine World.ownsRow.kept hown (row := some (w.heap.size + 1)) ⟨rfl, rfl, rfl, by rw [sz]; exact Nat.le_refl _, fun k hk hne => oth k (fun e => hne (by rw [e]))⟩ ?_
    cases hv : t'.ownBlock with
    | none => exact .inl rfl
    | some g => exact .inr (fun e => by cases e; have := (hown.lt _ hv).1; omega)
  · intro o ho
    have new : ∀ k, k < b.heap.size → some k ≠ t.ownBlock → some k ≠ t'.ownBlock := fun k hk hne => by
      rcases hat with e | e
      · rw [e]; exact hne
      · rw [e]; intro e'; injection e' with e'; simp at e'; omega
    rcases List.mem_append.1 ho with ho | ho
    · refine ((hb.reps o ho).agree (by rw [sz]; omega) fun k hk => ?_).mono fun k hk => ⟨hk.1, by rw [sz]; have := hk.2.1; omega, new k hk.2.1 hk.2.2⟩
      rw [oth k (by have := hk.1; omega)]; exact same k hk.2.1 hk.2.2
    · rw [List.mem_singleton.1 ho]
      have apart : ∀ k, a.heap.size ≤ k → some k ≠ t.ownBlock := fun k hk e => by have := (h.own.lt k e.symm).2; omega
      refine (hx.agree (by rw [sz]; omega) fun k hk => ?_).mono fun k hk => ⟨by have := hk.1; omega, by rw [sz]; have := hk.2; omega, new k hk.2 (apart k hk.1)⟩
      rw [oth k (by have := hk.1; omega)]; exact same k hk.2 (apart k hk.1)
theorem RowA.rep {w a : World} {d : Nat} {t : Value} {O : List VC} (h : RowA w a d t O) (hl : O.length ≤ 1000) :
    RepIn (fun b => w.heap.size + 2 ≤ b ∧ b < a.heap.size) (d + 1) a ⟨5, 0, eB, O.map (·.1), []⟩ [.int .i64 5, .int .i64 0, .string eB, t, .slice none 0 0] :=
  repIn_list h.own h.reps hl (fun _ hb => ⟨hb.1, hb.2.1⟩) (fun g hg => h.own.lt g hg)
theorem RowA.fill {w a : World} {d : Nat} {t : Value} {O : List VC} (h : RowA w a d t O) (hl : O.length ≤ 1000) (v0 v1 v2 v3 v4 : Value) {wf : World} (hf : wf = set5 a w.heap.size v0 v1 v2 v3 v4) :
    Below w.heap.size w wf ∧ At wf w.heap.size 26 #[v0, v1, v2, v3, v4] ∧ RepIn (fun b => w.heap.size ≤ b ∧ b < wf.heap.size) (d + 1) wf ⟨5, 0, eB, O.map (·.1), []⟩ [.int .i64 5, .int .i64 0, .string eB, t, .slice none 0 0] := by
  subst hf
  refine ⟨below_set5 h.below (Nat.le_refl _) _ _ _ _ _, At.five h.box _ _ _ _ _, ?_⟩
  refine ((h.rep hl).agree (by rw [set5_size]; exact Nat.le_refl _) fun b hb => set5_other _ _ _ _ _ _ _ (by have := hb.1; omega)).mono fun b hb => ⟨by have := hb.1; omega, by rw [set5_size]; exact hb.2⟩
theorem RowA.cells {w a : World} {d : Nat} {t : Value} {O : List VC} (h : RowA w a d t O) :
    (a.cell? ⟨w.heap.size + 1, 0, none⟩ = some (.int .i64 5) ∧ a.cell? ⟨w.heap.size + 1, 1, none⟩ = some (.int .i64 0) ∧ a.cell? ⟨w.heap.size + 1, 2, none⟩ = some (.string ⟨#[]⟩) ∧ a.cell? ⟨w.heap.size + 1, 3, none⟩ = some t ∧ a.cell? ⟨w.heap.size + 1, 4, none⟩ = some (.slice none 0 0)) ∧ a.frozen? ⟨w.heap.size + 1, 3, none⟩ = false :=
  ⟨⟨At.cell h.vbox 0, At.cell h.vbox 1, At.cell h.vbox 2, At.cell h.vbox 3, At.cell h.vbox 4⟩, At.free h.vbox 3⟩
theorem RowA.vkept {w b w2 : World} {d : Nat} {t : Value} {O : List VC} {o1 o2 : Obj} (h : RowA w b d t O) (hg : ((b.alloc o1).alloc o2).grownBy w2 t.ownBlock) :
    At w2 (w.heap.size + 1) 26 #[.int .i64 5, .int .i64 0, .string ⟨#[]⟩, t, .slice none 0 0] ∧ At w2 w.heap.size 26 (vc 0 0 ⟨#[]⟩) := by
  have hs := h.size
  have same : ∀ k, k < w.heap.size + 2 → w2.heap[k]? = b.heap[k]? := fun k hk => by
    rw [hg.block k (by simp; omega) (fun e => by have := (h.own.lt k e.symm).1; omega), heap_alloc_old _ _ (by simp; omega), heap_alloc_old _ _ (by omega)]
  exact ⟨(same _ (by omega)).trans h.vbox, (same _ (by omega)).trans h.box⟩
/-- An end of a list, in the answer's words. -/
theorem endsR_one (s : ByteArray) (j : Nat) : endsR s wEnd j = if skipP s j = s.size then (5, false, s.size) else if s.data.toList[skipP s j]? = some 93 then (0, true, skipP s j + 1) else (0, false, skipP s j) := by
  unfold endsR
  by_cases h : skipP s j = s.size
  · rw [if_pos h, if_pos h]
  · rw [if_neg h, if_neg h]
    have hb : Lib.hasPrefix (s.data.toList.drop (skipP s j)) wEnd.data.toList = decide (s.data.toList[skipP s j]? = some 93) := by
      by_cases hl : skipP s j < s.size
      · have := ahB_one (c := 93) hl
        unfold ahB at this
        rw [show wEnd.data.toList = (⟨#[93]⟩ : ByteArray).data.toList from rfl, this, rdAt_get hl]
        simp
      · rw [List.drop_eq_nil_of_le (by simp; omega), show s.data.toList[skipP s j]? = none by rw [List.getElem?_eq_none_iff]; simp; omega]
        rfl
    rw [hb]
    by_cases h9 : s.data.toList[skipP s j]? = some 93
    · rw [decide_eq_true h9, if_pos rfl, if_pos h9]; rfl
    · rw [decide_eq_false h9, if_neg (by simp), if_neg h9]
end Go.Proofs.YtefbfgcbbpmhlabGreatDoor

/-
  Reading, the document's answer: lists, whole.
-/
namespace Go.Proofs.YtefbfgcbbpmhlabGreatDoor
open Go.RowKit
set_option maxRecDepth 100000

set_option maxHeartbeats 8000000 in
theorem rList (s : ByteArray) (k d : Nat) (deep : Int) (f : Nat → Rd) (w : World) (hk : k ≤ s.size) (hs : s.size ≤ 100000) (hd : 0 ≤ deep ∧ deep ≤ 8) (hfit : Fits s f) (hnn : ∀ j, 0 ≤ (f j).2.1)
    (hval : ∀ (w : World) (j : Nat), j ≤ s.size → Calls Tryz.prog 131 #[.string s, .int .i64 j, .int .i64 (deep + 1)] w (SaidR w d (f j))) :
    Calls Tryz.prog 189 #[.string s, .int .i64 k, .int .i64 deep] w (SaidR w (d + 1) (⟨5, 0, eB, (rdL f s 302 [] k).1, []⟩, (rdL f s 302 [] k).2.1, (rdL f s 302 [] k).2.2)) := by
  obtain ⟨iV, hiV, hv0, hv1, hv2⟩ := info_parts infoV
  have hml : s.size ≤ maxLen := by unfold maxLen; omega
  obtain ⟨R, hRR⟩ : ∃ R, rdL f s 302 [] k = R := ⟨_, rfl⟩
  rw [hRR]
  have HR0 := hid hRR
  clear hRR
  have HV := hid hval
  have HF := hid (And.intro hfit hnn)
  clear hval hfit hnn
  go_enter Tryz.func189, Tryz.ntmps189
  go_wp2
  go_loopw [1] (fun av wr => ∃ (j : Nat) (t : Value) (O : List VC), av = .int .i64 j ∧ j ≤ s.size ∧ O.length ≤ 300 ∧ Hid (rdL f s (302 - O.length) (O.map (·.1)) j = R) ∧ RowA w wr d t O) (fun _ wr => 302 - lenAt (w.heap.size + 1) wr)
  case atStart =>
    refine ⟨k, .slice none 0 0, [], rfl, hk, by simp, hid HR0.out, ?_, ?_, ?_, World.ownsRow_nil _ _ _ _, by simp⟩
    · exact (below_box w _).alloc (by simp) _
    · exact (At.new _ _ _ rfl).alloc _
    · exact At.new _ _ _ (by simp)
  case round =>
    clear HR0
    obtain ⟨j, t, O, rfl, hj, hO, HT, hW⟩ := hrel
    have hWs := hW.size
    obtain ⟨a, c, rfl⟩ := own_slice5 hW.own
    obtain ⟨⟨bx0, bx1, bx2, bx3, bx4⟩, fx0, fx1, fx2, fx3, fx4⟩ := five_cells hW.box
    obtain ⟨⟨vx0, vx1, vx2, vx3, vx4⟩, fv⟩ := hW.cells
    have hes := endsR_one s j
    have hpl := (skipP_le hj).2
    have e1 : skipP s (place s (j : Int)) = skipP s j := by rw [place_in hj]
    generalize skipP s j = p at *
    by_cases hend : p = s.size
    · rw [if_pos hend] at hes
      have HRN := hid (show ([], 5, j) = R by rw [← HT.out, show 302 - O.length = 302 - O.length - 1 + 1 by omega, rdL_step hes, if_pos (by decide)])
      have hend' : (p : Int) = s.size := by omega
      clear hend hes HT
      go_wp2_with ((go_at_call 78; refine (rSkip s _ _ hml).mono ?_; rintro e w1 ⟨rfl, rfl⟩))
      obtain ⟨hM5, hB5, hP5⟩ := hW.fill (by omega) (.int .i64 5) (.int .i64 0) (.string ⟨#[]⟩) (.slice a O.length c) (.slice none 0 0) rfl
      unfold set5 at hM5 hB5 hP5
      generalize World.setCell _ _ _ = wf at hM5 hB5 hP5 ⊢
      obtain ⟨⟨cx0, cx1, cx2, cx3, cx4⟩, _⟩ := five_cells hB5
      refine bodyPost_ret (v := .tuple #[.agg #[.int .i64 5, .int .i64 0, .string ⟨#[]⟩, .slice a O.length c, .slice none 0 0], .int .i64 0, .int .i64 5]) (by simp [results, Tryz.results189, go_sem, cx0, cx1, cx2, cx3, cx4]; try first | exact ⟨rfl, rfl⟩ | rfl) rfl ?_
      rw [← HRN.out]
      exact ⟨5, 0, ⟨#[]⟩, a, none, _, c, 0, 0, 0, rfl, hM5, hid (fun h => absurd (show (5 : Int) = 0 from h) (by decide))⟩
    rw [if_neg hend] at hes
    have hlt : p < s.size := by omega
    have hlt' : (p : Int) < s.size := by omega
    have hend' : ¬ (p : Int) = s.size := by omega
    have hend2 : ((p : Int) == (s.size : Int)) = false := by simpa using hend'
    rw [rdAt_get hlt] at hes
    by_cases h93 : s[p] = 93
    · rw [if_pos (by rw [h93])] at hes
      have HRN := hid (show (O.map (·.1), 0, p + 1) = R by rw [← HT.out, show 302 - O.length = 302 - O.length - 1 + 1 by omega, rdL_step hes, if_neg (by simp), if_pos rfl])
      have q93 : (s[p].toNat : Int) = 93 := by rw [h93]; rfl
      clear h93 hes HT hend
      go_wp2_with ((go_at_call 78; refine (rSkip s _ _ hml).mono ?_; rintro e w1 ⟨rfl, rfl⟩))
      obtain ⟨hM5, hB5, hP5⟩ := hW.fill (by omega) (.int .i64 5) (.int .i64 0) (.string ⟨#[]⟩) (.slice a O.length c) (.slice none 0 0) rfl
      unfold set5 at hM5 hB5 hP5
      generalize World.setCell _ _ _ = wf at hM5 hB5 hP5 ⊢
      obtain ⟨⟨cx0, cx1, cx2, cx3, cx4⟩, _⟩ := five_cells hB5
      refine bodyPost_ret (v := .tuple #[.agg #[.int .i64 5, .int .i64 0, .string ⟨#[]⟩, .slice a O.length c, .slice none 0 0], .int .i64 ((p : Int) + 1), .int .i64 0]) (by simp [results, Tryz.results189, go_sem, cx0, cx1, cx2, cx3, cx4]; try first | exact ⟨rfl, rfl⟩ | rfl) rfl ?_
      rw [← HRN.out]
      exact ⟨5, 0, ⟨#[]⟩, a, none, _, c, 0, 0, p + 1, by simp, hM5, hid (fun _ => ⟨rfl, hP5⟩)⟩
    rw [if_neg (by simpa using h93)] at hes
    have q93 : ((s[p].toNat : Int) == 93) = false := ne_u8 (k := 93) (by omega) h93
    have HU := hid (show (if (f p).2.1 ≠ 0 then ([], (f p).2.1, j) else if 300 < (O.map (·.1)).length + 1 then ([], 2, j) else rdL f s (302 - O.length - 1) (O.map (·.1) ++ [(f p).1]) (f p).2.2) = R by
      have h := HT.out; rw [show 302 - O.length = 302 - O.length - 1 + 1 by omega, rdL_step hes, if_neg (by simp), if_neg (by simp)] at h; exact h)
    clear hes HT h93 hend
    have hv := fun (w : World) => HV.out w p hpl
    have hff := HF.out.1 p hpl
    have hn0 := HF.out.2 p
    generalize f p = r at hv HU hff hn0
    obtain ⟨x, e2, z1⟩ := r
    unfold SaidR at hv
    simp only at hv hff hn0
    have HFF := hid hff
    clear hff
    by_cases he : e2 = 0
    · subst he
      have HZ := hid (HFF.out rfl).2
      by_cases hmany : O.length + 1 ≤ 300
      · have hm' : ¬ ((300 : Int) < (O.length : Int) + 1) := by omega
        have HRN := hid (show rdL f s (302 - O.length - 1) (O.map (·.1) ++ [x]) z1 = R by have h := HU.out; rw [if_neg (by simp), if_neg (by simp; omega)] at h; exact h)
        clear HU
        go_wp2_with (first | (go_at_call 78; refine (rSkip s _ _ hml).mono ?_; rintro e w1 ⟨rfl, rfl⟩) | (go_at_call 131; go_must (refine (hv _).mono ?_); rintro e w2 ⟨k1, n1, t1, a1, a2, l1, c1, l2, c2, J, rfl, hb2, HQ⟩; (have hW2 := hW.later hb2); (have hz2 := hW2.size); (have hWa := hW2.later (below_box w2 (.cells #[.int .i64 k1, .int .i64 n1, .string t1, .slice a1 l1 c1, .slice a2 l2 c2] 26))); obtain ⟨⟨by0, by1, by2, by3, by4⟩, fy0, fy1, fy2, fy3, fy4⟩ := five_cells hW2.box; obtain ⟨⟨vy0, vy1, vy2, vy3, vy4⟩, fvy⟩ := hW2.cells; obtain ⟨⟨ba0, ba1, ba2, ba3, ba4⟩, fa0, fa1, fa2, fa3, fa4⟩ := five_cells hWa.box; obtain ⟨⟨va0, va1, va2, va3, va4⟩, fva⟩ := hWa.cells) | (at_builtin; refine wpList_append_own_at _ rfl (.tmp 43) (.tmp 45) 23 rfl (w.heap.size + 2) 26 iV _ 5 80 Tryz.underlying23 hiV hv0 hv1 hv2 rfl (by decide) _ _ _ rfl ((hW2.own.alloc _).alloc _) ⟨w2.heap.size + 1, 0, none⟩ 1 1 [.int .i64 k1, .int .i64 n1, .string t1, .slice a1 l1 c1, .slice a2 l2 c2] rfl rfl (fun i u hi => news_at2 rfl i u hi) (by simp [Value.oneCell']) (by unfold maxLen; omega) (by omega) (by simp; omega) ?_; intro v' w3 hown3 hg3 _ hat3; obtain ⟨a', c', rfl⟩ := own_slice5 hown3; obtain ⟨hJ, hRep⟩ := HQ.out (by first | trivial | rfl); (have HY := hid (hW.grow hb2 hRep hown3 hg3 hat3)); obtain ⟨hA1, hA2⟩ := hW2.vkept hg3; obtain ⟨⟨bz0, bz1, bz2, bz3, bz4⟩, fz0, fz1, fz2, fz3, fz4⟩ := five_cells hA2; obtain ⟨⟨vz0, vz1, vz2, vz3, vz4⟩, gz0, gz1, gz2, gz3, gz4⟩ := five_cells hA1; clear hown3 hg3 hat3))
        refine ⟨⟨z1, _, _, rfl, HZ.out, by simp; omega, hid ?_, HY.out⟩, ?_⟩
        · have h := HRN.out
          rw [List.length_append, List.length_singleton, List.map_append, show 302 - (O.length + 1) = 302 - O.length - 1 by omega]
          exact h
        · rw [lenAt_at HY.out.vbox, lenAt_at hW.vbox]; omega
      · have hm' : (300 : Int) < (O.length : Int) + 1 := by omega
        have HRN := hid (show ([], 2, j) = R by have h := HU.out; rw [if_neg (by simp), if_pos (by simp; omega)] at h; exact h)
        clear HU
        go_wp2_with (first | (go_at_call 78; refine (rSkip s _ _ hml).mono ?_; rintro e w1 ⟨rfl, rfl⟩) | (go_at_call 131; go_must (refine (hv _).mono ?_); rintro e w2 ⟨k1, n1, t1, a1, a2, l1, c1, l2, c2, J, rfl, hb2, HQ⟩; (have hW2 := hW.later hb2); (have hz2 := hW2.size); (have hWa := hW2.later (below_box w2 (.cells #[.int .i64 k1, .int .i64 n1, .string t1, .slice a1 l1 c1, .slice a2 l2 c2] 26))); obtain ⟨⟨by0, by1, by2, by3, by4⟩, fy0, fy1, fy2, fy3, fy4⟩ := five_cells hW2.box; obtain ⟨⟨vy0, vy1, vy2, vy3, vy4⟩, fvy⟩ := hW2.cells; obtain ⟨⟨ba0, ba1, ba2, ba3, ba4⟩, fa0, fa1, fa2, fa3, fa4⟩ := five_cells hWa.box; obtain ⟨⟨va0, va1, va2, va3, va4⟩, fva⟩ := hWa.cells) | (at_builtin; refine wpList_append_own_at _ rfl (.tmp 43) (.tmp 45) 23 rfl (w.heap.size + 2) 26 iV _ 5 80 Tryz.underlying23 hiV hv0 hv1 hv2 rfl (by decide) _ _ _ rfl ((hW2.own.alloc _).alloc _) ⟨w2.heap.size + 1, 0, none⟩ 1 1 [.int .i64 k1, .int .i64 n1, .string t1, .slice a1 l1 c1, .slice a2 l2 c2] rfl rfl (fun i u hi => news_at2 rfl i u hi) (by simp [Value.oneCell']) (by unfold maxLen; omega) (by omega) (by simp; omega) ?_; intro v' w3 hown3 hg3 _ hat3; obtain ⟨a', c', rfl⟩ := own_slice5 hown3; obtain ⟨hJ, hRep⟩ := HQ.out (by first | trivial | rfl); (have HY := hid (hW.grow hb2 hRep hown3 hg3 hat3)); obtain ⟨hA1, hA2⟩ := hW2.vkept hg3; obtain ⟨⟨bz0, bz1, bz2, bz3, bz4⟩, fz0, fz1, fz2, fz3, fz4⟩ := five_cells hA2; obtain ⟨⟨vz0, vz1, vz2, vz3, vz4⟩, gz0, gz1, gz2, gz3, gz4⟩ := five_cells hA1; clear hown3 hg3 hat3))
        obtain ⟨hM5, hB5, hP5⟩ := HY.out.fill (by simp; omega) (.int .i64 5) (.int .i64 0) (.string ⟨#[]⟩) (.slice a' (O.length + 1) c') (.slice none 0 0) rfl
        unfold set5 at hM5 hB5 hP5
        generalize World.setCell _ _ _ = wf at hM5 hB5 hP5 ⊢
        obtain ⟨⟨cx0, cx1, cx2, cx3, cx4⟩, _⟩ := five_cells hB5
        refine bodyPost_ret (v := .tuple #[.agg #[.int .i64 5, .int .i64 0, .string ⟨#[]⟩, .slice a' (O.length + 1) c', .slice none 0 0], .int .i64 0, .int .i64 2]) (by simp [results, Tryz.results189, go_sem, cx0, cx1, cx2, cx3, cx4]; try first | exact ⟨rfl, rfl⟩ | rfl) rfl ?_
        rw [← HRN.out]
        exact ⟨5, 0, ⟨#[]⟩, a', none, _, c', 0, 0, 0, rfl, hM5, hid (fun h => absurd (show (2 : Int) = 0 from h) (by decide))⟩
    · have he' : (0 : Int) < e2 := by omega
      have HRN := hid (show ([], e2, j) = R by rw [← HU.out, if_pos he])
      have HX := hid he
      clear HU he
      go_wp2_with (first | (go_at_call 78; refine (rSkip s _ _ hml).mono ?_; rintro e w1 ⟨rfl, rfl⟩) | (go_at_call 131; go_must (refine (hv _).mono ?_); rintro e w2 ⟨k1, n1, t1, a1, a2, l1, c1, l2, c2, J, rfl, hb2, HQ⟩; (have hW2 := hW.later hb2); (have hz2 := hW2.size); (have hWa := hW2.later (below_box w2 (.cells #[.int .i64 k1, .int .i64 n1, .string t1, .slice a1 l1 c1, .slice a2 l2 c2] 26))); obtain ⟨⟨by0, by1, by2, by3, by4⟩, fy0, fy1, fy2, fy3, fy4⟩ := five_cells hW2.box; obtain ⟨⟨vy0, vy1, vy2, vy3, vy4⟩, fvy⟩ := hW2.cells; obtain ⟨⟨ba0, ba1, ba2, ba3, ba4⟩, fa0, fa1, fa2, fa3, fa4⟩ := five_cells hWa.box; obtain ⟨⟨va0, va1, va2, va3, va4⟩, fva⟩ := hWa.cells))
      obtain ⟨hM5, hB5, hP5⟩ := hWa.fill (by omega) (.int .i64 5) (.int .i64 0) (.string ⟨#[]⟩) (.slice a O.length c) (.slice none 0 0) rfl
      unfold set5 at hM5 hB5 hP5
      generalize World.setCell _ _ _ = wf at hM5 hB5 hP5 ⊢
      obtain ⟨⟨cx0, cx1, cx2, cx3, cx4⟩, _⟩ := five_cells hB5
      refine bodyPost_ret (v := .tuple #[.agg #[.int .i64 5, .int .i64 0, .string ⟨#[]⟩, .slice a O.length c, .slice none 0 0], .int .i64 0, .int .i64 e2]) (by simp [results, Tryz.results189, go_sem, cx0, cx1, cx2, cx3, cx4]; try first | exact ⟨rfl, rfl⟩ | rfl) rfl ?_
      rw [← HRN.out]
      exact ⟨5, 0, ⟨#[]⟩, a, none, _, c, 0, 0, 0, rfl, hM5, hid (fun h => absurd h HX.out)⟩
end Go.Proofs.YtefbfgcbbpmhlabGreatDoor
