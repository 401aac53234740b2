/-
  Joined: Zi, Zj, Zc.
-/
import Derived.Test.YtddoigjjgcefkaaGreatDoorRf
import Derived.Test.YtddoigjjgcefkaaGreatDoorPi
import Derived.Test.YtddoigjjgcefkaaGreatDoorZb

/-
  Reading, the document's answer: a value, case by case.
-/
namespace Go.Proofs.YtddoigjjgcefkaaGreatDoor
open Go.RowKit
set_option maxRecDepth 100000

/-- The answer's own block, still empty. -/
structure BoxA (w a : World) : Prop where
  below : Below w.heap.size w a
  box : At a w.heap.size 26 (vc 0 0 ⟨#[]⟩)
theorem BoxA.new (w : World) : BoxA w (w.alloc (.cells (vc 0 0 ⟨#[]⟩) 26)) := ⟨below_box _ _, At.new _ _ _ rfl⟩
theorem BoxA.later {w a b : World} (h : BoxA w a) (hb : Below a.heap.size a b) : BoxA w b := ⟨h.below.trans (hb.mono h.below.size), At.later h.box hb⟩
theorem BoxA.fill {w a : World} (h : BoxA w a) (k n : Int) (t : ByteArray) :
    let wf := ((((a.setCell ⟨w.heap.size, 0, none⟩ (.int .i64 k)).setCell ⟨w.heap.size, 1, none⟩ (.int .i64 n)).setCell ⟨w.heap.size, 2, none⟩ (.string t)).setCell ⟨w.heap.size, 3, none⟩ (.slice none 0 0)).setCell ⟨w.heap.size, 4, none⟩ (.slice none 0 0)
    Below w.heap.size w wf ∧ At wf w.heap.size 26 (vc k n t) :=
  ⟨below_set5 h.below (Nat.le_refl _) _ _ _ _ _, h.box.vc5 k n t⟩
theorem BoxA.fill5 {w a : World} (h : BoxA w a) (v0 v1 v2 v3 v4 : Value) {wf : World} (hf : wf = set5 a w.heap.size v0 v1 v2 v3 v4) :
    Below w.heap.size w wf ∧ At wf w.heap.size 26 #[v0, v1, v2, v3, v4] ∧ wf.heap.size = a.heap.size ∧ ∀ k, k ≠ w.heap.size → wf.heap[k]? = a.heap[k]? := by
  subst hf
  exact ⟨below_set5 h.below (Nat.le_refl _) _ _ _ _ _, At.five h.box _ _ _ _ _, set5_size _ _ _ _ _ _ _, fun k hk => set5_other _ _ _ _ _ _ _ hk⟩
set_option maxHeartbeats 4000000 in
theorem rvEnd (s : ByteArray) (j d : Nat) (deep : Int) (v : V) (z : Nat) (w : World) (hj : j ≤ s.size) (hs : s.size ≤ 100000) (hp : skipP s j = s.size) :
    Calls Tryz.prog 24 #[.string s, .int .i64 j, .int .i64 deep] w (SaidR w d (v, 5, z)) := by
  have hml : s.size ≤ maxLen := by unfold maxLen; omega
  have e1 : skipP s (place s (j : Int)) = s.size := by rw [place_in hj, hp]
  have hX := BoxA.new w
  clear hX
  go_enter Tryz.func24, Tryz.ntmps24
  go_wp2_with ((go_at_call 12; refine (rSkip s _ _ hml).mono ?_; rintro e w1 ⟨rfl, rfl⟩))
  refine bodyPost_ret (v := .tuple #[.agg (vc 0 0 ⟨#[]⟩), .int .i64 0, .int .i64 5]) (by simp [results, Tryz.results24, go_sem]; try first | exact ⟨rfl, rfl⟩ | rfl) rfl ?_
  exact ⟨0, 0, ⟨#[]⟩, none, none, 0, 0, 0, 0, 0, rfl, below_box _ _, hid (fun h => absurd (show (5 : Int) = 0 from h) (by decide))⟩
set_option maxHeartbeats 4000000 in
theorem rvDeep (s : ByteArray) (j d : Nat) (deep : Int) (v : V) (z : Nat) (w : World) (hj : j ≤ s.size) (hs : s.size ≤ 100000) (hp : ¬ skipP s j = s.size) (hd : 8 < deep) :
    Calls Tryz.prog 24 #[.string s, .int .i64 j, .int .i64 deep] w (SaidR w d (v, 2, z)) := by
  have hml : s.size ≤ maxLen := by unfold maxLen; omega
  have hle := (skipP_le hj).2
  have e1 : skipP s (place s (j : Int)) = skipP s j := by rw [place_in hj]
  generalize skipP s j = p at *
  have hend' : ¬ (p : Int) = s.size := by omega
  have hend2 : ((p : Int) == (s.size : Int)) = false := by simpa using hend'
  have hX := BoxA.new w
  clear hX
  go_enter Tryz.func24, Tryz.ntmps24
  go_wp2_with ((go_at_call 12; refine (rSkip s _ _ hml).mono ?_; rintro e w1 ⟨rfl, rfl⟩))
  refine bodyPost_ret (v := .tuple #[.agg (vc 0 0 ⟨#[]⟩), .int .i64 0, .int .i64 2]) (by simp [results, Tryz.results24, go_sem]; try first | exact ⟨rfl, rfl⟩ | rfl) rfl ?_
  exact ⟨0, 0, ⟨#[]⟩, none, none, 0, 0, 0, 0, 0, rfl, below_box _ _, hid (fun h => absurd (show (2 : Int) = 0 from h) (by decide))⟩
set_option maxHeartbeats 4000000 in
theorem rvName (s : ByteArray) (j p d : Nat) (deep : Int) (w : World) (hj : j ≤ s.size) (hs : s.size ≤ 100000) (hd : 0 ≤ deep ∧ deep ≤ 8) (hp : skipP s j = p) (hpl : p < s.size) (h47 : s[p] = 47) :
    Calls Tryz.prog 24 #[.string s, .int .i64 j, .int .i64 deep] w (SaidR w (d + 1) (nameV s p)) := by
  have hml : s.size ≤ maxLen := by unfold maxLen; omega
  have e1 : skipP s (place s (j : Int)) = p := by rw [place_in hj, hp]
  have hk1 : (p : Int) < (s.size : Int) := by omega
  have hend' : ¬ (p : Int) = s.size := by omega
  have hend2 : ((p : Int) == (s.size : Int)) = false := by simpa using hend'
  have hd8 : ¬ (8 : Int) < deep := by omega
  have hX := BoxA.new w
  have hc := s[p].toNat_lt
  clear hp
  have q47 : (s[p].toNat : Int) = 47 := by rw [h47]; rfl
  have hn := fun (w : World) => rReadName s p w hpl hs
  clear h47
  unfold nameV
  unfold rName at hn
  generalize wordP s (p + 1) = W at hn ⊢
  cases hr : nameR W.data.toList with
  | none =>
    rw [hr] at hn
    simp only at hn ⊢
    clear hr
    go_enter Tryz.func24, Tryz.ntmps24
    go_wp2_with (first | (go_at_call 12; refine (rSkip s _ _ hml).mono ?_; rintro e w1 ⟨rfl, rfl⟩) | (go_at_call 46; go_must (refine (hn _).mono ?_); rintro e wc ⟨rfl, hbc⟩; (replace hX := hX.later hbc); obtain ⟨⟨bx0, bx1, bx2, bx3, bx4⟩, bf0, bf1, bf2, bf3, bf4⟩ := box5 hX.box))
    obtain ⟨hM5, hB5⟩ := hX.fill 4 0 eB
    generalize World.setCell _ _ _ = wf at hB5 hM5 ⊢
    obtain ⟨⟨cx0, cx1, cx2, cx3, cx4⟩, _⟩ := box5 hB5
    refine bodyPost_ret (v := .tuple #[.agg (vc 4 0 eB), .int .i64 0, .int .i64 4]) (by simp [results, Tryz.results24, go_sem, cx0, cx1, cx2, cx3, cx4]; try first | exact ⟨rfl, rfl⟩ | rfl) rfl ?_
    exact ⟨4, 0, eB, none, none, 0, 0, 0, 0, 0, rfl, hM5, hid (fun h => absurd (show (4 : Int) = 0 from h) (by decide))⟩
  | some b =>
    have HBS := hid (show (⟨b.toArray⟩ : ByteArray).size ≤ maxLen from by
      have h1 : (nameL W.data.toList).bind (fun b => if nmOk ⟨b.toArray⟩ then some b else none) = some b := hr
      cases hl : nameL W.data.toList with
      | none => rw [hl] at h1; cases h1
      | some c =>
        rw [hl] at h1
        simp only [Option.bind_some] at h1
        split at h1
        · rename_i hm; cases h1; have := nmOk_size hm; unfold maxLen; omega
        · cases h1)
    rw [hr] at hn
    simp only at hn ⊢
    clear hr
    generalize p + 1 + W.size = J at hn ⊢
    go_enter Tryz.func24, Tryz.ntmps24
    go_wp2_with (first | (go_at_call 12; refine (rSkip s _ _ hml).mono ?_; rintro e w1 ⟨rfl, rfl⟩) | (go_at_call 46; go_must (refine (hn _).mono ?_); rintro e wc ⟨rfl, hbc⟩; (replace hX := hX.later hbc); obtain ⟨⟨bx0, bx1, bx2, bx3, bx4⟩, bf0, bf1, bf2, bf3, bf4⟩ := box5 hX.box))
    obtain ⟨hM5, hB5⟩ := hX.fill 4 0 ⟨b.toArray⟩
    generalize World.setCell _ _ _ = wf at hB5 hM5 ⊢
    obtain ⟨⟨cx0, cx1, cx2, cx3, cx4⟩, _⟩ := box5 hB5
    refine bodyPost_ret (v := .tuple #[.agg (vc 4 0 ⟨b.toArray⟩), .int .i64 (J : Nat), .int .i64 0]) (by simp [results, Tryz.results24, go_sem, cx0, cx1, cx2, cx3, cx4]; try first | exact ⟨rfl, rfl⟩ | rfl) rfl ?_
    exact ⟨4, 0, _, none, none, 0, 0, 0, 0, J, rfl, hM5, hid (fun _ => ⟨rfl, repIn_vc _ _ _ _ _ _ HBS.out⟩)⟩
set_option maxHeartbeats 4000000 in
theorem rvHex (s : ByteArray) (j p d : Nat) (deep : Int) (w : World) (hj : j ≤ s.size) (hs : s.size ≤ 100000) (hd : 0 ≤ deep ∧ deep ≤ 8) (hp : skipP s j = p) (hpl : p < s.size) (h47 : ¬ s[p] = 47) (h40 : ¬ s[p] = 40) (h60 : s[p] = 60) (h6 : ¬ s.data.toList[p + 1]? = some 60) :
    Calls Tryz.prog 24 #[.string s, .int .i64 j, .int .i64 deep] w (SaidR w (d + 1) (hexW s p)) := by
  have hml : s.size ≤ maxLen := by unfold maxLen; omega
  have e1 : skipP s (place s (j : Int)) = p := by rw [place_in hj, hp]
  have hk1 : (p : Int) < (s.size : Int) := by omega
  have hend' : ¬ (p : Int) = s.size := by omega
  have hend2 : ((p : Int) == (s.size : Int)) = false := by simpa using hend'
  have hd8 : ¬ (8 : Int) < deep := by omega
  have hX := BoxA.new w
  have hc := s[p].toNat_lt
  clear hp
  have q47 : ((s[p].toNat : Int) == 47) = false := ne_u8 (k := 47) (by omega) h47
  have q40 : ((s[p].toNat : Int) == 40) = false := ne_u8 (k := 40) (by omega) h40
  have q60 : (s[p].toNat : Int) = 60 := by rw [h60]; rfl
  have hn := fun (w : World) => show Calls Tryz.prog 49 #[.string s, .int .i64 ((p : Int) + 1)] w _ from rUnhex s (p + 1) w (by omega) hs
  unfold hexW
  generalize hexTk (s.data.toList.drop (p + 1)) none [] (p + 1) = r at hn ⊢
  obtain ⟨e0, xs, z⟩ := r
  simp only at hn ⊢
  have hnx : ¬ (p : Int) + 1 < s.size ∨ (∃ h : p + 1 < s.size, (p : Int) + 1 < s.size ∧ ((s[p + 1].toNat : Int) == 60) = false) := by
    by_cases hl : p + 1 < s.size
    · exact .inr ⟨hl, by omega, ne_u8 (k := 60) (by omega) (fun e => h6 (by rw [rdAt_get hl, e]; rfl))⟩
    · exact .inl (by omega)
  clear h6
  obtain ⟨M, hM⟩ : ∃ M, textR e0 xs = M := ⟨_, rfl⟩
  rw [hM]
  have HM := hid hM
  clear hM
  have h3 : (¬ e0 = 0) ∨ (e0 = 0 ∧ (200 : Int) < xs.length) ∨ (e0 = 0 ∧ ¬ (200 : Int) < xs.length) := by omega
  rcases hnx with hl | ⟨hl0, hl, q6⟩
  all_goals rcases h3 with h3 | ⟨rfl, h3⟩ | ⟨rfl, h3⟩
  · have HM2 := hid (show e0 = M by rw [← HM.out]; unfold textR; rw [if_pos h3])
    have HX := hid h3
    have h3' : (e0 == 0) = false := by simpa using h3
    go_enter Tryz.func24, Tryz.ntmps24
    go_wp2_with (first | (go_at_call 12; refine (rSkip s _ _ hml).mono ?_; rintro e w1 ⟨rfl, rfl⟩) | (go_at_call 49; go_must (refine (hn _).mono ?_); rintro e wc ⟨rfl, hbc⟩; (replace hX := hX.later hbc); obtain ⟨⟨bx0, bx1, bx2, bx3, bx4⟩, bf0, bf1, bf2, bf3, bf4⟩ := box5 hX.box))
    obtain ⟨hM5, hB5⟩ := hX.fill 3 0 ⟨xs.toArray⟩
    generalize World.setCell _ _ _ = wf at hB5 hM5 ⊢
    obtain ⟨⟨cx0, cx1, cx2, cx3, cx4⟩, _⟩ := box5 hB5
    refine bodyPost_ret (v := .tuple #[.agg (vc 3 0 ⟨xs.toArray⟩), .int .i64 (z : Nat), .int .i64 e0]) (by simp [results, Tryz.results24, go_sem, cx0, cx1, cx2, cx3, cx4]; try first | exact ⟨rfl, rfl⟩ | rfl) rfl ?_
    exact ⟨3, 0, ⟨xs.toArray⟩, none, none, 0, 0, 0, 0, z, by rw [← HM2.out]; rfl, hM5, hid (fun h => absurd (HM2.out.trans h) HX.out)⟩
  · have HM2 := hid (show 2 = M by rw [← HM.out]; unfold textR; rw [if_neg (by simp), if_pos (by omega)])
    go_enter Tryz.func24, Tryz.ntmps24
    go_wp2_with (first | (go_at_call 12; refine (rSkip s _ _ hml).mono ?_; rintro e w1 ⟨rfl, rfl⟩) | (go_at_call 49; go_must (refine (hn _).mono ?_); rintro e wc ⟨rfl, hbc⟩; (replace hX := hX.later hbc); obtain ⟨⟨bx0, bx1, bx2, bx3, bx4⟩, bf0, bf1, bf2, bf3, bf4⟩ := box5 hX.box))
    obtain ⟨hM5, hB5⟩ := hX.fill 3 0 ⟨xs.toArray⟩
    generalize World.setCell _ _ _ = wf at hB5 hM5 ⊢
    obtain ⟨⟨cx0, cx1, cx2, cx3, cx4⟩, _⟩ := box5 hB5
    refine bodyPost_ret (v := .tuple #[.agg (vc 3 0 ⟨xs.toArray⟩), .int .i64 (z : Nat), .int .i64 2]) (by simp [results, Tryz.results24, go_sem, cx0, cx1, cx2, cx3, cx4]; try first | exact ⟨rfl, rfl⟩ | rfl) rfl ?_
    exact ⟨3, 0, ⟨xs.toArray⟩, none, none, 0, 0, 0, 0, z, by rw [← HM2.out]; rfl, hM5, hid (fun h => absurd (HM2.out.trans h) (by decide))⟩
  · have HM2 := hid (show 0 = M by rw [← HM.out]; unfold textR; rw [if_neg (by simp), if_neg (by omega)])
    go_enter Tryz.func24, Tryz.ntmps24
    go_wp2_with (first | (go_at_call 12; refine (rSkip s _ _ hml).mono ?_; rintro e w1 ⟨rfl, rfl⟩) | (go_at_call 49; go_must (refine (hn _).mono ?_); rintro e wc ⟨rfl, hbc⟩; (replace hX := hX.later hbc); obtain ⟨⟨bx0, bx1, bx2, bx3, bx4⟩, bf0, bf1, bf2, bf3, bf4⟩ := box5 hX.box))
    obtain ⟨hM5, hB5⟩ := hX.fill 3 0 ⟨xs.toArray⟩
    generalize World.setCell _ _ _ = wf at hB5 hM5 ⊢
    obtain ⟨⟨cx0, cx1, cx2, cx3, cx4⟩, _⟩ := box5 hB5
    refine bodyPost_ret (v := .tuple #[.agg (vc 3 0 ⟨xs.toArray⟩), .int .i64 (z : Nat), .int .i64 0]) (by simp [results, Tryz.results24, go_sem, cx0, cx1, cx2, cx3, cx4]; try first | exact ⟨rfl, rfl⟩ | rfl) rfl ?_
    exact ⟨3, 0, ⟨xs.toArray⟩, none, none, 0, 0, 0, 0, z, by rw [← HM2.out]; rfl, hM5, hid (fun _ => ⟨rfl, repIn_vc _ _ _ _ _ _ (by unfold maxLen; show xs.toArray.size ≤ _; simp; omega)⟩)⟩
  · have HM2 := hid (show e0 = M by rw [← HM.out]; unfold textR; rw [if_pos h3])
    have HX := hid h3
    have h3' : (e0 == 0) = false := by simpa using h3
    go_enter Tryz.func24, Tryz.ntmps24
    go_wp2_with (first | (go_at_call 12; refine (rSkip s _ _ hml).mono ?_; rintro e w1 ⟨rfl, rfl⟩) | (go_at_call 49; go_must (refine (hn _).mono ?_); rintro e wc ⟨rfl, hbc⟩; (replace hX := hX.later hbc); obtain ⟨⟨bx0, bx1, bx2, bx3, bx4⟩, bf0, bf1, bf2, bf3, bf4⟩ := box5 hX.box))
    obtain ⟨hM5, hB5⟩ := hX.fill 3 0 ⟨xs.toArray⟩
    generalize World.setCell _ _ _ = wf at hB5 hM5 ⊢
    obtain ⟨⟨cx0, cx1, cx2, cx3, cx4⟩, _⟩ := box5 hB5
    refine bodyPost_ret (v := .tuple #[.agg (vc 3 0 ⟨xs.toArray⟩), .int .i64 (z : Nat), .int .i64 e0]) (by simp [results, Tryz.results24, go_sem, cx0, cx1, cx2, cx3, cx4]; try first | exact ⟨rfl, rfl⟩ | rfl) rfl ?_
    exact ⟨3, 0, ⟨xs.toArray⟩, none, none, 0, 0, 0, 0, z, by rw [← HM2.out]; rfl, hM5, hid (fun h => absurd (HM2.out.trans h) HX.out)⟩
  · have HM2 := hid (show 2 = M by rw [← HM.out]; unfold textR; rw [if_neg (by simp), if_pos (by omega)])
    go_enter Tryz.func24, Tryz.ntmps24
    go_wp2_with (first | (go_at_call 12; refine (rSkip s _ _ hml).mono ?_; rintro e w1 ⟨rfl, rfl⟩) | (go_at_call 49; go_must (refine (hn _).mono ?_); rintro e wc ⟨rfl, hbc⟩; (replace hX := hX.later hbc); obtain ⟨⟨bx0, bx1, bx2, bx3, bx4⟩, bf0, bf1, bf2, bf3, bf4⟩ := box5 hX.box))
    obtain ⟨hM5, hB5⟩ := hX.fill 3 0 ⟨xs.toArray⟩
    generalize World.setCell _ _ _ = wf at hB5 hM5 ⊢
    obtain ⟨⟨cx0, cx1, cx2, cx3, cx4⟩, _⟩ := box5 hB5
    refine bodyPost_ret (v := .tuple #[.agg (vc 3 0 ⟨xs.toArray⟩), .int .i64 (z : Nat), .int .i64 2]) (by simp [results, Tryz.results24, go_sem, cx0, cx1, cx2, cx3, cx4]; try first | exact ⟨rfl, rfl⟩ | rfl) rfl ?_
    exact ⟨3, 0, ⟨xs.toArray⟩, none, none, 0, 0, 0, 0, z, by rw [← HM2.out]; rfl, hM5, hid (fun h => absurd (HM2.out.trans h) (by decide))⟩
  · have HM2 := hid (show 0 = M by rw [← HM.out]; unfold textR; rw [if_neg (by simp), if_neg (by omega)])
    go_enter Tryz.func24, Tryz.ntmps24
    go_wp2_with (first | (go_at_call 12; refine (rSkip s _ _ hml).mono ?_; rintro e w1 ⟨rfl, rfl⟩) | (go_at_call 49; go_must (refine (hn _).mono ?_); rintro e wc ⟨rfl, hbc⟩; (replace hX := hX.later hbc); obtain ⟨⟨bx0, bx1, bx2, bx3, bx4⟩, bf0, bf1, bf2, bf3, bf4⟩ := box5 hX.box))
    obtain ⟨hM5, hB5⟩ := hX.fill 3 0 ⟨xs.toArray⟩
    generalize World.setCell _ _ _ = wf at hB5 hM5 ⊢
    obtain ⟨⟨cx0, cx1, cx2, cx3, cx4⟩, _⟩ := box5 hB5
    refine bodyPost_ret (v := .tuple #[.agg (vc 3 0 ⟨xs.toArray⟩), .int .i64 (z : Nat), .int .i64 0]) (by simp [results, Tryz.results24, go_sem, cx0, cx1, cx2, cx3, cx4]; try first | exact ⟨rfl, rfl⟩ | rfl) rfl ?_
    exact ⟨3, 0, ⟨xs.toArray⟩, none, none, 0, 0, 0, 0, z, by rw [← HM2.out]; rfl, hM5, hid (fun _ => ⟨rfl, repIn_vc _ _ _ _ _ _ (by unfold maxLen; show xs.toArray.size ≤ _; simp; omega)⟩)⟩
set_option maxHeartbeats 4000000 in
theorem rvList (s : ByteArray) (j p d : Nat) (deep : Int) (w : World) (hj : j ≤ s.size) (hs : s.size ≤ 100000) (hd : 0 ≤ deep ∧ deep ≤ 8) (hp : skipP s j = p) (hpl : p < s.size) (h47 : ¬ s[p] = 47) (h40 : ¬ s[p] = 40) (h60 : ¬ s[p] = 60) (h91 : s[p] = 91) (f : Nat → Rd) (hfit : Fits s f) (hnn : ∀ j, 0 ≤ (f j).2.1)
    (hval : ∀ (w : World) (j : Nat), j ≤ s.size → Calls Tryz.prog 24 #[.string s, .int .i64 j, .int .i64 (deep + 1)] w (SaidR w d (f j))) :
    Calls Tryz.prog 24 #[.string s, .int .i64 j, .int .i64 deep] w (SaidR w (d + 1) (listV f s p)) := by
  have hml : s.size ≤ maxLen := by unfold maxLen; omega
  have e1 : skipP s (place s (j : Int)) = p := by rw [place_in hj, hp]
  have hk1 : (p : Int) < (s.size : Int) := by omega
  have hend' : ¬ (p : Int) = s.size := by omega
  have hend2 : ((p : Int) == (s.size : Int)) = false := by simpa using hend'
  have hd8 : ¬ (8 : Int) < deep := by omega
  have hX := BoxA.new w
  have hc := s[p].toNat_lt
  clear hp
  have q47 : ((s[p].toNat : Int) == 47) = false := ne_u8 (k := 47) (by omega) h47
  have q40 : ((s[p].toNat : Int) == 40) = false := ne_u8 (k := 40) (by omega) h40
  have q60 : ((s[p].toNat : Int) == 60) = false := ne_u8 (k := 60) (by omega) h60
  have q91 : (s[p].toNat : Int) = 91 := by rw [h91]; rfl
  have hn := fun (w : World) => show Calls Tryz.prog 50 #[.string s, .int .i64 ((p : Int) + 1), .int .i64 deep] w _ from rList s (p + 1) d deep f w (by omega) hs hd hfit hnn hval
  clear hval hfit hnn
  unfold listV
  generalize rdL f s 302 [] (p + 1) = r at hn ⊢
  obtain ⟨r1, e0, z1⟩ := r
  unfold SaidR at hn
  simp only at hn ⊢
  go_enter Tryz.func24, Tryz.ntmps24
  go_wp2_with (first | (go_at_call 12; refine (rSkip s _ _ hml).mono ?_; rintro e w1 ⟨rfl, rfl⟩) | (go_at_call 50; go_must (refine (hn _).mono ?_); rintro e wc ⟨k1, n1, t1, a1, a2, l1, c1, l2, c2, J, rfl, hbc, HQ⟩; (have HLX := hid (At.lt hX.box)); (replace hX := hX.later hbc); obtain ⟨⟨bx0, bx1, bx2, bx3, bx4⟩, bf0, bf1, bf2, bf3, bf4⟩ := box5 hX.box))
  obtain ⟨hM5, hB5, hS5, hO5⟩ := hX.fill5 (.int .i64 k1) (.int .i64 n1) (.string t1) (.slice a1 l1 c1) (.slice a2 l2 c2) rfl
  unfold set5 at hM5 hB5 hS5 hO5
  generalize World.setCell _ _ _ = wf at hM5 hB5 hS5 hO5 ⊢
  obtain ⟨⟨cx0, cx1, cx2, cx3, cx4⟩, _⟩ := five_cells hB5
  refine bodyPost_ret (v := .tuple #[.agg #[.int .i64 k1, .int .i64 n1, .string t1, .slice a1 l1 c1, .slice a2 l2 c2], .int .i64 (J : Nat), .int .i64 e0]) (by simp [results, Tryz.results24, go_sem, cx0, cx1, cx2, cx3, cx4]; try first | exact ⟨rfl, rfl⟩ | rfl) rfl ?_
  refine ⟨k1, n1, t1, a1, a2, l1, c1, l2, c2, J, rfl, hM5, hid (fun h => ?_)⟩
  obtain ⟨q1, q3⟩ := HQ.out h
  exact ⟨q1, repIn_boxed hS5 hO5 HLX.out q3⟩
set_option maxHeartbeats 4000000 in
theorem rvDict (s : ByteArray) (j p d : Nat) (deep : Int) (w : World) (hj : j ≤ s.size) (hs : s.size ≤ 100000) (hd : 0 ≤ deep ∧ deep ≤ 8) (hp : skipP s j = p) (hpl : p < s.size) (h47 : ¬ s[p] = 47) (h40 : ¬ s[p] = 40) (h60 : s[p] = 60) (h6 : s.data.toList[p + 1]? = some 60) (f : Nat → Rd) (hfit : Fits s f) (hnn : ∀ j, 0 ≤ (f j).2.1)
    (hval : ∀ (w : World) (j : Nat), j ≤ s.size → Calls Tryz.prog 24 #[.string s, .int .i64 j, .int .i64 (deep + 1)] w (SaidR w d (f j))) :
    Calls Tryz.prog 24 #[.string s, .int .i64 j, .int .i64 deep] w (SaidR w (d + 1) (dictV f s p)) := by
  have hml : s.size ≤ maxLen := by unfold maxLen; omega
  have e1 : skipP s (place s (j : Int)) = p := by rw [place_in hj, hp]
  have hk1 : (p : Int) < (s.size : Int) := by omega
  have hend' : ¬ (p : Int) = s.size := by omega
  have hend2 : ((p : Int) == (s.size : Int)) = false := by simpa using hend'
  have hd8 : ¬ (8 : Int) < deep := by omega
  have hX := BoxA.new w
  have hc := s[p].toNat_lt
  clear hp
  have q47 : ((s[p].toNat : Int) == 47) = false := ne_u8 (k := 47) (by omega) h47
  have q40 : ((s[p].toNat : Int) == 40) = false := ne_u8 (k := 40) (by omega) h40
  have q60 : (s[p].toNat : Int) = 60 := by rw [h60]; rfl
  have hl2 : p + 1 < s.size := by simpa using (List.getElem?_eq_some_iff.1 h6).1
  have hl2' : (p : Int) + 1 < s.size := by omega
  have q6 : (s[p + 1].toNat : Int) = 60 := by
    have := rdAt_get hl2
    rw [h6] at this
    injection this with this
    rw [← this]; rfl
  have hn := fun (w : World) => show Calls Tryz.prog 48 #[.string s, .int .i64 ((p : Int) + 2), .int .i64 deep] w _ from rDict s (p + 2) d deep f w (by omega) hs hd hfit hnn hval
  clear hval hfit hnn
  unfold dictV
  generalize rdD f s 302 [] (p + 2) = r at hn ⊢
  obtain ⟨r1, e0, z1⟩ := r
  unfold SaidR at hn
  simp only at hn ⊢
  go_enter Tryz.func24, Tryz.ntmps24
  go_wp2_with (first | (go_at_call 12; refine (rSkip s _ _ hml).mono ?_; rintro e w1 ⟨rfl, rfl⟩) | (go_at_call 48; go_must (refine (hn _).mono ?_); rintro e wc ⟨k1, n1, t1, a1, a2, l1, c1, l2, c2, J, rfl, hbc, HQ⟩; (have HLX := hid (At.lt hX.box)); (replace hX := hX.later hbc); obtain ⟨⟨bx0, bx1, bx2, bx3, bx4⟩, bf0, bf1, bf2, bf3, bf4⟩ := box5 hX.box))
  obtain ⟨hM5, hB5, hS5, hO5⟩ := hX.fill5 (.int .i64 k1) (.int .i64 n1) (.string t1) (.slice a1 l1 c1) (.slice a2 l2 c2) rfl
  unfold set5 at hM5 hB5 hS5 hO5
  generalize World.setCell _ _ _ = wf at hM5 hB5 hS5 hO5 ⊢
  obtain ⟨⟨cx0, cx1, cx2, cx3, cx4⟩, _⟩ := five_cells hB5
  refine bodyPost_ret (v := .tuple #[.agg #[.int .i64 k1, .int .i64 n1, .string t1, .slice a1 l1 c1, .slice a2 l2 c2], .int .i64 (J : Nat), .int .i64 e0]) (by simp [results, Tryz.results24, go_sem, cx0, cx1, cx2, cx3, cx4]; try first | exact ⟨rfl, rfl⟩ | rfl) rfl ?_
  refine ⟨k1, n1, t1, a1, a2, l1, c1, l2, c2, J, rfl, hM5, hid (fun h => ?_)⟩
  obtain ⟨q1, q3⟩ := HQ.out h
  exact ⟨q1, repIn_boxed hS5 hO5 HLX.out q3⟩
end Go.Proofs.YtddoigjjgcefkaaGreatDoor

/-
  Reading, the document's answer: words.
-/
namespace Go.Proofs.YtddoigjjgcefkaaGreatDoor
open Go.RowKit
set_option maxRecDepth 100000

set_option maxHeartbeats 4000000 in
theorem rvSign (s : ByteArray) (j p d : Nat) (deep : Int) (w : World) (hj : j ≤ s.size) (hs : s.size ≤ 100000) (hd : 0 ≤ deep ∧ deep ≤ 8) (hp : skipP s j = p) (hpl : p < s.size) (h47 : ¬ s[p] = 47) (h40 : ¬ s[p] = 40) (h60 : ¬ s[p] = 60) (h91 : ¬ s[p] = 91) (hsn : isSg s[p] = true) :
    Calls Tryz.prog 24 #[.string s, .int .i64 j, .int .i64 deep] w (SaidR w (d + 1) (V0 0 0 eB, 4, p)) := by
  have hml : s.size ≤ maxLen := by unfold maxLen; omega
  have e1 : skipP s (place s (j : Int)) = p := by rw [place_in hj, hp]
  have hk1 : (p : Int) < (s.size : Int) := by omega
  have hend' : ¬ (p : Int) = s.size := by omega
  have hend2 : ((p : Int) == (s.size : Int)) = false := by simpa using hend'
  have hd8 : ¬ (8 : Int) < deep := by omega
  have hX := BoxA.new w
  have hc := s[p].toNat_lt
  clear hp
  have q47 : ((s[p].toNat : Int) == 47) = false := ne_u8 (k := 47) (by omega) h47
  have q40 : ((s[p].toNat : Int) == 40) = false := ne_u8 (k := 40) (by omega) h40
  have q60 : ((s[p].toNat : Int) == 60) = false := ne_u8 (k := 60) (by omega) h60
  have q91 : ((s[p].toNat : Int) == 91) = false := ne_u8 (k := 91) (by omega) h91
  have hsg := fun (w : World) => show Calls Tryz.prog 28 #[.int .u8 (s[p].toNat : Int)] w fun e w' => e = .returned (.bool true) ∧ w' = w by
    have q := rSpecial s[p] w
    rw [hsn] at q; exact q
  go_enter Tryz.func24, Tryz.ntmps24
  go_wp2_with (first | (go_at_call 12; refine (rSkip s _ _ hml).mono ?_; rintro e w1 ⟨rfl, rfl⟩) | (go_at_call 28; refine (hsg _).mono ?_; rintro e w3 ⟨rfl, rfl⟩))
  refine bodyPost_ret (v := .tuple #[.agg (vc 0 0 ⟨#[]⟩), .int .i64 0, .int .i64 4]) (by simp [results, Tryz.results24, go_sem]; try first | exact ⟨rfl, rfl⟩ | rfl) rfl ?_
  exact ⟨0, 0, ⟨#[]⟩, none, none, 0, 0, 0, 0, 0, rfl, below_box _ _, hid (fun h => absurd (show (4 : Int) = 0 from h) (by decide))⟩
theorem refP_pos {s : ByteArray} {k x : Nat} (h : refP s k = some x) : 0 < x := by
  unfold refP at h
  split at h
  · split at h
    · injection h with h; omega
    · cases h
  · cases h
theorem fillA : True := trivial
set_option maxHeartbeats 4000000 in
theorem rvOther (s : ByteArray) (j p d : Nat) (deep : Int) (w : World) (hj : j ≤ s.size) (hs : s.size ≤ 100000) (hd : 0 ≤ deep ∧ deep ≤ 8) (hp : skipP s j = p) (hpl : p < s.size) (h47 : ¬ s[p] = 47) (h40 : ¬ s[p] = 40) (h60 : ¬ s[p] = 60) (h91 : ¬ s[p] = 91) (hsn : isSg s[p] = false) :
    Calls Tryz.prog 24 #[.string s, .int .i64 j, .int .i64 deep] w (SaidR w (d + 1) (otherV s p)) := by
  have hml : s.size ≤ maxLen := by unfold maxLen; omega
  have e1 : skipP s (place s (j : Int)) = p := by rw [place_in hj, hp]
  have hk1 : (p : Int) < (s.size : Int) := by omega
  have hend' : ¬ (p : Int) = s.size := by omega
  have hend2 : ((p : Int) == (s.size : Int)) = false := by simpa using hend'
  have hd8 : ¬ (8 : Int) < deep := by omega
  have hX := BoxA.new w
  have hc := s[p].toNat_lt
  clear hp
  have q47 : ((s[p].toNat : Int) == 47) = false := ne_u8 (k := 47) (by omega) h47
  have q40 : ((s[p].toNat : Int) == 40) = false := ne_u8 (k := 40) (by omega) h40
  have q60 : ((s[p].toNat : Int) == 60) = false := ne_u8 (k := 60) (by omega) h60
  have q91 : ((s[p].toNat : Int) == 91) = false := ne_u8 (k := 91) (by omega) h91
  have hsg := fun (w : World) => show Calls Tryz.prog 28 #[.int .u8 (s[p].toNat : Int)] w fun e w' => e = .returned (.bool false) ∧ w' = w by
    have q := rSpecial s[p] w
    rw [hsn] at q; exact q
  have e2 : wordP s (place s (p : Int)) = wordP s p := by rw [place_in (by omega)]
  have hle := yWordLe (s := s) (k := p) (by omega)
  unfold otherV
  obtain ⟨K, hK⟩ : ∃ K, otherK s p = K := ⟨_, rfl⟩
  rw [hK]
  unfold otherK at hK
  generalize wordP s p = W at *
  have HK := hid hK
  clear hK hsn h47 h40 h60 h91
  have hrep : ∀ (k n : Int) (w' : World) (S : Nat → Prop), RepIn S (d + 1) w' (V0 k n eB) (vc k n ⟨#[]⟩).toList := fun k n w' S => repIn_vc _ _ _ _ _ _ (by decide)
  have HRP := hid hrep
  clear hrep
  by_cases h1 : W = wNull
  · have HK2 := hid (show (0, 0, 0, p + W.size) = K by rw [← HK.out, if_pos h1])
    rw [← HK2.out]
    have ep := (isNull W).trans (decide_eq_true h1)
    clear HK h1
    go_enter Tryz.func24, Tryz.ntmps24
    go_wp2_with (first | (go_at_call 12; refine (rSkip s _ _ hml).mono ?_; rintro e w1 ⟨rfl, rfl⟩) | (go_at_call 28; refine (hsg _).mono ?_; rintro e w3 ⟨rfl, rfl⟩) | (go_at_call 14; refine (rWord s _ _ hml).mono ?_; rintro e w4 ⟨rfl, rfl⟩))
    refine bodyPost_ret (v := .tuple #[.agg (vc 0 0 ⟨#[]⟩), .int .i64 ((p : Int) + (W.size : Int)), .int .i64 0]) (by simp [results, Tryz.results24, go_sem]; try first | exact ⟨rfl, rfl⟩ | rfl) rfl ?_
    exact ⟨0, 0, ⟨#[]⟩, none, none, 0, 0, 0, 0, p + W.size, by simp; rfl, below_box _ _, hid (fun _ => ⟨rfl, HRP.out _ _ _ _⟩)⟩
  have en1 := (isNull W).trans (decide_eq_false h1)
  by_cases h2 : W = wTrue
  · have HK2 := hid (show (1, 1, 0, p + W.size) = K by rw [← HK.out, if_neg h1, if_pos h2])
    rw [← HK2.out]
    have ep := (isTrue W).trans (decide_eq_true h2)
    clear HK h2
    go_enter Tryz.func24, Tryz.ntmps24
    go_wp2_with (first | (go_at_call 12; refine (rSkip s _ _ hml).mono ?_; rintro e w1 ⟨rfl, rfl⟩) | (go_at_call 28; refine (hsg _).mono ?_; rintro e w3 ⟨rfl, rfl⟩) | (go_at_call 14; refine (rWord s _ _ hml).mono ?_; rintro e w4 ⟨rfl, rfl⟩))
    refine bodyPost_ret (v := .tuple #[.agg (vc 1 1 ⟨#[]⟩), .int .i64 ((p : Int) + (W.size : Int)), .int .i64 0]) (by simp [results, Tryz.results24, go_sem]; try first | exact ⟨rfl, rfl⟩ | rfl) rfl ?_
    exact ⟨1, 1, ⟨#[]⟩, none, none, 0, 0, 0, 0, p + W.size, by simp; rfl, below_box _ _, hid (fun _ => ⟨rfl, HRP.out _ _ _ _⟩)⟩
  have en2 := (isTrue W).trans (decide_eq_false h2)
  by_cases h3 : W = wFalse
  · have HK2 := hid (show (1, 0, 0, p + W.size) = K by rw [← HK.out, if_neg h1, if_neg h2, if_pos h3])
    rw [← HK2.out]
    have ep := (isFalse W).trans (decide_eq_true h3)
    clear HK h3
    go_enter Tryz.func24, Tryz.ntmps24
    go_wp2_with (first | (go_at_call 12; refine (rSkip s _ _ hml).mono ?_; rintro e w1 ⟨rfl, rfl⟩) | (go_at_call 28; refine (hsg _).mono ?_; rintro e w3 ⟨rfl, rfl⟩) | (go_at_call 14; refine (rWord s _ _ hml).mono ?_; rintro e w4 ⟨rfl, rfl⟩))
    refine bodyPost_ret (v := .tuple #[.agg (vc 1 0 ⟨#[]⟩), .int .i64 ((p : Int) + (W.size : Int)), .int .i64 0]) (by simp [results, Tryz.results24, go_sem]; try first | exact ⟨rfl, rfl⟩ | rfl) rfl ?_
    exact ⟨1, 0, ⟨#[]⟩, none, none, 0, 0, 0, 0, p + W.size, by simp; rfl, below_box _ _, hid (fun _ => ⟨rfl, HRP.out _ _ _ _⟩)⟩
  have en3 := (isFalse W).trans (decide_eq_false h3)
  have HK1 := hid (show (if objL W.data.toList ≠ 0 ∧ (refP s (p + W.size)).isSome = true then ((7 : Int), ((objL W.data.toList : Nat) : Int), (0 : Int), (refP s (p + W.size)).getD (p + W.size)) else (2, parseN W.data.toList, parseE W.data.toList, p + W.size)) = K by rw [← HK.out, if_neg h1, if_neg h2, if_neg h3])
  have href := fun (w : World) => show Calls Tryz.prog 51 #[.string s, .string W, .int .i64 ((p : Int) + (W.size : Int))] w _ from rReadRef s W (p + W.size) w (by omega) hs (by omega)
  have hfix := fun (w : World) => readFix_any W w (by omega)
  have HRL := hid (fun x (h : refP s (p + W.size) = some x) => refP_pos h)
  clear HK h1 h2 h3
  by_cases hr : objL W.data.toList ≠ 0 ∧ (refP s (p + W.size)).isSome = true
  · have HK2 := hid (show ((7 : Int), ((objL W.data.toList : Nat) : Int), (0 : Int), (refP s (p + W.size)).getD (p + W.size)) = K by have h := HK1.out; rw [if_pos hr] at h; exact h)
    rw [← HK2.out]
    obtain ⟨x, hx⟩ := Option.isSome_iff_exists.1 hr.2
    have hT : refO s W (p + W.size) = (objL W.data.toList, x) := by unfold refO; rw [if_pos hr, hx]; rfl
    simp only [hT] at href
    simp only [hx, Option.getD_some]
    clear hT
    have hx0 : (0 : Int) < (x : Int) := by have := HRL.out x hx; omega
    clear HK1 HK2 hr hx hfix
    generalize objL W.data.toList = N at href ⊢
    go_enter Tryz.func24, Tryz.ntmps24
    go_wp2_with (first | (go_at_call 12; refine (rSkip s _ _ hml).mono ?_; rintro e w1 ⟨rfl, rfl⟩) | (go_at_call 28; refine (hsg _).mono ?_; rintro e w3 ⟨rfl, rfl⟩) | (go_at_call 14; refine (rWord s _ _ hml).mono ?_; rintro e w4 ⟨rfl, rfl⟩) | (go_at_call 51; go_must (refine (href _).mono ?_); rintro e w5 ⟨rfl, rfl⟩))
    refine bodyPost_ret (v := .tuple #[.agg (vc 7 (N : Nat) ⟨#[]⟩), .int .i64 (x : Nat), .int .i64 0]) (by simp [results, Tryz.results24, go_sem]; try first | exact ⟨rfl, rfl⟩ | rfl) rfl ?_
    exact ⟨7, N, ⟨#[]⟩, none, none, 0, 0, 0, 0, x, rfl, below_box _ _, hid (fun _ => ⟨rfl, HRP.out _ _ _ _⟩)⟩
  · have HK2 := hid (show ((2 : Int), parseN W.data.toList, parseE W.data.toList, p + W.size) = K by have h := HK1.out; rw [if_neg hr] at h; exact h)
    rw [← HK2.out]
    have hT : refO s W (p + W.size) = (0, 0) := by unfold refO; rw [if_neg hr]
    simp only [hT] at href
    clear HK1 HK2 hr hT
    generalize parseN W.data.toList = PN at hfix ⊢
    generalize parseE W.data.toList = PE at hfix ⊢
    go_enter Tryz.func24, Tryz.ntmps24
    go_wp2_with (first | (go_at_call 12; refine (rSkip s _ _ hml).mono ?_; rintro e w1 ⟨rfl, rfl⟩) | (go_at_call 28; refine (hsg _).mono ?_; rintro e w3 ⟨rfl, rfl⟩) | (go_at_call 14; refine (rWord s _ _ hml).mono ?_; rintro e w4 ⟨rfl, rfl⟩) | (go_at_call 51; go_must (refine (href _).mono ?_); rintro e w5 ⟨rfl, rfl⟩) | (go_at_call 52; refine (hfix _).mono ?_; rintro e w6 ⟨rfl, rfl⟩))
    refine bodyPost_ret (v := .tuple #[.agg (vc 2 PN ⟨#[]⟩), .int .i64 ((p : Int) + (W.size : Int)), .int .i64 PE]) (by simp [results, Tryz.results24, go_sem]; try first | exact ⟨rfl, rfl⟩ | rfl) rfl ?_
    exact ⟨2, PN, ⟨#[]⟩, none, none, 0, 0, 0, 0, p + W.size, by simp; rfl, below_box _ _, hid (fun _ => ⟨rfl, HRP.out _ _ _ _⟩)⟩
end Go.Proofs.YtddoigjjgcefkaaGreatDoor

/-
  Reading, the document's answer: strings in brackets.
-/
namespace Go.Proofs.YtddoigjjgcefkaaGreatDoor
open Go.RowKit
set_option maxRecDepth 100000

theorem u8_toNat_ne {c : UInt8} {k : Nat} (h : ((c.toNat : Int) == (k : Int)) = false) : c.toNat ≠ k := by
  intro e; rw [e] at h; simp at h
/-- Each byte that stands for another one. -/
theorem escL_at (s : ByteArray) (j : Nat) (h : j < s.size) : escL (s.data.toList.drop j) = if isOct s[j] then some ([UInt8.ofNat (octV 3 (s.data.toList.drop j) 0 % 256)], octN 3 (s.data.toList.drop j))
    else if s[j] == 110 then some ([10], 1) else if s[j] == 114 then some ([13], 1) else if s[j] == 116 then some ([9], 1) else if s[j] == 98 then some ([8], 1) else if s[j] == 102 then some ([12], 1)
    else if s[j] == 10 then some ([], 1) else if s[j] == 13 then some ([], if s.data.toList[j + 1]? = some 10 then 2 else 1) else some ([s[j]], 1) := by
  rw [drop_at s j h]
  have e : (s.data.toList.drop (j + 1)).head? = s.data.toList[j + 1]? := by simp
  rw [escL_cons, e]
theorem litT_esc {s : ByteArray} {k deep : Nat} {pre x : List UInt8} {m : Nat} (h : k < s.size) (h92 : s[k] = 92) (he : escL (s.data.toList.drop (k + 1)) = some (x, m)) : litT (s.data.toList.drop k) deep pre k = litT (s.data.toList.drop (k + 1 + m)) deep (pre ++ x) (k + 1 + m) := by
  rw [litT_step s k deep pre h, h92, he]; rfl
/-- Where the answer stands in a string in brackets. -/
structure Lit (s : ByteArray) (w wr : World) (R : Int × List UInt8 × Nat) (k deep : Nat) (pre : List UInt8) (bv : Value) : Prop where
  le : k ≤ s.size
  d1 : 1 ≤ deep
  dk : deep ≤ k + 1
  pl : pre.length ≤ k
  eq : litT (s.data.toList.drop k) deep pre k = R
  own : Own8 wr w.heap.size bv pre
  below : Below w.heap.size w wr
set_option maxHeartbeats 4000000 in
theorem rLiteral (s : ByteArray) (k0 : Nat) (w : World) (hk0 : k0 ≤ s.size) (hs : s.size ≤ 100000) :
    Calls Tryz.prog 47 #[.string s, .int .i64 k0] w fun e w' => e = .returned (.tuple #[.string ⟨(litT (s.data.toList.drop k0) 1 [] k0).2.1.toArray⟩, .int .i64 ((litT (s.data.toList.drop k0) 1 [] k0).2.2 : Nat), .int .i64 (litT (s.data.toList.drop k0) 1 [] k0).1]) ∧ Below w.heap.size w w' := by
  generalize hR : litT (s.data.toList.drop k0) 1 [] k0 = R
  have HR0 := hid hR
  clear hR
  go_enter Tryz.func47, Tryz.ntmps47
  go_wp2
  go_loopw [1, 7, 8] (fun av bv dv wr => ∃ (k deep : Nat) (pre : List UInt8), av = .int .i64 k ∧ dv = .int .i64 deep ∧ Lit s w wr R k deep pre bv) (fun av _ _ _ => s.size - (intOf av).toNat)
  case atStart => exact ⟨k0, 1, [], rfl, rfl, ⟨hk0, by omega, by omega, by simp, HR0.out, Own8.nil _ _, Below.refl _ _⟩⟩
  case round =>
    clear HR0
    obtain ⟨k, deep, pre, rfl, rfl, hL⟩ := hrel
    have HL := hid hL
    obtain ⟨hk, hd1, hdk, hpl, _, hown, hb⟩ := hL
    have hbs := hb.size
    by_cases hlt : k < s.size
    · have hlt' : (k : Int) < s.size := by omega
      have HS := hid (litT_step s k deep pre hlt)
      have hc := s[k].toNat_lt
      by_cases h41 : s[k] = 41
      · have q41 : (s[k].toNat : Int) = 41 := by rw [h41]; rfl
        by_cases hd : deep = 1
        · have HRE := hid (show (0, pre, k + 1) = R by rw [← HL.out.eq, HS.out, if_pos (by rw [h41]; rfl), if_pos hd])
          subst hd
          clear h41 HS
          have hcv := own8_conv hown
          go_wp2
          go_ret3
          refine ⟨?_, hb⟩
          rw [← HRE.out]; simp
        · have HRN := hid (show litT (s.data.toList.drop (k + 1)) (deep - 1) (pre ++ [s[k]]) (k + 1) = R by rw [← HL.out.eq, HS.out, if_pos (by rw [h41]; rfl), if_neg hd])
          obtain ⟨d2, rfl⟩ : ∃ d2 : Nat, deep = d2 + 1 := ⟨deep - 1, by omega⟩
          have hd0 : ((d2 : Int) == 0) = false := by simpa using (show ¬ (d2 : Int) = 0 by omega)
          have hd0' : ¬ d2 = 0 := by omega
          clear h41 HS hd
          go_wp2_with (at_builtin; refine wpApp8 rfl (.tmp 36) (.tmp 38) rfl w.heap.size _ pre rfl hown _ [s[k]] 1 1 rfl rfl ?cc (by omega) hbs ?_)
          case cc => first | exact one8 q41 | (unfold byteV; rw [q41])
          intro v2 w2 hown2 hk2
          go_wp2
          go_roundw
          case rel => exact ⟨k + 1, d2, pre ++ [s[k]], by go_num, by go_num, ⟨by omega, by omega, by omega, by simp; omega, HRN.out, hown2, hb.trans hk2.below⟩⟩
          case measure => simp [intOf]; omega
      · have q41 : ((s[k].toNat : Int) == 41) = false := ne_u8 (k := 41) (by omega) h41
        have n41 : ¬ (s[k] == 41) = true := by simpa using h41
        by_cases h40 : s[k] = 40
        · have q40 : (s[k].toNat : Int) = 40 := by rw [h40]; rfl
          have HRN := hid (show litT (s.data.toList.drop (k + 1)) (deep + 1) (pre ++ [s[k]]) (k + 1) = R by rw [← HL.out.eq, HS.out, if_neg n41, if_pos (by rw [h40]; rfl)])
          clear h41 HS h40 n41
          go_wp2_with (at_builtin; refine wpApp8 rfl (.tmp 36) (.tmp 38) rfl w.heap.size _ pre rfl hown _ [s[k]] 1 1 rfl rfl ?cc (by omega) hbs ?_)
          case cc => first | exact one8 q40 | (unfold byteV; rw [q40])
          intro v2 w2 hown2 hk2
          go_wp2
          go_roundw
          case rel => exact ⟨k + 1, deep + 1, pre ++ [s[k]], by go_num, by go_num, ⟨by omega, by omega, by omega, by simp; omega, HRN.out, hown2, hb.trans hk2.below⟩⟩
          case measure => simp [intOf]; omega
        · have q40 : ((s[k].toNat : Int) == 40) = false := ne_u8 (k := 40) (by omega) h40
          have n40 : ¬ (s[k] == 40) = true := by simpa using h40
          by_cases h92 : s[k] = 92
          · have q92 : (s[k].toNat : Int) = 92 := by rw [h92]; rfl
            have H92 := hid h92
            clear h41 h40 n41 n40 HS h92
            by_cases hend : k + 1 = s.size
            · have hend' : (k : Int) + 1 = s.size := by omega
              have HRE := hid (show (5, [], 0) = R by
                rw [← HL.out.eq, litT_step s k deep pre hlt, H92.out, List.drop_eq_nil_of_le (by simp; omega)]; rfl)
              go_wp2
              go_ret3
              refine ⟨?_, hb⟩
              rw [← HRE.out]; rfl
            · have hend' : ¬ (k : Int) + 1 = s.size := by omega
              have hend2 : ((k : Int) + 1 == (s.size : Int)) = false := by simpa using hend'
              have hel : k + 1 < s.size := by omega
              have hel' : (k : Int) + 1 < s.size := by omega
              have HE := hid (escL_at s (k + 1) hel)
              have he := s[k + 1].toNat_lt
              by_cases h110 : s[k + 1] = 110
              · have q110 : (s[k + 1].toNat : Int) = 110 := by rw [h110]; rfl
                have HRN := hid (show litT (s.data.toList.drop (k + 2)) deep (pre ++ [10]) (k + 2) = R by
                  rw [← HL.out.eq, litT_esc (x := [10]) (m := 1) hlt H92.out (by rw [HE.out, h110]; rfl)])
                clear h110
                go_wp2_with (at_builtin; refine wpApp8 rfl (.tmp 58) (.tmp 59) rfl w.heap.size _ pre rfl hown _ [10] 1 1 rfl rfl ?cc (by omega) hbs ?_)
                case cc => first | rfl | exact one8 rfl
                intro v2 w2 hown2 hk2
                go_wp2
                go_roundw
                case rel => exact ⟨k + 2, deep, pre ++ [10], by go_num, by go_num, ⟨by omega, by omega, by omega, by simp; omega, HRN.out, hown2, hb.trans hk2.below⟩⟩
                case measure => simp [intOf]; omega
              have q110 : ((s[k + 1].toNat : Int) == 110) = false := ne_u8 (k := 110) (by omega) h110
              have n110 : ¬ (s[k + 1] == 110) = true := by simpa using h110
              by_cases h114 : s[k + 1] = 114
              · have q114 : (s[k + 1].toNat : Int) = 114 := by rw [h114]; rfl
                have HRN := hid (show litT (s.data.toList.drop (k + 2)) deep (pre ++ [13]) (k + 2) = R by
                  rw [← HL.out.eq, litT_esc (x := [13]) (m := 1) hlt H92.out (by rw [HE.out, h114]; rfl)])
                clear h114
                go_wp2_with (at_builtin; refine wpApp8 rfl (.tmp 64) (.tmp 65) rfl w.heap.size _ pre rfl hown _ [13] 1 1 rfl rfl ?cc (by omega) hbs ?_)
                case cc => first | rfl | exact one8 rfl
                intro v2 w2 hown2 hk2
                go_wp2
                go_roundw
                case rel => exact ⟨k + 2, deep, pre ++ [13], by go_num, by go_num, ⟨by omega, by omega, by omega, by simp; omega, HRN.out, hown2, hb.trans hk2.below⟩⟩
                case measure => simp [intOf]; omega
              have q114 : ((s[k + 1].toNat : Int) == 114) = false := ne_u8 (k := 114) (by omega) h114
              have n114 : ¬ (s[k + 1] == 114) = true := by simpa using h114
              by_cases h116 : s[k + 1] = 116
              · have q116 : (s[k + 1].toNat : Int) = 116 := by rw [h116]; rfl
                have HRN := hid (show litT (s.data.toList.drop (k + 2)) deep (pre ++ [9]) (k + 2) = R by
                  rw [← HL.out.eq, litT_esc (x := [9]) (m := 1) hlt H92.out (by rw [HE.out, h116]; rfl)])
                clear h116
                go_wp2_with (at_builtin; refine wpApp8 rfl (.tmp 70) (.tmp 71) rfl w.heap.size _ pre rfl hown _ [9] 1 1 rfl rfl ?cc (by omega) hbs ?_)
                case cc => first | rfl | exact one8 rfl
                intro v2 w2 hown2 hk2
                go_wp2
                go_roundw
                case rel => exact ⟨k + 2, deep, pre ++ [9], by go_num, by go_num, ⟨by omega, by omega, by omega, by simp; omega, HRN.out, hown2, hb.trans hk2.below⟩⟩
                case measure => simp [intOf]; omega
              have q116 : ((s[k + 1].toNat : Int) == 116) = false := ne_u8 (k := 116) (by omega) h116
              have n116 : ¬ (s[k + 1] == 116) = true := by simpa using h116
              by_cases h98 : s[k + 1] = 98
              · have q98 : (s[k + 1].toNat : Int) = 98 := by rw [h98]; rfl
                have HRN := hid (show litT (s.data.toList.drop (k + 2)) deep (pre ++ [8]) (k + 2) = R by
                  rw [← HL.out.eq, litT_esc (x := [8]) (m := 1) hlt H92.out (by rw [HE.out, h98]; rfl)])
                clear h98
                go_wp2_with (at_builtin; refine wpApp8 rfl (.tmp 76) (.tmp 77) rfl w.heap.size _ pre rfl hown _ [8] 1 1 rfl rfl ?cc (by omega) hbs ?_)
                case cc => first | rfl | exact one8 rfl
                intro v2 w2 hown2 hk2
                go_wp2
                go_roundw
                case rel => exact ⟨k + 2, deep, pre ++ [8], by go_num, by go_num, ⟨by omega, by omega, by omega, by simp; omega, HRN.out, hown2, hb.trans hk2.below⟩⟩
                case measure => simp [intOf]; omega
              have q98 : ((s[k + 1].toNat : Int) == 98) = false := ne_u8 (k := 98) (by omega) h98
              have n98 : ¬ (s[k + 1] == 98) = true := by simpa using h98
              by_cases h102 : s[k + 1] = 102
              · have q102 : (s[k + 1].toNat : Int) = 102 := by rw [h102]; rfl
                have HRN := hid (show litT (s.data.toList.drop (k + 2)) deep (pre ++ [12]) (k + 2) = R by
                  rw [← HL.out.eq, litT_esc (x := [12]) (m := 1) hlt H92.out (by rw [HE.out, h102]; rfl)])
                clear h102
                go_wp2_with (at_builtin; refine wpApp8 rfl (.tmp 82) (.tmp 83) rfl w.heap.size _ pre rfl hown _ [12] 1 1 rfl rfl ?cc (by omega) hbs ?_)
                case cc => first | rfl | exact one8 rfl
                intro v2 w2 hown2 hk2
                go_wp2
                go_roundw
                case rel => exact ⟨k + 2, deep, pre ++ [12], by go_num, by go_num, ⟨by omega, by omega, by omega, by simp; omega, HRN.out, hown2, hb.trans hk2.below⟩⟩
                case measure => simp [intOf]; omega
              have q102 : ((s[k + 1].toNat : Int) == 102) = false := ne_u8 (k := 102) (by omega) h102
              have n102 : ¬ (s[k + 1] == 102) = true := by simpa using h102
              by_cases h10 : s[k + 1] = 10
              · have q10 : (s[k + 1].toNat : Int) = 10 := by rw [h10]; rfl
                have HRN := hid (show litT (s.data.toList.drop (k + 2)) deep pre (k + 2) = R by
                  rw [← HL.out.eq, litT_esc (x := []) (m := 1) hlt H92.out (by rw [HE.out, h10]; rfl), List.append_nil])
                clear h10
                go_wp2
                exact ⟨⟨k + 2, deep, pre, by go_num, rfl, ⟨by omega, by omega, by omega, by omega, HRN.out, hown, hb⟩⟩, by simp [intOf]; omega⟩
              have q10 : ((s[k + 1].toNat : Int) == 10) = false := ne_u8 (k := 10) (by omega) h10
              have n10 : ¬ (s[k + 1] == 10) = true := by simpa using h10
              by_cases h13 : s[k + 1] = 13
              · have q13 : (s[k + 1].toNat : Int) = 13 := by rw [h13]; rfl
                by_cases hnx : s.data.toList[k + 2]? = some 10
                · have hl2 : k + 2 < s.size := by simpa using (List.getElem?_eq_some_iff.1 hnx).1
                  have hl2' : (k : Int) + 2 < s.size := by omega
                  have q2 : (s[k + 2].toNat : Int) = 10 := by
                    have := rdAt_get hl2
                    rw [hnx] at this
                    injection this with this
                    rw [← this]; rfl
                  have HRN := hid (show litT (s.data.toList.drop (k + 3)) deep pre (k + 3) = R by
                    rw [← HL.out.eq, litT_esc (x := []) (m := 2) hlt H92.out (by rw [HE.out, h13, hnx]; rfl), List.append_nil])
                  clear h13 hnx
                  go_wp2
                  exact ⟨⟨k + 3, deep, pre, by go_num, rfl, ⟨by omega, by omega, by omega, by omega, HRN.out, hown, hb⟩⟩, by simp [intOf]; omega⟩
                · have HRN := hid (show litT (s.data.toList.drop (k + 2)) deep pre (k + 2) = R by
                    rw [← HL.out.eq, litT_esc (x := []) (m := 1) hlt H92.out (by rw [HE.out, h13, if_neg hnx]; rfl), List.append_nil])
                  by_cases hl2 : k + 2 < s.size
                  · have hl2' : (k : Int) + 2 < s.size := by omega
                    have q2 : ((s[k + 2].toNat : Int) == 10) = false := ne_u8 (k := 10) (by omega) (fun e => hnx (by rw [rdAt_get hl2, e]; rfl))
                    clear h13 hnx
                    go_wp2
                    exact ⟨⟨k + 2, deep, pre, by go_num, rfl, ⟨by omega, by omega, by omega, by omega, HRN.out, hown, hb⟩⟩, by simp [intOf]; omega⟩
                  · have hl2' : ¬ (k : Int) + 1 + 1 < s.size := by omega
                    clear h13 hnx
                    go_wp2
                    exact ⟨⟨k + 2, deep, pre, by go_num, rfl, ⟨by omega, by omega, by omega, by omega, HRN.out, hown, hb⟩⟩, by simp [intOf]; omega⟩
              have q13 : ((s[k + 1].toNat : Int) == 13) = false := ne_u8 (k := 13) (by omega) h13
              have n13 : ¬ (s[k + 1] == 13) = true := by simpa using h13
              by_cases ho : isOct s[k + 1] = true
              · have ho' := (isOct_iff _).1 ho
                obtain ⟨x, hx⟩ : ∃ x : Nat, s[k + 1].toNat = x + 48 := ⟨s[k + 1].toNat - 48, by omega⟩
                have hx7 : x ≤ 7 := by omega
                have g1 : (48 : Int) ≤ (s[k + 1].toNat : Int) := by omega
                have g2 : (s[k + 1].toNat : Int) ≤ 55 := by omega
                have g2x : (x : Int) + 48 ≤ 55 := by omega
                obtain ⟨OV, hOV⟩ : ∃ OV, octV 3 (s.data.toList.drop (k + 1)) 0 = OV := ⟨_, rfl⟩
                obtain ⟨ON, hON⟩ : ∃ ON, octN 3 (s.data.toList.drop (k + 1)) = ON := ⟨_, rfl⟩
                have HRN := hid (show litT (s.data.toList.drop (k + 1 + ON)) deep (pre ++ [UInt8.ofNat (OV % 256)]) (k + 1 + ON) = R by
                  rw [← HL.out.eq, litT_esc (x := [UInt8.ofNat (OV % 256)]) (m := ON) hlt H92.out (by rw [HE.out, if_pos ho, hOV, hON])])
                have HO0 := hid (show octV 2 (s.data.toList.drop (k + 2)) x = OV ∧ octN 2 (s.data.toList.drop (k + 2)) + 1 = ON by
                  rw [← hOV, ← hON, drop_at s (k + 1) hel, octV_cons, octN_cons, if_pos ho, if_pos ho, hx]
                  exact ⟨by congr 1; omega, rfl⟩)
                clear hOV hON ho ho' HE n110 n114 n116 n98 n102 n10 n13 h110 h114 h116 h98 h102 h10 h13
                go_wp2
                go_loopw [1, 11, 12] (fun av nv kv wx => ∃ (p q n : Nat), av = .int .i64 p ∧ Hid (p = k + 1 + q) ∧ k + 1 ≤ p ∧ nv = .int .i64 n ∧ kv = .int .i64 q ∧ q ≤ 2 ∧ n < 512 ∧ (q ≤ 1 → n < 64) ∧ (q = 0 → n < 8) ∧ p < s.size ∧ Hid (octV (2 - q) (s.data.toList.drop (p + 1)) n = OV ∧ octN (2 - q) (s.data.toList.drop (p + 1)) + q + 1 = ON) ∧ wx = wr) (fun _ _ kv _ => 2 - (intOf kv).toNat)
                case atStart =>
                  exact ⟨k + 1, 0, x, by go_num, hid rfl, Nat.le_refl _, rfl, rfl, by omega, by omega, by omega, by omega, by omega, hid HO0.out, rfl⟩
                case round =>
                  obtain ⟨p, q, n, rfl, HPQ, hkp, rfl, rfl, hq2, hn, hn1, hn0, hpl2, HO, rfl⟩ := hrel
                  clear HO0
                  by_cases h1 : q < 2
                  · have h1' : (q : Int) < 2 := by omega
                    by_cases h2 : p + 1 < s.size
                    · have h2' : (p : Int) + 1 < s.size := by omega
                      have hc2 := s[p + 1].toNat_lt
                      by_cases h3 : isOct s[p + 1] = true
                      · have ho3 := (isOct_iff _).1 h3
                        obtain ⟨z, hz⟩ : ∃ z : Nat, s[p + 1].toNat = z + 48 := ⟨s[p + 1].toNat - 48, by omega⟩
                        have hz7 : z ≤ 7 := by omega
                        have g3 : (48 : Int) ≤ (s[p + 1].toNat : Int) := by omega
                        have g4 : (s[p + 1].toNat : Int) ≤ 55 := by omega
                        have HO2 := hid (show octV (2 - (q + 1)) (s.data.toList.drop (p + 1 + 1)) (8 * n + z) = OV ∧ octN (2 - (q + 1)) (s.data.toList.drop (p + 1 + 1)) + (q + 1) + 1 = ON by
                          have hx2 := HO.out
                          rw [drop_at s (p + 1) h2, show 2 - q = 2 - (q + 1) + 1 by omega, octV_cons, octN_cons, if_pos h3, if_pos h3, hz, show z + 48 - 48 = z by omega] at hx2
                          exact ⟨hx2.1, by omega⟩)
                        clear HO h3 ho3
                        go_wp2
                        go_roundw
                        case rel => exact ⟨p + 1, q + 1, 8 * n + z, by go_num, hid (by have := HPQ.out; omega), by omega, by go_num, by go_num, by omega, by omega, by omega, by omega, by omega, hid HO2.out, by first | rfl | trivial⟩
                        case measure => simp [intOf]; omega
                      · have h4 : ¬ (48 : Int) ≤ (s[p + 1].toNat : Int) ∨ ((48 : Int) ≤ (s[p + 1].toNat : Int) ∧ ¬ (s[p + 1].toNat : Int) ≤ 55) := by
                          rw [isOct_iff] at h3; omega
                        have hx2 := HO.out
                        rw [drop_at s (p + 1) h2, show 2 - q = 2 - (q + 1) + 1 by omega, octV_cons, octN_cons, if_neg h3, if_neg h3] at hx2
                        clear h3
                        rcases h4 with h4 | ⟨h4, h5⟩
                        · have e1 : n = OV := hx2.1
                          have e2 : 0 + q + 1 = ON := hx2.2
                          obtain ⟨y, q1, hy⟩ : ∃ y : UInt8, (y.toNat : Int) = (n : Int) % 256 ∧ UInt8.ofNat (n % 256) = y := ⟨UInt8.ofNat (n % 256), by simp only [UInt8.toNat_ofNat']; omega, rfl⟩
                          have HRX := hid (show litT (s.data.toList.drop (p + 1)) deep (pre ++ [y]) (p + 1) = R by
                            rw [← HRN.out, ← e2, ← e1, hy, show k + 1 + (0 + q + 1) = p + 1 by have := HPQ.out; omega])
                          clear hx2 e1 e2 hy HO HRN
                          go_wp2_with (at_builtin; refine wpApp8 rfl (.tmp 150) (.tmp 154) rfl w.heap.size _ pre rfl hown _ [y] 1 1 rfl rfl ?cc (by omega) hbs ?_)
                          case cc => first | exact one8 q1 | (unfold byteV; rw [q1])
                          intro v2 w2 hown2 hk2
                          go_wp2
                          go_roundw
                          case rel => exact ⟨p + 1, deep, pre ++ [y], by go_num, by go_num, ⟨by omega, by omega, by omega, by simp; omega, HRX.out, hown2, hb.trans hk2.below⟩⟩
                          case measure => simp [intOf]; omega
                        · have e1 : n = OV := hx2.1
                          have e2 : 0 + q + 1 = ON := hx2.2
                          obtain ⟨y, q1, hy⟩ : ∃ y : UInt8, (y.toNat : Int) = (n : Int) % 256 ∧ UInt8.ofNat (n % 256) = y := ⟨UInt8.ofNat (n % 256), by simp only [UInt8.toNat_ofNat']; omega, rfl⟩
                          have HRX := hid (show litT (s.data.toList.drop (p + 1)) deep (pre ++ [y]) (p + 1) = R by
                            rw [← HRN.out, ← e2, ← e1, hy, show k + 1 + (0 + q + 1) = p + 1 by have := HPQ.out; omega])
                          clear hx2 e1 e2 hy HO HRN
                          go_wp2_with (at_builtin; refine wpApp8 rfl (.tmp 150) (.tmp 154) rfl w.heap.size _ pre rfl hown _ [y] 1 1 rfl rfl ?cc (by omega) hbs ?_)
                          case cc => first | exact one8 q1 | (unfold byteV; rw [q1])
                          intro v2 w2 hown2 hk2
                          go_wp2
                          go_roundw
                          case rel => exact ⟨p + 1, deep, pre ++ [y], by go_num, by go_num, ⟨by omega, by omega, by omega, by simp; omega, HRX.out, hown2, hb.trans hk2.below⟩⟩
                          case measure => simp [intOf]; omega
                    · have h2' : ¬ (p : Int) + 1 < s.size := by omega
                      have hx2 := HO.out
                      rw [List.drop_eq_nil_of_le (by simp; omega), octV_nil, octN_nil] at hx2
                      have e1 : n = OV := hx2.1
                      have e2 : 0 + q + 1 = ON := hx2.2
                      obtain ⟨y, q1, hy⟩ : ∃ y : UInt8, (y.toNat : Int) = (n : Int) % 256 ∧ UInt8.ofNat (n % 256) = y := ⟨UInt8.ofNat (n % 256), by simp only [UInt8.toNat_ofNat']; omega, rfl⟩
                      have HRX := hid (show litT (s.data.toList.drop (p + 1)) deep (pre ++ [y]) (p + 1) = R by
                        rw [← HRN.out, ← e2, ← e1, hy, show k + 1 + (0 + q + 1) = p + 1 by have := HPQ.out; omega])
                      clear hx2 e1 e2 hy HO HRN
                      go_wp2_with (at_builtin; refine wpApp8 rfl (.tmp 150) (.tmp 154) rfl w.heap.size _ pre rfl hown _ [y] 1 1 rfl rfl ?cc (by omega) hbs ?_)
                      case cc => first | exact one8 q1 | (unfold byteV; rw [q1])
                      intro v2 w2 hown2 hk2
                      go_wp2
                      go_roundw
                      case rel => exact ⟨p + 1, deep, pre ++ [y], by go_num, by go_num, ⟨by omega, by omega, by omega, by simp; omega, HRX.out, hown2, hb.trans hk2.below⟩⟩
                      case measure => simp [intOf]; omega
                  · have h1' : ¬ (q : Int) < 2 := by omega
                    have hx2 := HO.out
                    rw [show 2 - q = 0 by omega, octV, octN] at hx2
                    have e1 : n = OV := hx2.1
                    have e2 : 0 + q + 1 = ON := hx2.2
                    obtain ⟨y, q1, hy⟩ : ∃ y : UInt8, (y.toNat : Int) = (n : Int) % 256 ∧ UInt8.ofNat (n % 256) = y := ⟨UInt8.ofNat (n % 256), by simp only [UInt8.toNat_ofNat']; omega, rfl⟩
                    have HRX := hid (show litT (s.data.toList.drop (p + 1)) deep (pre ++ [y]) (p + 1) = R by
                      rw [← HRN.out, ← e2, ← e1, hy, show k + 1 + (0 + q + 1) = p + 1 by have := HPQ.out; omega])
                    clear hx2 e1 e2 hy HO HRN
                    go_wp2_with (at_builtin; refine wpApp8 rfl (.tmp 150) (.tmp 154) rfl w.heap.size _ pre rfl hown _ [y] 1 1 rfl rfl ?cc (by omega) hbs ?_)
                    case cc => first | exact one8 q1 | (unfold byteV; rw [q1])
                    intro v2 w2 hown2 hk2
                    go_wp2
                    go_roundw
                    case rel => exact ⟨p + 1, deep, pre ++ [y], by go_num, by go_num, ⟨by omega, by omega, by omega, by simp; omega, HRX.out, hown2, hb.trans hk2.below⟩⟩
                    case measure => simp [intOf]; omega
              · have h4 : ¬ (48 : Int) ≤ (s[k + 1].toNat : Int) ∨ ((48 : Int) ≤ (s[k + 1].toNat : Int) ∧ ¬ (s[k + 1].toNat : Int) ≤ 55) := by
                  rw [isOct_iff] at ho; omega
                have HRN := hid (show litT (s.data.toList.drop (k + 2)) deep (pre ++ [s[k + 1]]) (k + 2) = R by
                  rw [← HL.out.eq, litT_esc (x := [s[k + 1]]) (m := 1) hlt H92.out (by rw [HE.out, if_neg ho, if_neg n110, if_neg n114, if_neg n116, if_neg n98, if_neg n102, if_neg n10, if_neg n13])])
                clear HE n110 n114 n116 n98 n102 n10 n13 h110 h114 h116 h98 h102 h10 h13 ho
                rcases h4 with h4 | ⟨h4, h5⟩
                all_goals
                  go_wp2_with (at_builtin; refine wpApp8 rfl (.tmp 51) (.tmp 53) rfl w.heap.size _ pre rfl hown _ [s[k + 1]] 1 1 rfl rfl ?cc (by omega) hbs ?_)
                  case cc => first | rfl | exact one8 rfl
                  intro v2 w2 hown2 hk2
                  go_wp2
                  go_roundw
                  case rel => exact ⟨k + 2, deep, pre ++ [s[k + 1]], by go_num, by go_num, ⟨by omega, by omega, by omega, by simp; omega, HRN.out, hown2, hb.trans hk2.below⟩⟩
                  case measure => simp [intOf]; omega
          · have q92b : ((s[k].toNat : Int) == 92) = false := ne_u8 (k := 92) (by omega) h92
            have q92 : ((s[k].toNat : Int) != 92) = true := by simp [bne, q92b]
            have HRN := hid (show litT (s.data.toList.drop (k + 1)) deep (pre ++ [s[k]]) (k + 1) = R by rw [← HL.out.eq, HS.out, if_neg n41, if_neg n40, if_neg (by simpa using h92)])
            clear h41 HS h40 n41 n40 h92
            go_wp2_with (at_builtin; refine wpApp8 rfl (.tmp 36) (.tmp 38) rfl w.heap.size _ pre rfl hown _ [s[k]] 1 1 rfl rfl ?cc (by omega) hbs ?_)
            case cc => first | rfl | exact one8 rfl
            intro v2 w2 hown2 hk2
            go_wp2
            go_roundw
            case rel => exact ⟨k + 1, deep, pre ++ [s[k]], by go_num, by go_num, ⟨by omega, by omega, by omega, by simp; omega, HRN.out, hown2, hb.trans hk2.below⟩⟩
            case measure => simp [intOf]; omega
    · have hke : k = s.size := by omega
      have hlt' : ¬ (k : Int) < s.size := by omega
      have HRE := hid (show (5, [], 0) = R by rw [← HL.out.eq, List.drop_eq_nil_of_le (by simp; omega)]; rfl)
      go_wp2
      go_ret3
      refine ⟨?_, hb⟩
      rw [← HRE.out]; rfl
end Go.Proofs.YtddoigjjgcefkaaGreatDoor
