/-
  Reading, the document's answer: a value, case by case.
-/
import Derived.Test.YtfkjoppehbmomaaGreatDoorZf
import Derived.Test.YtfkjoppehbmomaaGreatDoorZh
import Derived.Test.YtfkjoppehbmomaaGreatDoorRf
namespace Go.Proofs.YtfkjoppehbmomaaGreatDoor
open Go.RowKit
set_option maxRecDepth 100000

/-- The answer's own block, still empty. -/
structure BoxA (w a : World) : Prop where
  below : Below w.heap.size w a
  box : At a w.heap.size 26 (vc 0 0 ⟨#[]⟩)
theorem BoxA.new (w : World) : BoxA w (w.alloc (.cells (vc 0 0 ⟨#[]⟩) 26)) := ⟨below_box _ _, At.new _ _ _ rfl⟩
theorem BoxA.later {w a b : World} (h : BoxA w a) (hb : Below a.heap.size a b) : BoxA w b := ⟨h.below.trans (hb.mono h.below.size), At.later h.box hb⟩
theorem BoxA.fill {w a : World} (h : BoxA w a) (k n : Int) (t : ByteArray) :
    let wf := ((((a.setCell ⟨w.heap.size, 0, none⟩ (.int .i64 k)).setCell ⟨w.heap.size, 1, none⟩ (.int .i64 n)).setCell ⟨w.heap.size, 2, none⟩ (.string t)).setCell ⟨w.heap.size, 3, none⟩ (.slice none 0 0)).setCell ⟨w.heap.size, 4, none⟩ (.slice none 0 0)
    Below w.heap.size w wf ∧ At wf w.heap.size 26 (vc k n t) :=
  ⟨below_set5 h.below (Nat.le_refl _) _ _ _ _ _, h.box.vc5 k n t⟩
theorem BoxA.fill5 {w a : World} (h : BoxA w a) (v0 v1 v2 v3 v4 : Value) {wf : World} (hf : wf = set5 a w.heap.size v0 v1 v2 v3 v4) :
    Below w.heap.size w wf ∧ At wf w.heap.size 26 #[v0, v1, v2, v3, v4] ∧ wf.heap.size = a.heap.size ∧ ∀ k, k ≠ w.heap.size → wf.heap[k]? = a.heap[k]? := by
  subst hf
  exact ⟨below_set5 h.below (Nat.le_refl _) _ _ _ _ _, At.five h.box _ _ _ _ _, set5_size _ _ _ _ _ _ _, fun k hk => set5_other _ _ _ _ _ _ _ hk⟩
set_option maxHeartbeats 4000000 in
theorem rvEnd (s : ByteArray) (j d : Nat) (deep : Int) (v : V) (z : Nat) (w : World) (hj : j ≤ s.size) (hs : s.size ≤ 100000) (hp : skipP s j = s.size) :
    Calls Tryz.prog 24 #[.string s, .int .i64 j, .int .i64 deep] w (SaidR w d (v, 5, z)) := by
  have hml : s.size ≤ maxLen := by unfold maxLen; omega
  have e1 : skipP s (place s (j : Int)) = s.size := by rw [place_in hj, hp]
  have hX := BoxA.new w
  clear hX
  go_enter Tryz.func24, Tryz.ntmps24
  go_wp2_with ((go_at_call 12; refine (rSkip s _ _ hml).mono ?_; rintro e w1 ⟨rfl, rfl⟩))
  refine bodyPost_ret (v := .tuple #[.agg (vc 0 0 ⟨#[]⟩), .int .i64 0, .int .i64 5]) (by simp [results, Tryz.results24, go_sem]; try first | exact ⟨rfl, rfl⟩ | rfl) rfl ?_
  exact ⟨0, 0, ⟨#[]⟩, none, none, 0, 0, 0, 0, 0, rfl, below_box _ _, hid (fun h => absurd (show (5 : Int) = 0 from h) (by decide))⟩
set_option maxHeartbeats 4000000 in
theorem rvDeep (s : ByteArray) (j d : Nat) (deep : Int) (v : V) (z : Nat) (w : World) (hj : j ≤ s.size) (hs : s.size ≤ 100000) (hp : ¬ skipP s j = s.size) (hd : 8 < deep) :
    Calls Tryz.prog 24 #[.string s, .int .i64 j, .int .i64 deep] w (SaidR w d (v, 2, z)) := by
  have hml : s.size ≤ maxLen := by unfold maxLen; omega
  have hle := (skipP_le hj).2
  have e1 : skipP s (place s (j : Int)) = skipP s j := by rw [place_in hj]
  generalize skipP s j = p at *
  have hend' : ¬ (p : Int) = s.size := by omega
  have hend2 : ((p : Int) == (s.size : Int)) = false := by simpa using hend'
  have hX := BoxA.new w
  clear hX
  go_enter Tryz.func24, Tryz.ntmps24
  go_wp2_with ((go_at_call 12; refine (rSkip s _ _ hml).mono ?_; rintro e w1 ⟨rfl, rfl⟩))
  refine bodyPost_ret (v := .tuple #[.agg (vc 0 0 ⟨#[]⟩), .int .i64 0, .int .i64 2]) (by simp [results, Tryz.results24, go_sem]; try first | exact ⟨rfl, rfl⟩ | rfl) rfl ?_
  exact ⟨0, 0, ⟨#[]⟩, none, none, 0, 0, 0, 0, 0, rfl, below_box _ _, hid (fun h => absurd (show (2 : Int) = 0 from h) (by decide))⟩
set_option maxHeartbeats 4000000 in
theorem rvName (s : ByteArray) (j p d : Nat) (deep : Int) (w : World) (hj : j ≤ s.size) (hs : s.size ≤ 100000) (hd : 0 ≤ deep ∧ deep ≤ 8) (hp : skipP s j = p) (hpl : p < s.size) (h47 : s[p] = 47) :
    Calls Tryz.prog 24 #[.string s, .int .i64 j, .int .i64 deep] w (SaidR w (d + 1) (nameV s p)) := by
  have hml : s.size ≤ maxLen := by unfold maxLen; omega
  have e1 : skipP s (place s (j : Int)) = p := by rw [place_in hj, hp]
  have hk1 : (p : Int) < (s.size : Int) := by omega
  have hend' : ¬ (p : Int) = s.size := by omega
  have hend2 : ((p : Int) == (s.size : Int)) = false := by simpa using hend'
  have hd8 : ¬ (8 : Int) < deep := by omega
  have hX := BoxA.new w
  have hc := s[p].toNat_lt
  clear hp
  have q47 : (s[p].toNat : Int) = 47 := by rw [h47]; rfl
  have hn := fun (w : World) => rReadName s p w hpl hs
  clear h47
  unfold nameV
  unfold rName at hn
  generalize wordP s (p + 1) = W at hn ⊢
  cases hr : nameR W.data.toList with
  | none =>
    rw [hr] at hn
    simp only at hn ⊢
    clear hr
    go_enter Tryz.func24, Tryz.ntmps24
    go_wp2_with (first | (go_at_call 12; refine (rSkip s _ _ hml).mono ?_; rintro e w1 ⟨rfl, rfl⟩) | (go_at_call 46; go_must (refine (hn _).mono ?_); rintro e wc ⟨rfl, hbc⟩; (replace hX := hX.later hbc); obtain ⟨⟨bx0, bx1, bx2, bx3, bx4⟩, bf0, bf1, bf2, bf3, bf4⟩ := box5 hX.box))
    obtain ⟨hM5, hB5⟩ := hX.fill 4 0 eB
    generalize World.setCell _ _ _ = wf at hB5 hM5 ⊢
    obtain ⟨⟨cx0, cx1, cx2, cx3, cx4⟩, _⟩ := box5 hB5
    refine bodyPost_ret (v := .tuple #[.agg (vc 4 0 eB), .int .i64 0, .int .i64 4]) (by simp [results, Tryz.results24, go_sem, cx0, cx1, cx2, cx3, cx4]; try first | exact ⟨rfl, rfl⟩ | rfl) rfl ?_
    exact ⟨4, 0, eB, none, none, 0, 0, 0, 0, 0, rfl, hM5, hid (fun h => absurd (show (4 : Int) = 0 from h) (by decide))⟩
  | some b =>
    have HBS := hid (show (⟨b.toArray⟩ : ByteArray).size ≤ maxLen from by
      have h1 : (nameL W.data.toList).bind (fun b => if nmOk ⟨b.toArray⟩ then some b else none) = some b := hr
      cases hl : nameL W.data.toList with
      | none => rw [hl] at h1; cases h1
      | some c =>
        rw [hl] at h1
        simp only [Option.bind_some] at h1
        split at h1
        · rename_i hm; cases h1; have := nmOk_size hm; unfold maxLen; omega
        · cases h1)
    rw [hr] at hn
    simp only at hn ⊢
    clear hr
    generalize p + 1 + W.size = J at hn ⊢
    go_enter Tryz.func24, Tryz.ntmps24
    go_wp2_with (first | (go_at_call 12; refine (rSkip s _ _ hml).mono ?_; rintro e w1 ⟨rfl, rfl⟩) | (go_at_call 46; go_must (refine (hn _).mono ?_); rintro e wc ⟨rfl, hbc⟩; (replace hX := hX.later hbc); obtain ⟨⟨bx0, bx1, bx2, bx3, bx4⟩, bf0, bf1, bf2, bf3, bf4⟩ := box5 hX.box))
    obtain ⟨hM5, hB5⟩ := hX.fill 4 0 ⟨b.toArray⟩
    generalize World.setCell _ _ _ = wf at hB5 hM5 ⊢
    obtain ⟨⟨cx0, cx1, cx2, cx3, cx4⟩, _⟩ := box5 hB5
    refine bodyPost_ret (v := .tuple #[.agg (vc 4 0 ⟨b.toArray⟩), .int .i64 (J : Nat), .int .i64 0]) (by simp [results, Tryz.results24, go_sem, cx0, cx1, cx2, cx3, cx4]; try first | exact ⟨rfl, rfl⟩ | rfl) rfl ?_
    exact ⟨4, 0, _, none, none, 0, 0, 0, 0, J, rfl, hM5, hid (fun _ => ⟨rfl, repIn_vc _ _ _ _ _ _ HBS.out⟩)⟩
set_option maxHeartbeats 4000000 in
theorem rvHex (s : ByteArray) (j p d : Nat) (deep : Int) (w : World) (hj : j ≤ s.size) (hs : s.size ≤ 100000) (hd : 0 ≤ deep ∧ deep ≤ 8) (hp : skipP s j = p) (hpl : p < s.size) (h47 : ¬ s[p] = 47) (h40 : ¬ s[p] = 40) (h60 : s[p] = 60) (h6 : ¬ s.data.toList[p + 1]? = some 60) :
    Calls Tryz.prog 24 #[.string s, .int .i64 j, .int .i64 deep] w (SaidR w (d + 1) (hexW s p)) := by
  have hml : s.size ≤ maxLen := by unfold maxLen; omega
  have e1 : skipP s (place s (j : Int)) = p := by rw [place_in hj, hp]
  have hk1 : (p : Int) < (s.size : Int) := by omega
  have hend' : ¬ (p : Int) = s.size := by omega
  have hend2 : ((p : Int) == (s.size : Int)) = false := by simpa using hend'
  have hd8 : ¬ (8 : Int) < deep := by omega
  have hX := BoxA.new w
  have hc := s[p].toNat_lt
  clear hp
  have q47 : ((s[p].toNat : Int) == 47) = false := ne_u8 (k := 47) (by omega) h47
  have q40 : ((s[p].toNat : Int) == 40) = false := ne_u8 (k := 40) (by omega) h40
  have q60 : (s[p].toNat : Int) = 60 := by rw [h60]; rfl
  have hn := fun (w : World) => show Calls Tryz.prog 49 #[.string s, .int .i64 ((p : Int) + 1)] w _ from rUnhex s (p + 1) w (by omega) hs
  unfold hexW
  generalize hexTk (s.data.toList.drop (p + 1)) none [] (p + 1) = r at hn ⊢
  obtain ⟨e0, xs, z⟩ := r
  simp only at hn ⊢
  have hnx : ¬ (p : Int) + 1 < s.size ∨ (∃ h : p + 1 < s.size, (p : Int) + 1 < s.size ∧ ((s[p + 1].toNat : Int) == 60) = false) := by
    by_cases hl : p + 1 < s.size
    · exact .inr ⟨hl, by omega, ne_u8 (k := 60) (by omega) (fun e => h6 (by rw [rdAt_get hl, e]; rfl))⟩
    · exact .inl (by omega)
  clear h6
  obtain ⟨M, hM⟩ : ∃ M, textR e0 xs = M := ⟨_, rfl⟩
  rw [hM]
  have HM := hid hM
  clear hM
  have h3 : (¬ e0 = 0) ∨ (e0 = 0 ∧ (200 : Int) < xs.length) ∨ (e0 = 0 ∧ ¬ (200 : Int) < xs.length) := by omega
  rcases hnx with hl | ⟨hl0, hl, q6⟩
  all_goals rcases h3 with h3 | ⟨rfl, h3⟩ | ⟨rfl, h3⟩
  · have HM2 := hid (show e0 = M by rw [← HM.out]; unfold textR; rw [if_pos h3])
    have HX := hid h3
    have h3' : (e0 == 0) = false := by simpa using h3
    go_enter Tryz.func24, Tryz.ntmps24
    go_wp2_with (first | (go_at_call 12; refine (rSkip s _ _ hml).mono ?_; rintro e w1 ⟨rfl, rfl⟩) | (go_at_call 49; go_must (refine (hn _).mono ?_); rintro e wc ⟨rfl, hbc⟩; (replace hX := hX.later hbc); obtain ⟨⟨bx0, bx1, bx2, bx3, bx4⟩, bf0, bf1, bf2, bf3, bf4⟩ := box5 hX.box))
    obtain ⟨hM5, hB5⟩ := hX.fill 3 0 ⟨xs.toArray⟩
    generalize World.setCell _ _ _ = wf at hB5 hM5 ⊢
    obtain ⟨⟨cx0, cx1, cx2, cx3, cx4⟩, _⟩ := box5 hB5
    refine bodyPost_ret (v := .tuple #[.agg (vc 3 0 ⟨xs.toArray⟩), .int .i64 (z : Nat), .int .i64 e0]) (by simp [results, Tryz.results24, go_sem, cx0, cx1, cx2, cx3, cx4]; try first | exact ⟨rfl, rfl⟩ | rfl) rfl ?_
    exact ⟨3, 0, ⟨xs.toArray⟩, none, none, 0, 0, 0, 0, z, by rw [← HM2.out]; rfl, hM5, hid (fun h => absurd (HM2.out.trans h) HX.out)⟩
  · have HM2 := hid (show 2 = M by rw [← HM.out]; unfold textR; rw [if_neg (by simp), if_pos (by omega)])
    go_enter Tryz.func24, Tryz.ntmps24
    go_wp2_with (first | (go_at_call 12; refine (rSkip s _ _ hml).mono ?_; rintro e w1 ⟨rfl, rfl⟩) | (go_at_call 49; go_must (refine (hn _).mono ?_); rintro e wc ⟨rfl, hbc⟩; (replace hX := hX.later hbc); obtain ⟨⟨bx0, bx1, bx2, bx3, bx4⟩, bf0, bf1, bf2, bf3, bf4⟩ := box5 hX.box))
    obtain ⟨hM5, hB5⟩ := hX.fill 3 0 ⟨xs.toArray⟩
    generalize World.setCell _ _ _ = wf at hB5 hM5 ⊢
    obtain ⟨⟨cx0, cx1, cx2, cx3, cx4⟩, _⟩ := box5 hB5
    refine bodyPost_ret (v := .tuple #[.agg (vc 3 0 ⟨xs.toArray⟩), .int .i64 (z : Nat), .int .i64 2]) (by simp [results, Tryz.results24, go_sem, cx0, cx1, cx2, cx3, cx4]; try first | exact ⟨rfl, rfl⟩ | rfl) rfl ?_
    exact ⟨3, 0, ⟨xs.toArray⟩, none, none, 0, 0, 0, 0, z, by rw [← HM2.out]; rfl, hM5, hid (fun h => absurd (HM2.out.trans h) (by decide))⟩
  · have HM2 := hid (show 0 = M by rw [← HM.out]; unfold textR; rw [if_neg (by simp), if_neg (by omega)])
    go_enter Tryz.func24, Tryz.ntmps24
    go_wp2_with (first | (go_at_call 12; refine (rSkip s _ _ hml).mono ?_; rintro e w1 ⟨rfl, rfl⟩) | (go_at_call 49; go_must (refine (hn _).mono ?_); rintro e wc ⟨rfl, hbc⟩; (replace hX := hX.later hbc); obtain ⟨⟨bx0, bx1, bx2, bx3, bx4⟩, bf0, bf1, bf2, bf3, bf4⟩ := box5 hX.box))
    obtain ⟨hM5, hB5⟩ := hX.fill 3 0 ⟨xs.toArray⟩
    generalize World.setCell _ _ _ = wf at hB5 hM5 ⊢
    obtain ⟨⟨cx0, cx1, cx2, cx3, cx4⟩, _⟩ := box5 hB5
    refine bodyPost_ret (v := .tuple #[.agg (vc 3 0 ⟨xs.toArray⟩), .int .i64 (z : Nat), .int .i64 0]) (by simp [results, Tryz.results24, go_sem, cx0, cx1, cx2, cx3, cx4]; try first | exact ⟨rfl, rfl⟩ | rfl) rfl ?_
    exact ⟨3, 0, ⟨xs.toArray⟩, none, none, 0, 0, 0, 0, z, by rw [← HM2.out]; rfl, hM5, hid (fun _ => ⟨rfl, repIn_vc _ _ _ _ _ _ (by unfold maxLen; show xs.toArray.size ≤ _; simp; omega)⟩)⟩
  · have HM2 := hid (show e0 = M by rw [← HM.out]; unfold textR; rw [if_pos h3])
    have HX := hid h3
    have h3' : (e0 == 0) = false := by simpa using h3
    go_enter Tryz.func24, Tryz.ntmps24
    go_wp2_with (first | (go_at_call 12; refine (rSkip s _ _ hml).mono ?_; rintro e w1 ⟨rfl, rfl⟩) | (go_at_call 49; go_must (refine (hn _).mono ?_); rintro e wc ⟨rfl, hbc⟩; (replace hX := hX.later hbc); obtain ⟨⟨bx0, bx1, bx2, bx3, bx4⟩, bf0, bf1, bf2, bf3, bf4⟩ := box5 hX.box))
    obtain ⟨hM5, hB5⟩ := hX.fill 3 0 ⟨xs.toArray⟩
    generalize World.setCell _ _ _ = wf at hB5 hM5 ⊢
    obtain ⟨⟨cx0, cx1, cx2, cx3, cx4⟩, _⟩ := box5 hB5
    refine bodyPost_ret (v := .tuple #[.agg (vc 3 0 ⟨xs.toArray⟩), .int .i64 (z : Nat), .int .i64 e0]) (by simp [results, Tryz.results24, go_sem, cx0, cx1, cx2, cx3, cx4]; try first | exact ⟨rfl, rfl⟩ | rfl) rfl ?_
    exact ⟨3, 0, ⟨xs.toArray⟩, none, none, 0, 0, 0, 0, z, by rw [← HM2.out]; rfl, hM5, hid (fun h => absurd (HM2.out.trans h) HX.out)⟩
  · have HM2 := hid (show 2 = M by rw [← HM.out]; unfold textR; rw [if_neg (by simp), if_pos (by omega)])
    go_enter Tryz.func24, Tryz.ntmps24
    go_wp2_with (first | (go_at_call 12; refine (rSkip s _ _ hml).mono ?_; rintro e w1 ⟨rfl, rfl⟩) | (go_at_call 49; go_must (refine (hn _).mono ?_); rintro e wc ⟨rfl, hbc⟩; (replace hX := hX.later hbc); obtain ⟨⟨bx0, bx1, bx2, bx3, bx4⟩, bf0, bf1, bf2, bf3, bf4⟩ := box5 hX.box))
    obtain ⟨hM5, hB5⟩ := hX.fill 3 0 ⟨xs.toArray⟩
    generalize World.setCell _ _ _ = wf at hB5 hM5 ⊢
    obtain ⟨⟨cx0, cx1, cx2, cx3, cx4⟩, _⟩ := box5 hB5
    refine bodyPost_ret (v := .tuple #[.agg (vc 3 0 ⟨xs.toArray⟩), .int .i64 (z : Nat), .int .i64 2]) (by simp [results, Tryz.results24, go_sem, cx0, cx1, cx2, cx3, cx4]; try first | exact ⟨rfl, rfl⟩ | rfl) rfl ?_
    exact ⟨3, 0, ⟨xs.toArray⟩, none, none, 0, 0, 0, 0, z, by rw [← HM2.out]; rfl, hM5, hid (fun h => absurd (HM2.out.trans h) (by decide))⟩
  · have HM2 := hid (show 0 = M by rw [← HM.out]; unfold textR; rw [if_neg (by simp), if_neg (by omega)])
    go_enter Tryz.func24, Tryz.ntmps24
    go_wp2_with (first | (go_at_call 12; refine (rSkip s _ _ hml).mono ?_; rintro e w1 ⟨rfl, rfl⟩) | (go_at_call 49; go_must (refine (hn _).mono ?_); rintro e wc ⟨rfl, hbc⟩; (replace hX := hX.later hbc); obtain ⟨⟨bx0, bx1, bx2, bx3, bx4⟩, bf0, bf1, bf2, bf3, bf4⟩ := box5 hX.box))
    obtain ⟨hM5, hB5⟩ := hX.fill 3 0 ⟨xs.toArray⟩
    generalize World.setCell _ _ _ = wf at hB5 hM5 ⊢
    obtain ⟨⟨cx0, cx1, cx2, cx3, cx4⟩, _⟩ := box5 hB5
    refine bodyPost_ret (v := .tuple #[.agg (vc 3 0 ⟨xs.toArray⟩), .int .i64 (z : Nat), .int .i64 0]) (by simp [results, Tryz.results24, go_sem, cx0, cx1, cx2, cx3, cx4]; try first | exact ⟨rfl, rfl⟩ | rfl) rfl ?_
    exact ⟨3, 0, ⟨xs.toArray⟩, none, none, 0, 0, 0, 0, z, by rw [← HM2.out]; rfl, hM5, hid (fun _ => ⟨rfl, repIn_vc _ _ _ _ _ _ (by unfold maxLen; show xs.toArray.size ≤ _; simp; omega)⟩)⟩
set_option maxHeartbeats 4000000 in
theorem rvList (s : ByteArray) (j p d : Nat) (deep : Int) (w : World) (hj : j ≤ s.size) (hs : s.size ≤ 100000) (hd : 0 ≤ deep ∧ deep ≤ 8) (hp : skipP s j = p) (hpl : p < s.size) (h47 : ¬ s[p] = 47) (h40 : ¬ s[p] = 40) (h60 : ¬ s[p] = 60) (h91 : s[p] = 91) (f : Nat → Rd) (hfit : Fits s f) (hnn : ∀ j, 0 ≤ (f j).2.1)
    (hval : ∀ (w : World) (j : Nat), j ≤ s.size → Calls Tryz.prog 24 #[.string s, .int .i64 j, .int .i64 (deep + 1)] w (SaidR w d (f j))) :
    Calls Tryz.prog 24 #[.string s, .int .i64 j, .int .i64 deep] w (SaidR w (d + 1) (listV f s p)) := by
  have hml : s.size ≤ maxLen := by unfold maxLen; omega
  have e1 : skipP s (place s (j : Int)) = p := by rw [place_in hj, hp]
  have hk1 : (p : Int) < (s.size : Int) := by omega
  have hend' : ¬ (p : Int) = s.size := by omega
  have hend2 : ((p : Int) == (s.size : Int)) = false := by simpa using hend'
  have hd8 : ¬ (8 : Int) < deep := by omega
  have hX := BoxA.new w
  have hc := s[p].toNat_lt
  clear hp
  have q47 : ((s[p].toNat : Int) == 47) = false := ne_u8 (k := 47) (by omega) h47
  have q40 : ((s[p].toNat : Int) == 40) = false := ne_u8 (k := 40) (by omega) h40
  have q60 : ((s[p].toNat : Int) == 60) = false := ne_u8 (k := 60) (by omega) h60
  have q91 : (s[p].toNat : Int) = 91 := by rw [h91]; rfl
  have hn := fun (w : World) => show Calls Tryz.prog 50 #[.string s, .int .i64 ((p : Int) + 1), .int .i64 deep] w _ from rList s (p + 1) d deep f w (by omega) hs hd hfit hnn hval
  clear hval hfit hnn
  unfold listV
  generalize rdL f s 302 [] (p + 1) = r at hn ⊢
  obtain ⟨r1, e0, z1⟩ := r
  unfold SaidR at hn
  simp only at hn ⊢
  go_enter Tryz.func24, Tryz.ntmps24
  go_wp2_with (first | (go_at_call 12; refine (rSkip s _ _ hml).mono ?_; rintro e w1 ⟨rfl, rfl⟩) | (go_at_call 50; go_must (refine (hn _).mono ?_); rintro e wc ⟨k1, n1, t1, a1, a2, l1, c1, l2, c2, J, rfl, hbc, HQ⟩; (have HLX := hid (At.lt hX.box)); (replace hX := hX.later hbc); obtain ⟨⟨bx0, bx1, bx2, bx3, bx4⟩, bf0, bf1, bf2, bf3, bf4⟩ := box5 hX.box))
  obtain ⟨hM5, hB5, hS5, hO5⟩ := hX.fill5 (.int .i64 k1) (.int .i64 n1) (.string t1) (.slice a1 l1 c1) (.slice a2 l2 c2) rfl
  unfold set5 at hM5 hB5 hS5 hO5
  generalize World.setCell _ _ _ = wf at hM5 hB5 hS5 hO5 ⊢
  obtain ⟨⟨cx0, cx1, cx2, cx3, cx4⟩, _⟩ := five_cells hB5
  refine bodyPost_ret (v := .tuple #[.agg #[.int .i64 k1, .int .i64 n1, .string t1, .slice a1 l1 c1, .slice a2 l2 c2], .int .i64 (J : Nat), .int .i64 e0]) (by simp [results, Tryz.results24, go_sem, cx0, cx1, cx2, cx3, cx4]; try first | exact ⟨rfl, rfl⟩ | rfl) rfl ?_
  refine ⟨k1, n1, t1, a1, a2, l1, c1, l2, c2, J, rfl, hM5, hid (fun h => ?_)⟩
  obtain ⟨q1, q3⟩ := HQ.out h
  exact ⟨q1, repIn_boxed hS5 hO5 HLX.out q3⟩
set_option maxHeartbeats 4000000 in
theorem rvDict (s : ByteArray) (j p d : Nat) (deep : Int) (w : World) (hj : j ≤ s.size) (hs : s.size ≤ 100000) (hd : 0 ≤ deep ∧ deep ≤ 8) (hp : skipP s j = p) (hpl : p < s.size) (h47 : ¬ s[p] = 47) (h40 : ¬ s[p] = 40) (h60 : s[p] = 60) (h6 : s.data.toList[p + 1]? = some 60) (f : Nat → Rd) (hfit : Fits s f) (hnn : ∀ j, 0 ≤ (f j).2.1)
    (hval : ∀ (w : World) (j : Nat), j ≤ s.size → Calls Tryz.prog 24 #[.string s, .int .i64 j, .int .i64 (deep + 1)] w (SaidR w d (f j))) :
    Calls Tryz.prog 24 #[.string s, .int .i64 j, .int .i64 deep] w (SaidR w (d + 1) (dictV f s p)) := by
  have hml : s.size ≤ maxLen := by unfold maxLen; omega
  have e1 : skipP s (place s (j : Int)) = p := by rw [place_in hj, hp]
  have hk1 : (p : Int) < (s.size : Int) := by omega
  have hend' : ¬ (p : Int) = s.size := by omega
  have hend2 : ((p : Int) == (s.size : Int)) = false := by simpa using hend'
  have hd8 : ¬ (8 : Int) < deep := by omega
  have hX := BoxA.new w
  have hc := s[p].toNat_lt
  clear hp
  have q47 : ((s[p].toNat : Int) == 47) = false := ne_u8 (k := 47) (by omega) h47
  have q40 : ((s[p].toNat : Int) == 40) = false := ne_u8 (k := 40) (by omega) h40
  have q60 : (s[p].toNat : Int) = 60 := by rw [h60]; rfl
  have hl2 : p + 1 < s.size := by simpa using (List.getElem?_eq_some_iff.1 h6).1
  have hl2' : (p : Int) + 1 < s.size := by omega
  have q6 : (s[p + 1].toNat : Int) = 60 := by
    have := rdAt_get hl2
    rw [h6] at this
    injection this with this
    rw [← this]; rfl
  have hn := fun (w : World) => show Calls Tryz.prog 48 #[.string s, .int .i64 ((p : Int) + 2), .int .i64 deep] w _ from rDict s (p + 2) d deep f w (by omega) hs hd hfit hnn hval
  clear hval hfit hnn
  unfold dictV
  generalize rdD f s 302 [] (p + 2) = r at hn ⊢
  obtain ⟨r1, e0, z1⟩ := r
  unfold SaidR at hn
  simp only at hn ⊢
  go_enter Tryz.func24, Tryz.ntmps24
  go_wp2_with (first | (go_at_call 12; refine (rSkip s _ _ hml).mono ?_; rintro e w1 ⟨rfl, rfl⟩) | (go_at_call 48; go_must (refine (hn _).mono ?_); rintro e wc ⟨k1, n1, t1, a1, a2, l1, c1, l2, c2, J, rfl, hbc, HQ⟩; (have HLX := hid (At.lt hX.box)); (replace hX := hX.later hbc); obtain ⟨⟨bx0, bx1, bx2, bx3, bx4⟩, bf0, bf1, bf2, bf3, bf4⟩ := box5 hX.box))
  obtain ⟨hM5, hB5, hS5, hO5⟩ := hX.fill5 (.int .i64 k1) (.int .i64 n1) (.string t1) (.slice a1 l1 c1) (.slice a2 l2 c2) rfl
  unfold set5 at hM5 hB5 hS5 hO5
  generalize World.setCell _ _ _ = wf at hM5 hB5 hS5 hO5 ⊢
  obtain ⟨⟨cx0, cx1, cx2, cx3, cx4⟩, _⟩ := five_cells hB5
  refine bodyPost_ret (v := .tuple #[.agg #[.int .i64 k1, .int .i64 n1, .string t1, .slice a1 l1 c1, .slice a2 l2 c2], .int .i64 (J : Nat), .int .i64 e0]) (by simp [results, Tryz.results24, go_sem, cx0, cx1, cx2, cx3, cx4]; try first | exact ⟨rfl, rfl⟩ | rfl) rfl ?_
  refine ⟨k1, n1, t1, a1, a2, l1, c1, l2, c2, J, rfl, hM5, hid (fun h => ?_)⟩
  obtain ⟨q1, q3⟩ := HQ.out h
  exact ⟨q1, repIn_boxed hS5 hO5 HLX.out q3⟩
end Go.Proofs.YtfkjoppehbmomaaGreatDoor
