/-
  Joined: Zi, Zj.
-/
import Derived.Test.YtefbfgcbbpmhlabGreatDoorZf
import Derived.Test.YtefbfgcbbpmhlabGreatDoorZh
import Derived.Test.YtefbfgcbbpmhlabGreatDoorRf

/-
  Reading, the document's answer: a value, case by case.
-/
namespace Go.Proofs.YtefbfgcbbpmhlabGreatDoor
open Go.RowKit
set_option maxRecDepth 100000

/-- The answer's own block, still empty. -/
structure BoxA (w a : World) : Prop where
  below : Below w.heap.size w a
  box : At a w.heap.size 26 (vc 0 0 ⟨#[]⟩)
theorem BoxA.new (w : World) : BoxA w (w.alloc (.cells (vc 0 0 ⟨#[]⟩) 26)) := ⟨below_box _ _, At.new _ _ _ rfl⟩
theorem BoxA.later {w a b : World} (h : BoxA w a) (hb : Below a.heap.size a b) : BoxA w b := ⟨h.below.trans (hb.mono h.below.size), At.later h.box hb⟩
theorem BoxA.fill {w a : World} (h : BoxA w a) (k n : Int) (t : ByteArray) :
    let wf := ((((a.setCell ⟨w.heap.size, 0, none⟩ (.int .i64 k)).setCell ⟨w.heap.size, 1, none⟩ (.int .i64 n)).setCell ⟨w.heap.size, 2, none⟩ (.string t)).setCell ⟨w.heap.size, 3, none⟩ (.slice none 0 0)).setCell ⟨w.heap.size, 4, none⟩ (.slice none 0 0)
    Below w.heap.size w wf ∧ At wf w.heap.size 26 (vc k n t) :=
  ⟨below_set5 h.below (Nat.le_refl _) _ _ _ _ _, h.box.vc5 k n t⟩
theorem BoxA.fill5 {w a : World} (h : BoxA w a) (v0 v1 v2 v3 v4 : Value) {wf : World} (hf : wf = set5 a w.heap.size v0 v1 v2 v3 v4) :
    Below w.heap.size w wf ∧ At wf w.heap.size 26 #[v0, v1, v2, v3, v4] ∧ wf.heap.size = a.heap.size ∧ ∀ k, k ≠ w.heap.size → wf.heap[k]? = a.heap[k]? := by
  subst hf
  exact ⟨below_set5 h.below (Nat.le_refl _) _ _ _ _ _, At.five h.box _ _ _ _ _, set5_size _ _ _ _ _ _ _, fun k hk => set5_other _ _ _ _ _ _ _ hk⟩
set_option maxHeartbeats 4000000 in
theorem rvEnd (s : ByteArray) (j d : Nat) (deep : Int) (v : V) (z : Nat) (w : World) (hj : j ≤ s.size) (hs : s.size ≤ 100000) (hp : skipP s j = s.size) :
    Calls Tryz.prog 131 #[.string s, .int .i64 j, .int .i64 deep] w (SaidR w d (v, 5, z)) := by
  have hml : s.size ≤ maxLen := by unfold maxLen; omega
  have e1 : skipP s (place s (j : Int)) = s.size := by rw [place_in hj, hp]
  have hX := BoxA.new w
  clear hX
  go_enter Tryz.func131, Tryz.ntmps131
  go_wp2_with ((go_at_call 78; refine (rSkip s _ _ hml).mono ?_; rintro e w1 ⟨rfl, rfl⟩))
  refine bodyPost_ret (v := .tuple #[.agg (vc 0 0 ⟨#[]⟩), .int .i64 0, .int .i64 5]) (by simp [results, Tryz.results131, go_sem]; try first | exact ⟨rfl, rfl⟩ | rfl) rfl ?_
  exact ⟨0, 0, ⟨#[]⟩, none, none, 0, 0, 0, 0, 0, rfl, below_box _ _, hid (fun h => absurd (show (5 : Int) = 0 from h) (by decide))⟩
set_option maxHeartbeats 4000000 in
theorem rvDeep (s : ByteArray) (j d : Nat) (deep : Int) (v : V) (z : Nat) (w : World) (hj : j ≤ s.size) (hs : s.size ≤ 100000) (hp : ¬ skipP s j = s.size) (hd : 8 < deep) :
    Calls Tryz.prog 131 #[.string s, .int .i64 j, .int .i64 deep] w (SaidR w d (v, 2, z)) := by
  have hml : s.size ≤ maxLen := by unfold maxLen; omega
  have hle := (skipP_le hj).2
  have e1 : skipP s (place s (j : Int)) = skipP s j := by rw [place_in hj]
  generalize skipP s j = p at *
  have hend' : ¬ (p : Int) = s.size := by omega
  have hend2 : ((p : Int) == (s.size : Int)) = false := by simpa using hend'
  have hX := BoxA.new w
  clear hX
  go_enter Tryz.func131, Tryz.ntmps131
  go_wp2_with ((go_at_call 78; refine (rSkip s _ _ hml).mono ?_; rintro e w1 ⟨rfl, rfl⟩))
  refine bodyPost_ret (v := .tuple #[.agg (vc 0 0 ⟨#[]⟩), .int .i64 0, .int .i64 2]) (by simp [results, Tryz.results131, go_sem]; try first | exact ⟨rfl, rfl⟩ | rfl) rfl ?_
  exact ⟨0, 0, ⟨#[]⟩, none, none, 0, 0, 0, 0, 0, rfl, below_box _ _, hid (fun h => absurd (show (2 : Int) = 0 from h) (by decide))⟩
set_option maxHeartbeats 4000000 in
theorem rvName (s : ByteArray) (j p d : Nat) (deep : Int) (w : World) (hj : j ≤ s.size) (hs : s.size ≤ 100000) (hd : 0 ≤ deep ∧ deep ≤ 8) (hp : skipP s j = p) (hpl : p < s.size) (h47 : s[p] = 47) :
    Calls Tryz.prog 131 #[.string s, .int .i64 j, .int .i64 deep] w (SaidR w (d + 1) (nameV s p)) := by
  have hml : s.size ≤ maxLen := by unfold maxLen; omega
  have e1 : skipP s (place s (j : Int)) = p := by rw [place_in hj, hp]
  have hk1 : (p : Int) < (s.size : Int) := by omega
  have hend' : ¬ (p : Int) = s.size := by omega
  have hend2 : ((p : Int) == (s.size : Int)) = false := by simpa using hend'
  have hd8 : ¬ (8 : Int) < deep := by omega
  have hX := BoxA.new w
  have hc := s[p].toNat_lt
  clear hp
  have q47 : (s[p].toNat : Int) = 47 := by rw [h47]; rfl
  have hn := fun (w : World) => rReadName s p w hpl hs
  clear h47
  unfold nameV
  unfold rName at hn
  generalize wordP s (p + 1) = W at hn ⊢
  cases hr : nameR W.data.toList with
  | none =>
    rw [hr] at hn
    simp only at hn ⊢
    clear hr
    go_enter Tryz.func131, Tryz.ntmps131
    go_wp2_with (first | (go_at_call 78; refine (rSkip s _ _ hml).mono ?_; rintro e w1 ⟨rfl, rfl⟩) | (go_at_call 185; go_must (refine (hn _).mono ?_); rintro e wc ⟨rfl, hbc⟩; (replace hX := hX.later hbc); obtain ⟨⟨bx0, bx1, bx2, bx3, bx4⟩, bf0, bf1, bf2, bf3, bf4⟩ := box5 hX.box))
    obtain ⟨hM5, hB5⟩ := hX.fill 4 0 eB
    generalize World.setCell _ _ _ = wf at hB5 hM5 ⊢
    obtain ⟨⟨cx0, cx1, cx2, cx3, cx4⟩, _⟩ := box5 hB5
    refine bodyPost_ret (v := .tuple #[.agg (vc 4 0 eB), .int .i64 0, .int .i64 4]) (by simp [results, Tryz.results131, go_sem, cx0, cx1, cx2, cx3, cx4]; try first | exact ⟨rfl, rfl⟩ | rfl) rfl ?_
    exact ⟨4, 0, eB, none, none, 0, 0, 0, 0, 0, rfl, hM5, hid (fun h => absurd (show (4 : Int) = 0 from h) (by decide))⟩
  | some b =>
    have HBS := hid (show (⟨b.toArray⟩ : ByteArray).size ≤ maxLen from by
      have h1 : (nameL W.data.toList).bind (fun b => if nmOk ⟨b.toArray⟩ then some b else none) = some b := hr
      cases hl : nameL W.data.toList with
      | none => rw [hl] at h1; cases h1
      | some c =>
        rw [hl] at h1
        simp only [Option.bind_some] at h1
        split at h1
        · rename_i hm; cases h1; have := nmOk_size hm; unfold maxLen; omega
        · cases h1)
    rw [hr] at hn
    simp only at hn ⊢
    clear hr
    generalize p + 1 + W.size = J at hn ⊢
    go_enter Tryz.func131, Tryz.ntmps131
    go_wp2_with (first | (go_at_call 78; refine (rSkip s _ _ hml).mono ?_; rintro e w1 ⟨rfl, rfl⟩) | (go_at_call 185; go_must (refine (hn _).mono ?_); rintro e wc ⟨rfl, hbc⟩; (replace hX := hX.later hbc); obtain ⟨⟨bx0, bx1, bx2, bx3, bx4⟩, bf0, bf1, bf2, bf3, bf4⟩ := box5 hX.box))
    obtain ⟨hM5, hB5⟩ := hX.fill 4 0 ⟨b.toArray⟩
    generalize World.setCell _ _ _ = wf at hB5 hM5 ⊢
    obtain ⟨⟨cx0, cx1, cx2, cx3, cx4⟩, _⟩ := box5 hB5
    refine bodyPost_ret (v := .tuple #[.agg (vc 4 0 ⟨b.toArray⟩), .int .i64 (J : Nat), .int .i64 0]) (by simp [results, Tryz.results131, go_sem, cx0, cx1, cx2, cx3, cx4]; try first | exact ⟨rfl, rfl⟩ | rfl) rfl ?_
    exact ⟨4, 0, _, none, none, 0, 0, 0, 0, J, rfl, hM5, hid (fun _ => ⟨rfl, repIn_vc _ _ _ _ _ _ HBS.out⟩)⟩
set_option maxHeartbeats 4000000 in
theorem rvHex (s : ByteArray) (j p d : Nat) (deep : Int) (w : World) (hj : j ≤ s.size) (hs : s.size ≤ 100000) (hd : 0 ≤ deep ∧ deep ≤ 8) (hp : skipP s j = p) (hpl : p < s.size) (h47 : ¬ s[p] = 47) (h40 : ¬ s[p] = 40) (h60 : s[p] = 60) (h6 : ¬ s.data.toList[p + 1]? = some 60) :
    Calls Tryz.prog 131 #[.string s, .int .i64 j, .int .i64 deep] w (SaidR w (d + 1) (hexW s p)) := by
  have hml : s.size ≤ maxLen := by unfold maxLen; omega
  have e1 : skipP s (place s (j : Int)) = p := by rw [place_in hj, hp]
  have hk1 : (p : Int) < (s.size : Int) := by omega
  have hend' : ¬ (p : Int) = s.size := by omega
  have hend2 : ((p : Int) == (s.size : Int)) = false := by simpa using hend'
  have hd8 : ¬ (8 : Int) < deep := by omega
  have hX := BoxA.new w
  have hc := s[p].toNat_lt
  clear hp
  have q47 : ((s[p].toNat : Int) == 47) = false := ne_u8 (k := 47) (by omega) h47
  have q40 : ((s[p].toNat : Int) == 40) = false := ne_u8 (k := 40) (by omega) h40
  have q60 : (s[p].toNat : Int) = 60 := by rw [h60]; rfl
  have hn := fun (w : World) => show Calls Tryz.prog 188 #[.string s, .int .i64 ((p : Int) + 1)] w _ from rUnhex s (p + 1) w (by omega) hs
  unfold hexW
  generalize hexTk (s.data.toList.drop (p + 1)) none [] (p + 1) = r at hn ⊢
  obtain ⟨e0, xs, z⟩ := r
  simp only at hn ⊢
  have hnx : ¬ (p : Int) + 1 < s.size ∨ (∃ h : p + 1 < s.size, (p : Int) + 1 < s.size ∧ ((s[p + 1].toNat : Int) == 60) = false) := by
    by_cases hl : p + 1 < s.size
    · exact .inr ⟨hl, by omega, ne_u8 (k := 60) (by omega) (fun e => h6 (by rw [rdAt_get hl, e]; rfl))⟩
    · exact .inl (by omega)
  clear h6
  obtain ⟨M, hM⟩ : ∃ M, textR e0 xs = M := ⟨_, rfl⟩
  rw [hM]
  have HM := hid hM
  clear hM
  have h3 : (¬ e0 = 0) ∨ (e0 = 0 ∧ (200 : Int) < xs.length) ∨ (e0 = 0 ∧ ¬ (200 : Int) < xs.length) := by omega
  rcases hnx with hl | ⟨hl0, hl, q6⟩
  all_goals rcases h3 with h3 | ⟨rfl, h3⟩ | ⟨rfl, h3⟩
  · have HM2 := hid (show e0 = M by rw [← HM.out]; unfold textR; rw [if_pos h3])
    have HX := hid h3
    have h3' : (e0 == 0) = false := by simpa using h3
    go_enter Tryz.func131, Tryz.ntmps131
    go_wp2_with (first | (go_at_call 78; refine (rSkip s _ _ hml).mono ?_; rintro e w1 ⟨rfl, rfl⟩) | (go_at_call 188; go_must (refine (hn _).mono ?_); rintro e wc ⟨rfl, hbc⟩; (replace hX := hX.later hbc); obtain ⟨⟨bx0, bx1, bx2, bx3, bx4⟩, bf0, bf1, bf2, bf3, bf4⟩ := box5 hX.box))
    obtain ⟨hM5, hB5⟩ := hX.fill 3 0 ⟨xs.toArray⟩
    generalize World.setCell _ _ _ = wf at hB5 hM5 ⊢
    obtain ⟨⟨cx0, cx1, cx2, cx3, cx4⟩, _⟩ := box5 hB5
    refine bodyPost_ret (v := .tuple #[.agg (vc 3 0 ⟨xs.toArray⟩), .int .i64 (z : Nat), .int .i64 e0]) (by simp [results, Tryz.results131, go_sem, cx0, cx1, cx2, cx3, cx4]; try first | exact ⟨rfl, rfl⟩ | rfl) rfl ?_
    exact ⟨3, 0, ⟨xs.toArray⟩, none, none, 0, 0, 0, 0, z, by rw [← HM2.out]; rfl, hM5, hid (fun h => absurd (HM2.out.trans h) HX.out)⟩
  · have HM2 := hid (show 2 = M by rw [← HM.out]; unfold textR; rw [if_neg (by simp), if_pos (by omega)])
    go_enter Tryz.func131, Tryz.ntmps131
    go_wp2_with (first | (go_at_call 78; refine (rSkip s _ _ hml).mono ?_; rintro e w1 ⟨rfl, rfl⟩) | (go_at_call 188; go_must (refine (hn _).mono ?_); rintro e wc ⟨rfl, hbc⟩; (replace hX := hX.later hbc); obtain ⟨⟨bx0, bx1, bx2, bx3, bx4⟩, bf0, bf1, bf2, bf3, bf4⟩ := box5 hX.box))
    obtain ⟨hM5, hB5⟩ := hX.fill 3 0 ⟨xs.toArray⟩
    generalize World.setCell _ _ _ = wf at hB5 hM5 ⊢
    obtain ⟨⟨cx0, cx1, cx2, cx3, cx4⟩, _⟩ := box5 hB5
    refine bodyPost_ret (v := .tuple #[.agg (vc 3 0 ⟨xs.toArray⟩), .int .i64 (z : Nat), .int .i64 2]) (by simp [results, Tryz.results131, go_sem, cx0, cx1, cx2, cx3, cx4]; try first | exact ⟨rfl, rfl⟩ | rfl) rfl ?_
    exact ⟨3, 0, ⟨xs.toArray⟩, none, none, 0, 0, 0, 0, z, by rw [← HM2.out]; rfl, hM5, hid (fun h => absurd (HM2.out.trans h) (by decide))⟩
  · have HM2 := hid (show 0 = M by rw [← HM.out]; unfold textR; rw [if_neg (by simp), if_neg (by omega)])
    go_enter Tryz.func131, Tryz.ntmps131
    go_wp2_with (first | (go_at_call 78; refine (rSkip s _ _ hml).mono ?_; rintro e w1 ⟨rfl, rfl⟩) | (go_at_call 188; go_must (refine (hn _).mono ?_); rintro e wc ⟨rfl, hbc⟩; (replace hX := hX.later hbc); obtain ⟨⟨bx0, bx1, bx2, bx3, bx4⟩, bf0, bf1, bf2, bf3, bf4⟩ := box5 hX.box))
    obtain ⟨hM5, hB5⟩ := hX.fill 3 0 ⟨xs.toArray⟩
    generalize World.setCell _ _ _ = wf at hB5 hM5 ⊢
    obtain ⟨⟨cx0, cx1, cx2, cx3, cx4⟩, _⟩ := box5 hB5
    refine bodyPost_ret (v := .tuple #[.agg (vc 3 0 ⟨xs.toArray⟩), .int .i64 (z : Nat), .int .i64 0]) (by simp [results, Tryz.results131, go_sem, cx0, cx1, cx2, cx3, cx4]; try first | exact ⟨rfl, rfl⟩ | rfl) rfl ?_
    exact ⟨3, 0, ⟨xs.toArray⟩, none, none, 0, 0, 0, 0, z, by rw [← HM2.out]; rfl, hM5, hid (fun _ => ⟨rfl, repIn_vc _ _ _ _ _ _ (by unfold maxLen; show xs.toArray.size ≤ _; simp; omega)⟩)⟩
  · have HM2 := hid (show e0 = M by rw [← HM.out]; unfold textR; rw [if_pos h3])
    have HX := hid h3
    have h3' : (e0 == 0) = false := by simpa using h3
    go_enter Tryz.func131, Tryz.ntmps131
    go_wp2_with (first | (go_at_call 78; refine (rSkip s _ _ hml).mono ?_; rintro e w1 ⟨rfl, rfl⟩) | (go_at_call 188; go_must (refine (hn _).mono ?_); rintro e wc ⟨rfl, hbc⟩; (replace hX := hX.later hbc); obtain ⟨⟨bx0, bx1, bx2, bx3, bx4⟩, bf0, bf1, bf2, bf3, bf4⟩ := box5 hX.box))
    obtain ⟨hM5, hB5⟩ := hX.fill 3 0 ⟨xs.toArray⟩
    generalize World.setCell _ _ _ = wf at hB5 hM5 ⊢
    obtain ⟨⟨cx0, cx1, cx2, cx3, cx4⟩, _⟩ := box5 hB5
    refine bodyPost_ret (v := .tuple #[.agg (vc 3 0 ⟨xs.toArray⟩), .int .i64 (z : Nat), .int .i64 e0]) (by simp [results, Tryz.results131, go_sem, cx0, cx1, cx2, cx3, cx4]; try first | exact ⟨rfl, rfl⟩ | rfl) rfl ?_
    exact ⟨3, 0, ⟨xs.toArray⟩, none, none, 0, 0, 0, 0, z, by rw [← HM2.out]; rfl, hM5, hid (fun h => absurd (HM2.out.trans h) HX.out)⟩
  · have HM2 := hid (show 2 = M by rw [← HM.out]; unfold textR; rw [if_neg (by simp), if_pos (by omega)])
    go_enter Tryz.func131, Tryz.ntmps131
    go_wp2_with (first | (go_at_call 78; refine (rSkip s _ _ hml).mono ?_; rintro e w1 ⟨rfl, rfl⟩) | (go_at_call 188; go_must (refine (hn _).mono ?_); rintro e wc ⟨rfl, hbc⟩; (replace hX := hX.later hbc); obtain ⟨⟨bx0, bx1, bx2, bx3, bx4⟩, bf0, bf1, bf2, bf3, bf4⟩ := box5 hX.box))
    obtain ⟨hM5, hB5⟩ := hX.fill 3 0 ⟨xs.toArray⟩
    generalize World.setCell _ _ _ = wf at hB5 hM5 ⊢
    obtain ⟨⟨cx0, cx1, cx2, cx3, cx4⟩, _⟩ := box5 hB5
    refine bodyPost_ret (v := .tuple #[.agg (vc 3 0 ⟨xs.toArray⟩), .int .i64 (z : Nat), .int .i64 2]) (by simp [results, Tryz.results131, go_sem, cx0, cx1, cx2, cx3, cx4]; try first | exact ⟨rfl, rfl⟩ | rfl) rfl ?_
    exact ⟨3, 0, ⟨xs.toArray⟩, none, none, 0, 0, 0, 0, z, by rw [← HM2.out]; rfl, hM5, hid (fun h => absurd (HM2.out.trans h) (by decide))⟩
  · have HM2 := hid (show 0 = M by rw [← HM.out]; unfold textR; rw [if_neg (by simp), if_neg (by omega)])
    go_enter Tryz.func131, Tryz.ntmps131
    go_wp2_with (first | (go_at_call 78; refine (rSkip s _ _ hml).mono ?_; rintro e w1 ⟨rfl, rfl⟩) | (go_at_call 188; go_must (refine (hn _).mono ?_); rintro e wc ⟨rfl, hbc⟩; (replace hX := hX.later hbc); obtain ⟨⟨bx0, bx1, bx2, bx3, bx4⟩, bf0, bf1, bf2, bf3, bf4⟩ := box5 hX.box))
    obtain ⟨hM5, hB5⟩ := hX.fill 3 0 ⟨xs.toArray⟩
    generalize World.setCell _ _ _ = wf at hB5 hM5 ⊢
    obtain ⟨⟨cx0, cx1, cx2, cx3, cx4⟩, _⟩ := box5 hB5
    refine bodyPost_ret (v := .tuple #[.agg (vc 3 0 ⟨xs.toArray⟩), .int .i64 (z : Nat), .int .i64 0]) (by simp [results, Tryz.results131, go_sem, cx0, cx1, cx2, cx3, cx4]; try first | exact ⟨rfl, rfl⟩ | rfl) rfl ?_
    exact ⟨3, 0, ⟨xs.toArray⟩, none, none, 0, 0, 0, 0, z, by rw [← HM2.out]; rfl, hM5, hid (fun _ => ⟨rfl, repIn_vc _ _ _ _ _ _ (by unfold maxLen; show xs.toArray.size ≤ _; simp; omega)⟩)⟩
set_option maxHeartbeats 4000000 in
theorem rvList (s : ByteArray) (j p d : Nat) (deep : Int) (w : World) (hj : j ≤ s.size) (hs : s.size ≤ 100000) (hd : 0 ≤ deep ∧ deep ≤ 8) (hp : skipP s j = p) (hpl : p < s.size) (h47 : ¬ s[p] = 47) (h40 : ¬ s[p] = 40) (h60 : ¬ s[p] = 60) (h91 : s[p] = 91) (f : Nat → Rd) (hfit : Fits s f) (hnn : ∀ j, 0 ≤ (f j).2.1)
    (hval : ∀ (w : World) (j : Nat), j ≤ s.size → Calls Tryz.prog 131 #[.string s, .int .i64 j, .int .i64 (deep + 1)] w (SaidR w d (f j))) :
    Calls Tryz.prog 131 #[.string s, .int .i64 j, .int .i64 deep] w (SaidR w (d + 1) (listV f s p)) := by
  have hml : s.size ≤ maxLen := by unfold maxLen; omega
  have e1 : skipP s (place s (j : Int)) = p := by rw [place_in hj, hp]
  have hk1 : (p : Int) < (s.size : Int) := by omega
  have hend' : ¬ (p : Int) = s.size := by omega
  have hend2 : ((p : Int) == (s.size : Int)) = false := by simpa using hend'
  have hd8 : ¬ (8 : Int) < deep := by omega
  have hX := BoxA.new w
  have hc := s[p].toNat_lt
  clear hp
  have q47 : ((s[p].toNat : Int) == 47) = false := ne_u8 (k := 47) (by omega) h47
  have q40 : ((s[p].toNat : Int) == 40) = false := ne_u8 (k := 40) (by omega) h40
  have q60 : ((s[p].toNat : Int) == 60) = false := ne_u8 (k := 60) (by omega) h60
  have q91 : (s[p].toNat : Int) = 91 := by rw [h91]; rfl
  have hn := fun (w : World) => show Calls Tryz.prog 189 #[.string s, .int .i64 ((p : Int) + 1), .int .i64 deep] w _ from rList s (p + 1) d deep f w (by omega) hs hd hfit hnn hval
  clear hval hfit hnn
  unfold listV
  generalize rdL f s 302 [] (p + 1) = r at hn ⊢
  obtain ⟨r1, e0, z1⟩ := r
  unfold SaidR at hn
  simp only at hn ⊢
  go_enter Tryz.func131, Tryz.ntmps131
  go_wp2_with (first | (go_at_call 78; refine (rSkip s _ _ hml).mono ?_; rintro e w1 ⟨rfl, rfl⟩) | (go_at_call 189; go_must (refine (hn _).mono ?_); rintro e wc ⟨k1, n1, t1, a1, a2, l1, c1, l2, c2, J, rfl, hbc, HQ⟩; (have HLX := hid (At.lt hX.box)); (replace hX := hX.later hbc); obtain ⟨⟨bx0, bx1, bx2, bx3, bx4⟩, bf0, bf1, bf2, bf3, bf4⟩ := box5 hX.box))
  obtain ⟨hM5, hB5, hS5, hO5⟩ := hX.fill5 (.int .i64 k1) (.int .i64 n1) (.string t1) (.slice a1 l1 c1) (.slice a2 l2 c2) rfl
  unfold set5 at hM5 hB5 hS5 hO5
  generalize World.setCell _ _ _ = wf at hM5 hB5 hS5 hO5 ⊢
  obtain ⟨⟨cx0, cx1, cx2, cx3, cx4⟩, _⟩ := five_cells hB5
  refine bodyPost_ret (v := .tuple #[.agg #[.int .i64 k1, .int .i64 n1, .string t1, .slice a1 l1 c1, .slice a2 l2 c2], .int .i64 (J : Nat), .int .i64 e0]) (by simp [results, Tryz.results131, go_sem, cx0, cx1, cx2, cx3, cx4]; try first | exact ⟨rfl, rfl⟩ | rfl) rfl ?_
  refine ⟨k1, n1, t1, a1, a2, l1, c1, l2, c2, J, rfl, hM5, hid (fun h => ?_)⟩
  obtain ⟨q1, q3⟩ := HQ.out h
  exact ⟨q1, repIn_boxed hS5 hO5 HLX.out q3⟩
set_option maxHeartbeats 4000000 in
theorem rvDict (s : ByteArray) (j p d : Nat) (deep : Int) (w : World) (hj : j ≤ s.size) (hs : s.size ≤ 100000) (hd : 0 ≤ deep ∧ deep ≤ 8) (hp : skipP s j = p) (hpl : p < s.size) (h47 : ¬ s[p] = 47) (h40 : ¬ s[p] = 40) (h60 : s[p] = 60) (h6 : s.data.toList[p + 1]? = some 60) (f : Nat → Rd) (hfit : Fits s f) (hnn : ∀ j, 0 ≤ (f j).2.1)
    (hval : ∀ (w : World) (j : Nat), j ≤ s.size → Calls Tryz.prog 131 #[.string s, .int .i64 j, .int .i64 (deep + 1)] w (SaidR w d (f j))) :
    Calls Tryz.prog 131 #[.string s, .int .i64 j, .int .i64 deep] w (SaidR w (d + 1) (dictV f s p)) := by
  have hml : s.size ≤ maxLen := by unfold maxLen; omega
  have e1 : skipP s (place s (j : Int)) = p := by rw [place_in hj, hp]
  have hk1 : (p : Int) < (s.size : Int) := by omega
  have hend' : ¬ (p : Int) = s.size := by omega
  have hend2 : ((p : Int) == (s.size : Int)) = false := by simpa using hend'
  have hd8 : ¬ (8 : Int) < deep := by omega
  have hX := BoxA.new w
  have hc := s[p].toNat_lt
  clear hp
  have q47 : ((s[p].toNat : Int) == 47) = false := ne_u8 (k := 47) (by omega) h47
  have q40 : ((s[p].toNat : Int) == 40) = false := ne_u8 (k := 40) (by omega) h40
  have q60 : (s[p].toNat : Int) = 60 := by rw [h60]; rfl
  have hl2 : p + 1 < s.size := by simpa using (List.getElem?_eq_some_iff.1 h6).1
  have hl2' : (p : Int) + 1 < s.size := by omega
  have q6 : (s[p + 1].toNat : Int) = 60 := by
    have := rdAt_get hl2
    rw [h6] at this
    injection this with this
    rw [← this]; rfl
  have hn := fun (w : World) => show Calls Tryz.prog 187 #[.string s, .int .i64 ((p : Int) + 2), .int .i64 deep] w _ from rDict s (p + 2) d deep f w (by omega) hs hd hfit hnn hval
  clear hval hfit hnn
  unfold dictV
  generalize rdD f s 302 [] (p + 2) = r at hn ⊢
  obtain ⟨r1, e0, z1⟩ := r
  unfold SaidR at hn
  simp only at hn ⊢
  go_enter Tryz.func131, Tryz.ntmps131
  go_wp2_with (first | (go_at_call 78; refine (rSkip s _ _ hml).mono ?_; rintro e w1 ⟨rfl, rfl⟩) | (go_at_call 187; go_must (refine (hn _).mono ?_); rintro e wc ⟨k1, n1, t1, a1, a2, l1, c1, l2, c2, J, rfl, hbc, HQ⟩; (have HLX := hid (At.lt hX.box)); (replace hX := hX.later hbc); obtain ⟨⟨bx0, bx1, bx2, bx3, bx4⟩, bf0, bf1, bf2, bf3, bf4⟩ := box5 hX.box))
  obtain ⟨hM5, hB5, hS5, hO5⟩ := hX.fill5 (.int .i64 k1) (.int .i64 n1) (.string t1) (.slice a1 l1 c1) (.slice a2 l2 c2) rfl
  unfold set5 at hM5 hB5 hS5 hO5
  generalize World.setCell _ _ _ = wf at hM5 hB5 hS5 hO5 ⊢
  obtain ⟨⟨cx0, cx1, cx2, cx3, cx4⟩, _⟩ := five_cells hB5
  refine bodyPost_ret (v := .tuple #[.agg #[.int .i64 k1, .int .i64 n1, .string t1, .slice a1 l1 c1, .slice a2 l2 c2], .int .i64 (J : Nat), .int .i64 e0]) (by simp [results, Tryz.results131, go_sem, cx0, cx1, cx2, cx3, cx4]; try first | exact ⟨rfl, rfl⟩ | rfl) rfl ?_
  refine ⟨k1, n1, t1, a1, a2, l1, c1, l2, c2, J, rfl, hM5, hid (fun h => ?_)⟩
  obtain ⟨q1, q3⟩ := HQ.out h
  exact ⟨q1, repIn_boxed hS5 hO5 HLX.out q3⟩
end Go.Proofs.YtefbfgcbbpmhlabGreatDoor

/-
  Reading, the document's answer: words.
-/
namespace Go.Proofs.YtefbfgcbbpmhlabGreatDoor
open Go.RowKit
set_option maxRecDepth 100000

set_option maxHeartbeats 4000000 in
theorem rvSign (s : ByteArray) (j p d : Nat) (deep : Int) (w : World) (hj : j ≤ s.size) (hs : s.size ≤ 100000) (hd : 0 ≤ deep ∧ deep ≤ 8) (hp : skipP s j = p) (hpl : p < s.size) (h47 : ¬ s[p] = 47) (h40 : ¬ s[p] = 40) (h60 : ¬ s[p] = 60) (h91 : ¬ s[p] = 91) (hsn : isSg s[p] = true) :
    Calls Tryz.prog 131 #[.string s, .int .i64 j, .int .i64 deep] w (SaidR w (d + 1) (V0 0 0 eB, 4, p)) := by
  have hml : s.size ≤ maxLen := by unfold maxLen; omega
  have e1 : skipP s (place s (j : Int)) = p := by rw [place_in hj, hp]
  have hk1 : (p : Int) < (s.size : Int) := by omega
  have hend' : ¬ (p : Int) = s.size := by omega
  have hend2 : ((p : Int) == (s.size : Int)) = false := by simpa using hend'
  have hd8 : ¬ (8 : Int) < deep := by omega
  have hX := BoxA.new w
  have hc := s[p].toNat_lt
  clear hp
  have q47 : ((s[p].toNat : Int) == 47) = false := ne_u8 (k := 47) (by omega) h47
  have q40 : ((s[p].toNat : Int) == 40) = false := ne_u8 (k := 40) (by omega) h40
  have q60 : ((s[p].toNat : Int) == 60) = false := ne_u8 (k := 60) (by omega) h60
  have q91 : ((s[p].toNat : Int) == 91) = false := ne_u8 (k := 91) (by omega) h91
  have hsg := fun (w : World) => show Calls Tryz.prog 130 #[.int .u8 (s[p].toNat : Int)] w fun e w' => e = .returned (.bool true) ∧ w' = w by
    have q := rSpecial s[p] w
    rw [hsn] at q; exact q
  go_enter Tryz.func131, Tryz.ntmps131
  go_wp2_with (first | (go_at_call 78; refine (rSkip s _ _ hml).mono ?_; rintro e w1 ⟨rfl, rfl⟩) | (go_at_call 130; refine (hsg _).mono ?_; rintro e w3 ⟨rfl, rfl⟩))
  refine bodyPost_ret (v := .tuple #[.agg (vc 0 0 ⟨#[]⟩), .int .i64 0, .int .i64 4]) (by simp [results, Tryz.results131, go_sem]; try first | exact ⟨rfl, rfl⟩ | rfl) rfl ?_
  exact ⟨0, 0, ⟨#[]⟩, none, none, 0, 0, 0, 0, 0, rfl, below_box _ _, hid (fun h => absurd (show (4 : Int) = 0 from h) (by decide))⟩
theorem refP_pos {s : ByteArray} {k x : Nat} (h : refP s k = some x) : 0 < x := by
  unfold refP at h
  split at h
  · split at h
    · injection h with h; omega
    · cases h
  · cases h
theorem fillA : True := trivial
set_option maxHeartbeats 4000000 in
theorem rvOther (s : ByteArray) (j p d : Nat) (deep : Int) (w : World) (hj : j ≤ s.size) (hs : s.size ≤ 100000) (hd : 0 ≤ deep ∧ deep ≤ 8) (hp : skipP s j = p) (hpl : p < s.size) (h47 : ¬ s[p] = 47) (h40 : ¬ s[p] = 40) (h60 : ¬ s[p] = 60) (h91 : ¬ s[p] = 91) (hsn : isSg s[p] = false) :
    Calls Tryz.prog 131 #[.string s, .int .i64 j, .int .i64 deep] w (SaidR w (d + 1) (otherV s p)) := by
  have hml : s.size ≤ maxLen := by unfold maxLen; omega
  have e1 : skipP s (place s (j : Int)) = p := by rw [place_in hj, hp]
  have hk1 : (p : Int) < (s.size : Int) := by omega
  have hend' : ¬ (p : Int) = s.size := by omega
  have hend2 : ((p : Int) == (s.size : Int)) = false := by simpa using hend'
  have hd8 : ¬ (8 : Int) < deep := by omega
  have hX := BoxA.new w
  have hc := s[p].toNat_lt
  clear hp
  have q47 : ((s[p].toNat : Int) == 47) = false := ne_u8 (k := 47) (by omega) h47
  have q40 : ((s[p].toNat : Int) == 40) = false := ne_u8 (k := 40) (by omega) h40
  have q60 : ((s[p].toNat : Int) == 60) = false := ne_u8 (k := 60) (by omega) h60
  have q91 : ((s[p].toNat : Int) == 91) = false := ne_u8 (k := 91) (by omega) h91
  have hsg := fun (w : World) => show Calls Tryz.prog 130 #[.int .u8 (s[p].toNat : Int)] w fun e w' => e = .returned (.bool false) ∧ w' = w by
    have q := rSpecial s[p] w
    rw [hsn] at q; exact q
  have e2 : wordP s (place s (p : Int)) = wordP s p := by rw [place_in (by omega)]
  have hle := yWordLe (s := s) (k := p) (by omega)
  unfold otherV
  obtain ⟨K, hK⟩ : ∃ K, otherK s p = K := ⟨_, rfl⟩
  rw [hK]
  unfold otherK at hK
  generalize wordP s p = W at *
  have HK := hid hK
  clear hK hsn h47 h40 h60 h91
  have hrep : ∀ (k n : Int) (w' : World) (S : Nat → Prop), RepIn S (d + 1) w' (V0 k n eB) (vc k n ⟨#[]⟩).toList := fun k n w' S => repIn_vc _ _ _ _ _ _ (by decide)
  have HRP := hid hrep
  clear hrep
  by_cases h1 : W = wNull
  · have HK2 := hid (show (0, 0, 0, p + W.size) = K by rw [← HK.out, if_pos h1])
    rw [← HK2.out]
    have ep := (isNull W).trans (decide_eq_true h1)
    clear HK h1
    go_enter Tryz.func131, Tryz.ntmps131
    go_wp2_with (first | (go_at_call 78; refine (rSkip s _ _ hml).mono ?_; rintro e w1 ⟨rfl, rfl⟩) | (go_at_call 130; refine (hsg _).mono ?_; rintro e w3 ⟨rfl, rfl⟩) | (go_at_call 79; refine (rWord s _ _ hml).mono ?_; rintro e w4 ⟨rfl, rfl⟩))
    refine bodyPost_ret (v := .tuple #[.agg (vc 0 0 ⟨#[]⟩), .int .i64 ((p : Int) + (W.size : Int)), .int .i64 0]) (by simp [results, Tryz.results131, go_sem]; try first | exact ⟨rfl, rfl⟩ | rfl) rfl ?_
    exact ⟨0, 0, ⟨#[]⟩, none, none, 0, 0, 0, 0, p + W.size, by simp; rfl, below_box _ _, hid (fun _ => ⟨rfl, HRP.out _ _ _ _⟩)⟩
  have en1 := (isNull W).trans (decide_eq_false h1)
  by_cases h2 : W = wTrue
  · have HK2 := hid (show (1, 1, 0, p + W.size) = K by rw [← HK.out, if_neg h1, if_pos h2])
    rw [← HK2.out]
    have ep := (isTrue W).trans (decide_eq_true h2)
    clear HK h2
    go_enter Tryz.func131, Tryz.ntmps131
    go_wp2_with (first | (go_at_call 78; refine (rSkip s _ _ hml).mono ?_; rintro e w1 ⟨rfl, rfl⟩) | (go_at_call 130; refine (hsg _).mono ?_; rintro e w3 ⟨rfl, rfl⟩) | (go_at_call 79; refine (rWord s _ _ hml).mono ?_; rintro e w4 ⟨rfl, rfl⟩))
    refine bodyPost_ret (v := .tuple #[.agg (vc 1 1 ⟨#[]⟩), .int .i64 ((p : Int) + (W.size : Int)), .int .i64 0]) (by simp [results, Tryz.results131, go_sem]; try first | exact ⟨rfl, rfl⟩ | rfl) rfl ?_
    exact ⟨1, 1, ⟨#[]⟩, none, none, 0, 0, 0, 0, p + W.size, by simp; rfl, below_box _ _, hid (fun _ => ⟨rfl, HRP.out _ _ _ _⟩)⟩
  have en2 := (isTrue W).trans (decide_eq_false h2)
  by_cases h3 : W = wFalse
  · have HK2 := hid (show (1, 0, 0, p + W.size) = K by rw [← HK.out, if_neg h1, if_neg h2, if_pos h3])
    rw [← HK2.out]
    have ep := (isFalse W).trans (decide_eq_true h3)
    clear HK h3
    go_enter Tryz.func131, Tryz.ntmps131
    go_wp2_with (first | (go_at_call 78; refine (rSkip s _ _ hml).mono ?_; rintro e w1 ⟨rfl, rfl⟩) | (go_at_call 130; refine (hsg _).mono ?_; rintro e w3 ⟨rfl, rfl⟩) | (go_at_call 79; refine (rWord s _ _ hml).mono ?_; rintro e w4 ⟨rfl, rfl⟩))
    refine bodyPost_ret (v := .tuple #[.agg (vc 1 0 ⟨#[]⟩), .int .i64 ((p : Int) + (W.size : Int)), .int .i64 0]) (by simp [results, Tryz.results131, go_sem]; try first | exact ⟨rfl, rfl⟩ | rfl) rfl ?_
    exact ⟨1, 0, ⟨#[]⟩, none, none, 0, 0, 0, 0, p + W.size, by simp; rfl, below_box _ _, hid (fun _ => ⟨rfl, HRP.out _ _ _ _⟩)⟩
  have en3 := (isFalse W).trans (decide_eq_false h3)
  have HK1 := hid (show (if objL W.data.toList ≠ 0 ∧ (refP s (p + W.size)).isSome = true then ((7 : Int), ((objL W.data.toList : Nat) : Int), (0 : Int), (refP s (p + W.size)).getD (p + W.size)) else (2, parseN W.data.toList, parseE W.data.toList, p + W.size)) = K by rw [← HK.out, if_neg h1, if_neg h2, if_neg h3])
  have href := fun (w : World) => show Calls Tryz.prog 190 #[.string s, .string W, .int .i64 ((p : Int) + (W.size : Int))] w _ from rReadRef s W (p + W.size) w (by omega) hs (by omega)
  have hfix := fun (w : World) => readFix_any W w (by omega)
  have HRL := hid (fun x (h : refP s (p + W.size) = some x) => refP_pos h)
  clear HK h1 h2 h3
  by_cases hr : objL W.data.toList ≠ 0 ∧ (refP s (p + W.size)).isSome = true
  · have HK2 := hid (show ((7 : Int), ((objL W.data.toList : Nat) : Int), (0 : Int), (refP s (p + W.size)).getD (p + W.size)) = K by have h := HK1.out; rw [if_pos hr] at h; exact h)
    rw [← HK2.out]
    obtain ⟨x, hx⟩ := Option.isSome_iff_exists.1 hr.2
    have hT : refO s W (p + W.size) = (objL W.data.toList, x) := by unfold refO; rw [if_pos hr, hx]; rfl
    simp only [hT] at href
    simp only [hx, Option.getD_some]
    clear hT
    have hx0 : (0 : Int) < (x : Int) := by have := HRL.out x hx; omega
    clear HK1 HK2 hr hx hfix
    generalize objL W.data.toList = N at href ⊢
    go_enter Tryz.func131, Tryz.ntmps131
    go_wp2_with (first | (go_at_call 78; refine (rSkip s _ _ hml).mono ?_; rintro e w1 ⟨rfl, rfl⟩) | (go_at_call 130; refine (hsg _).mono ?_; rintro e w3 ⟨rfl, rfl⟩) | (go_at_call 79; refine (rWord s _ _ hml).mono ?_; rintro e w4 ⟨rfl, rfl⟩) | (go_at_call 190; go_must (refine (href _).mono ?_); rintro e w5 ⟨rfl, rfl⟩))
    refine bodyPost_ret (v := .tuple #[.agg (vc 7 (N : Nat) ⟨#[]⟩), .int .i64 (x : Nat), .int .i64 0]) (by simp [results, Tryz.results131, go_sem]; try first | exact ⟨rfl, rfl⟩ | rfl) rfl ?_
    exact ⟨7, N, ⟨#[]⟩, none, none, 0, 0, 0, 0, x, rfl, below_box _ _, hid (fun _ => ⟨rfl, HRP.out _ _ _ _⟩)⟩
  · have HK2 := hid (show ((2 : Int), parseN W.data.toList, parseE W.data.toList, p + W.size) = K by have h := HK1.out; rw [if_neg hr] at h; exact h)
    rw [← HK2.out]
    have hT : refO s W (p + W.size) = (0, 0) := by unfold refO; rw [if_neg hr]
    simp only [hT] at href
    clear HK1 HK2 hr hT
    generalize parseN W.data.toList = PN at hfix ⊢
    generalize parseE W.data.toList = PE at hfix ⊢
    go_enter Tryz.func131, Tryz.ntmps131
    go_wp2_with (first | (go_at_call 78; refine (rSkip s _ _ hml).mono ?_; rintro e w1 ⟨rfl, rfl⟩) | (go_at_call 130; refine (hsg _).mono ?_; rintro e w3 ⟨rfl, rfl⟩) | (go_at_call 79; refine (rWord s _ _ hml).mono ?_; rintro e w4 ⟨rfl, rfl⟩) | (go_at_call 190; go_must (refine (href _).mono ?_); rintro e w5 ⟨rfl, rfl⟩) | (go_at_call 191; refine (hfix _).mono ?_; rintro e w6 ⟨rfl, rfl⟩))
    refine bodyPost_ret (v := .tuple #[.agg (vc 2 PN ⟨#[]⟩), .int .i64 ((p : Int) + (W.size : Int)), .int .i64 PE]) (by simp [results, Tryz.results131, go_sem]; try first | exact ⟨rfl, rfl⟩ | rfl) rfl ?_
    exact ⟨2, PN, ⟨#[]⟩, none, none, 0, 0, 0, 0, p + W.size, by simp; rfl, below_box _ _, hid (fun _ => ⟨rfl, HRP.out _ _ _ _⟩)⟩
end Go.Proofs.YtefbfgcbbpmhlabGreatDoor
