/-
  Joined: Zk, Zl, Od.
-/
import Derived.Test.YtefbfgcbbpmhlabGreatDoorZj
import Derived.Test.YtefbfgcbbpmhlabGreatDoorZc
import Derived.Test.YtefbfgcbbpmhlabGreatDoorOc

/-
  Reading, the document's answer: a string in brackets.
-/
namespace Go.Proofs.YtefbfgcbbpmhlabGreatDoor
open Go.RowKit
set_option maxRecDepth 100000

set_option maxHeartbeats 4000000 in
theorem rvLit (s : ByteArray) (j p d : Nat) (deep : Int) (w : World) (hj : j ≤ s.size) (hs : s.size ≤ 100000) (hd : 0 ≤ deep ∧ deep ≤ 8) (hp : skipP s j = p) (hpl : p < s.size) (h47 : ¬ s[p] = 47) (h40 : s[p] = 40) :
    Calls Tryz.prog 131 #[.string s, .int .i64 j, .int .i64 deep] w (SaidR w (d + 1) (litV s p)) := by
  have hml : s.size ≤ maxLen := by unfold maxLen; omega
  have e1 : skipP s (place s (j : Int)) = p := by rw [place_in hj, hp]
  have hk1 : (p : Int) < (s.size : Int) := by omega
  have hend' : ¬ (p : Int) = s.size := by omega
  have hend2 : ((p : Int) == (s.size : Int)) = false := by simpa using hend'
  have hd8 : ¬ (8 : Int) < deep := by omega
  have hX := BoxA.new w
  have hc := s[p].toNat_lt
  clear hp
  have q47 : ((s[p].toNat : Int) == 47) = false := ne_u8 (k := 47) (by omega) h47
  have q40 : (s[p].toNat : Int) = 40 := by rw [h40]; rfl
  have hn := fun (w : World) => show Calls Tryz.prog 186 #[.string s, .int .i64 ((p : Int) + 1)] w _ from rLiteral s (p + 1) w (by omega) hs
  unfold litV
  generalize litT (s.data.toList.drop (p + 1)) 1 [] (p + 1) = r at hn ⊢
  obtain ⟨e0, xs, z⟩ := r
  simp only at hn ⊢
  obtain ⟨M, hM⟩ : ∃ M, textR e0 xs = M := ⟨_, rfl⟩
  rw [hM]
  have HM := hid hM
  clear hM
  have h3 : (¬ e0 = 0) ∨ (e0 = 0 ∧ (200 : Int) < xs.length) ∨ (e0 = 0 ∧ ¬ (200 : Int) < xs.length) := by omega
  rcases h3 with h3 | ⟨rfl, h3⟩ | ⟨rfl, h3⟩
  · have HM2 := hid (show e0 = M by rw [← HM.out]; unfold textR; rw [if_pos h3])
    have HX := hid h3
    have h3' : (e0 == 0) = false := by simpa using h3
    go_enter Tryz.func131, Tryz.ntmps131
    go_wp2_with (first | (go_at_call 78; refine (rSkip s _ _ hml).mono ?_; rintro e w1 ⟨rfl, rfl⟩) | (go_at_call 186; go_must (refine (hn _).mono ?_); rintro e wc ⟨rfl, hbc⟩; (replace hX := hX.later hbc); obtain ⟨⟨bx0, bx1, bx2, bx3, bx4⟩, bf0, bf1, bf2, bf3, bf4⟩ := box5 hX.box))
    obtain ⟨hM5, hB5⟩ := hX.fill 3 0 ⟨xs.toArray⟩
    generalize World.setCell _ _ _ = wf at hB5 hM5 ⊢
    obtain ⟨⟨cx0, cx1, cx2, cx3, cx4⟩, _⟩ := box5 hB5
    refine bodyPost_ret (v := .tuple #[.agg (vc 3 0 ⟨xs.toArray⟩), .int .i64 (z : Nat), .int .i64 e0]) (by simp [results, Tryz.results131, go_sem, cx0, cx1, cx2, cx3, cx4]; try first | exact ⟨rfl, rfl⟩ | rfl) rfl ?_
    exact ⟨3, 0, ⟨xs.toArray⟩, none, none, 0, 0, 0, 0, z, by rw [← HM2.out]; rfl, hM5, hid (fun h => absurd (HM2.out.trans h) HX.out)⟩
  · have HM2 := hid (show 2 = M by rw [← HM.out]; unfold textR; rw [if_neg (by simp), if_pos (by omega)])
    go_enter Tryz.func131, Tryz.ntmps131
    go_wp2_with (first | (go_at_call 78; refine (rSkip s _ _ hml).mono ?_; rintro e w1 ⟨rfl, rfl⟩) | (go_at_call 186; go_must (refine (hn _).mono ?_); rintro e wc ⟨rfl, hbc⟩; (replace hX := hX.later hbc); obtain ⟨⟨bx0, bx1, bx2, bx3, bx4⟩, bf0, bf1, bf2, bf3, bf4⟩ := box5 hX.box))
    obtain ⟨hM5, hB5⟩ := hX.fill 3 0 ⟨xs.toArray⟩
    generalize World.setCell _ _ _ = wf at hB5 hM5 ⊢
    obtain ⟨⟨cx0, cx1, cx2, cx3, cx4⟩, _⟩ := box5 hB5
    refine bodyPost_ret (v := .tuple #[.agg (vc 3 0 ⟨xs.toArray⟩), .int .i64 (z : Nat), .int .i64 2]) (by simp [results, Tryz.results131, go_sem, cx0, cx1, cx2, cx3, cx4]; try first | exact ⟨rfl, rfl⟩ | rfl) rfl ?_
    exact ⟨3, 0, ⟨xs.toArray⟩, none, none, 0, 0, 0, 0, z, by rw [← HM2.out]; rfl, hM5, hid (fun h => absurd (HM2.out.trans h) (by decide))⟩
  · have HM2 := hid (show 0 = M by rw [← HM.out]; unfold textR; rw [if_neg (by simp), if_neg (by omega)])
    go_enter Tryz.func131, Tryz.ntmps131
    go_wp2_with (first | (go_at_call 78; refine (rSkip s _ _ hml).mono ?_; rintro e w1 ⟨rfl, rfl⟩) | (go_at_call 186; go_must (refine (hn _).mono ?_); rintro e wc ⟨rfl, hbc⟩; (replace hX := hX.later hbc); obtain ⟨⟨bx0, bx1, bx2, bx3, bx4⟩, bf0, bf1, bf2, bf3, bf4⟩ := box5 hX.box))
    obtain ⟨hM5, hB5⟩ := hX.fill 3 0 ⟨xs.toArray⟩
    generalize World.setCell _ _ _ = wf at hB5 hM5 ⊢
    obtain ⟨⟨cx0, cx1, cx2, cx3, cx4⟩, _⟩ := box5 hB5
    refine bodyPost_ret (v := .tuple #[.agg (vc 3 0 ⟨xs.toArray⟩), .int .i64 (z : Nat), .int .i64 0]) (by simp [results, Tryz.results131, go_sem, cx0, cx1, cx2, cx3, cx4]; try first | exact ⟨rfl, rfl⟩ | rfl) rfl ?_
    exact ⟨3, 0, ⟨xs.toArray⟩, none, none, 0, 0, 0, 0, z, by rw [← HM2.out]; rfl, hM5, hid (fun _ => ⟨rfl, repIn_vc _ _ _ _ _ _ (by unfold maxLen; show xs.toArray.size ≤ _; simp; omega)⟩)⟩
end Go.Proofs.YtefbfgcbbpmhlabGreatDoor

/-
  Reading, the document's answer: whole.
-/
namespace Go.Proofs.YtefbfgcbbpmhlabGreatDoor
open Go.RowKit
set_option maxRecDepth 100000

theorem litF_nn : ∀ (n : Nat) (l : List UInt8) (deep : Nat) (b : List UInt8) (k : Nat), 0 ≤ (litF n l deep b k).1
  | 0, _, _, _, _ => by show (0 : Int) ≤ 5; decide
  | _ + 1, [], _, _, _ => by show (0 : Int) ≤ 5; decide
  | n + 1, c :: r, deep, b, k => by
    unfold litF
    by_cases h41 : (c == 41) = true
    · rw [if_pos h41]
      by_cases hd : deep = 1
      · rw [if_pos hd]; exact Int.le_refl 0
      · rw [if_neg hd]; exact litF_nn n _ _ _ _
    · rw [if_neg h41]
      by_cases h40 : (c == 40) = true
      · rw [if_pos h40]; exact litF_nn n _ _ _ _
      · rw [if_neg h40]
        by_cases h92 : (c == 92) = true
        · rw [if_pos h92]
          cases he : escL r with
          | none => show (0 : Int) ≤ 5; decide
          | some q => exact litF_nn n _ _ _ _
        · rw [if_neg h92]; exact litF_nn n _ _ _ _
theorem hexTk_nn2 : ∀ (l : List UInt8) (p : Option Nat) (b : List UInt8) (k : Nat), 0 ≤ (hexTk l p b k).1
  | [], _, _, _ => by show (0 : Int) ≤ 5; decide
  | c :: r, p, b, k => by
    unfold hexTk
    by_cases h62 : (c == 62) = true
    · rw [if_pos h62]; exact Int.le_refl 0
    · rw [if_neg h62]
      by_cases hb : isBl c = true
      · rw [if_pos hb]; exact hexTk_nn2 r _ _ _
      · rw [if_neg hb]
        by_cases hv : hexV c < 0
        · rw [if_pos hv]; show (0 : Int) ≤ 4; decide
        · rw [if_neg hv]
          cases p with
          | none => exact hexTk_nn2 r _ _ _
          | some x => exact hexTk_nn2 r _ _ _
theorem textR_nn {e : Int} {xs : List UInt8} (h : 0 ≤ e) : 0 ≤ textR e xs := by
  unfold textR
  split
  · exact h
  · split <;> decide
theorem parseE_nn' (l : List UInt8) : 0 ≤ parseE l := by unfold parseE; split <;> (try split) <;> omega
theorem endsR_nn (s p : ByteArray) (j : Nat) : 0 ≤ (endsR s p j).1 := by
  unfold endsR
  split
  · show (0 : Int) ≤ 5; decide
  · split <;> exact Int.le_refl 0
theorem rdL_nn {s : ByteArray} {f : Nat → Rd} (hf : ∀ j, 0 ≤ (f j).2.1) : ∀ (n : Nat) (acc : List V) (j : Nat), 0 ≤ (rdL f s n acc j).2.1
  | 0, _, _ => by show (0 : Int) ≤ 2; decide
  | n + 1, acc, j => by
    unfold rdL
    split
    · exact endsR_nn _ _ _
    · split
      · exact Int.le_refl 0
      · split
        · exact hf _
        · split
          · show (0 : Int) ≤ 2; decide
          · exact rdL_nn hf n _ _
theorem rdFd_nn {s : ByteArray} {f : Nat → Rd} (hf : ∀ j, 0 ≤ (f j).2.1) (k : Nat) : 0 ≤ (rdFd f s k).2.1 := by
  unfold rdFd
  split
  · split
    · show (0 : Int) ≤ 4; decide
    · exact hf _
  · show (0 : Int) ≤ 4; decide
theorem rdD_nn {s : ByteArray} {f : Nat → Rd} (hf : ∀ j, 0 ≤ (f j).2.1) : ∀ (n : Nat) (acc : List (ByteArray × V)) (j : Nat), 0 ≤ (rdD f s n acc j).2.1
  | 0, _, _ => by show (0 : Int) ≤ 2; decide
  | n + 1, acc, j => by
    unfold rdD
    split
    · exact endsR_nn _ _ _
    · split
      · exact Int.le_refl 0
      · split
        · exact rdFd_nn hf _
        · split
          · show (0 : Int) ≤ 3; decide
          · split
            · show (0 : Int) ≤ 2; decide
            · exact rdD_nn hf n _ _
theorem otherK_nn (s : ByteArray) (k : Nat) : 0 ≤ (otherK s k).2.2.1 := by
  unfold otherK
  generalize wordP s k = W
  have hp := parseE_nn' W.data.toList
  by_cases h1 : W = wNull
  · simp only [if_pos h1]; exact Int.le_refl 0
  · by_cases h2 : W = wTrue
    · simp only [if_neg h1, if_pos h2]; exact Int.le_refl 0
    · by_cases h3 : W = wFalse
      · simp only [if_neg h1, if_neg h2, if_pos h3]; exact Int.le_refl 0
      · by_cases h4 : objL W.data.toList ≠ 0 ∧ (refP s (k + W.size)).isSome = true
        · simp only [if_neg h1, if_neg h2, if_neg h3, if_pos h4]; exact Int.le_refl 0
        · simp only [if_neg h1, if_neg h2, if_neg h3, if_neg h4]; exact hp
theorem rdV_nn (s : ByteArray) : ∀ (n j : Nat), 0 ≤ (rdV s n j).2.1
  | 0, j => by
    unfold rdV
    show (0 : Int) ≤ if skipP s j = s.size then 5 else 2
    split <;> decide
  | n + 1, j => by
    unfold rdV
    split
    · show (0 : Int) ≤ 5; decide
    · unfold rdAt
      split
      · unfold nameV
        split
        · show (0 : Int) ≤ 4; decide
        · exact Int.le_refl 0
      · split
        · exact textR_nn (litF_nn _ _ _ _ _)
        · split
          · split
            · exact rdD_nn (rdV_nn s n) _ _ _
            · exact textR_nn (hexTk_nn2 _ _ _ _)
          · split
            · exact rdL_nn (rdV_nn s n) _ _ _
            · split
              · show (0 : Int) ≤ 4; decide
              · exact otherK_nn _ _
/-- A value, at whatever depth. -/
theorem rRead (s : ByteArray) (hs : s.size ≤ 100000) : ∀ (n : Nat) (deep : Int), n ≤ 8 → deep = 9 - n → ∀ (w : World) (j : Nat), j ≤ s.size → Calls Tryz.prog 131 #[.string s, .int .i64 j, .int .i64 deep] w (SaidR w (n + 1) (rdV s n j))
  | 0, deep, _, hd, w, j, hj => by
    unfold rdV
    by_cases h : skipP s j = s.size
    · rw [if_pos h]; exact rvEnd s j 1 deep _ _ w hj hs h
    · rw [if_neg h]; exact rvDeep s j 1 deep _ _ w hj hs h (by omega)
  | n + 1, deep, hn, hd, w, j, hj => by
    unfold rdV
    by_cases h : skipP s j = s.size
    · rw [if_pos h]; exact rvEnd s j _ deep _ _ w hj hs h
    · rw [if_neg h]
      have hpl : skipP s j < s.size := by have := (skipP_le hj).2; omega
      obtain ⟨p, hp⟩ : ∃ p, skipP s j = p := ⟨_, rfl⟩
      rw [hp] at hpl ⊢
      have hdd : 0 ≤ deep ∧ deep ≤ 8 := by omega
      have hg := rdAt_get hpl
      have hval := rRead s hs n (deep + 1) (by omega) (by omega)
      unfold rdAt
      by_cases h47 : s[p] = 47
      · rw [if_pos (by rw [hg, h47])]; exact rvName s j p (n + 1) deep w hj hs hdd hp hpl h47
      rw [if_neg (by rw [hg]; simpa using h47)]
      by_cases h40 : s[p] = 40
      · rw [if_pos (by rw [hg, h40])]; exact rvLit s j p (n + 1) deep w hj hs hdd hp hpl h47 h40
      rw [if_neg (by rw [hg]; simpa using h40)]
      by_cases h60 : s[p] = 60
      · rw [if_pos (by rw [hg, h60])]
        by_cases h6 : s.data.toList[p + 1]? = some 60
        · rw [if_pos h6]; exact rvDict s j p (n + 1) deep w hj hs hdd hp hpl h47 h40 h60 h6 _ (rdV_fits s n) (rdV_nn s n) hval
        · rw [if_neg h6]; exact rvHex s j p (n + 1) deep w hj hs hdd hp hpl h47 h40 h60 h6
      rw [if_neg (by rw [hg]; simpa using h60)]
      by_cases h91 : s[p] = 91
      · rw [if_pos (by rw [hg, h91])]; exact rvList s j p (n + 1) deep w hj hs hdd hp hpl h47 h40 h60 h91 _ (rdV_fits s n) (rdV_nn s n) hval
      rw [if_neg (by rw [hg]; simpa using h91)]
      cases hsn : isSg s[p]
      · rw [if_neg (by rw [hg]; simp [hsn])]; exact rvOther s j p (n + 1) deep w hj hs hdd hp hpl h47 h40 h60 h91 hsn
      · rw [if_pos (by rw [hg]; simp [hsn])]; exact rvSign s j p (n + 1) deep w hj hs hdd hp hpl h47 h40 h60 h91 hsn
/-- What a call of the answer's that reads a value from a place on says. -/
def SaidW (w : World) (r : Rd) (e : Ending) (w' : World) : Prop :=
  ∃ (k n : Int) (t : ByteArray) (a1 a2 : Option Addr) (l1 c1 l2 c2 : Nat), e = .returned (.tuple #[.agg #[.int .i64 k, .int .i64 n, .string t, .slice a1 l1 c1, .slice a2 l2 c2], .int .i64 (r.2.2 : Nat), .int .i64 r.2.1]) ∧ Below w.heap.size w w' ∧
    Hid (RepN 9 w' r.1 [.int .i64 k, .int .i64 n, .string t, .slice a1 l1 c1, .slice a2 l2 c2])
theorem faultV_nn (v : V) : 0 ≤ faultV v := by
  by_cases h : 300 < v.cnt ∨ 8 < v.dep
  · rw [fault_many h]; decide
  · by_cases h' : v.Shp
    · rw [fault_none h h']; decide
    · rw [fault_shape h h']; decide
set_option maxHeartbeats 4000000 in
theorem rReadV (s : ByteArray) (a : Int) (w : World) : Calls Tryz.prog 81 #[.string s, .int .i64 a] w (SaidW w (pV s a)) := by
  by_cases hb : 60000 < s.size ∨ a < 0 ∨ (s.size : Int) < a
  · have HP := hid (show pV s a = (V0 0 0 eB, 1, 0) by unfold pV; rw [if_pos hb])
    rw [HP.out]
    have h1 : (60000 : Int) < s.size ∨ (¬ (60000 : Int) < s.size ∧ a < 0) ∨ (¬ (60000 : Int) < s.size ∧ ¬ a < 0 ∧ (s.size : Int) < a) := by omega
    clear hb
    rcases h1 with h1 | ⟨h1, h2⟩ | ⟨h1, h2, h3⟩
    all_goals
      go_enter Tryz.func81, Tryz.ntmps81
      go_wp2
      refine bodyPost_ret (v := .tuple #[.agg (vc 0 0 ⟨#[]⟩), .int .i64 0, .int .i64 1]) (by simp [results, Tryz.results81, go_sem]; try first | exact ⟨rfl, rfl⟩ | rfl) rfl ?_
      exact ⟨0, 0, ⟨#[]⟩, none, none, 0, 0, 0, 0, rfl, by first | exact below_box _ _ | exact below_set5 (below_box _ _) (Nat.le_refl _) _ _ _ _ _, hid (rep_0 _ _)⟩
  · have h1 : ¬ (60000 : Int) < s.size := by omega
    have h2 : ¬ a < 0 := by omega
    have h3 : ¬ (s.size : Int) < a := by omega
    obtain ⟨k, rfl⟩ : ∃ k : Nat, a = k := ⟨a.toNat, by omega⟩
    have HP := hid (show pV s k = if (rdV s 8 k).2.1 ≠ 0 then (V0 0 0 eB, (rdV s 8 k).2.1, 0) else if faultV (rdV s 8 k).1 ≠ 0 then (V0 0 0 eB, faultV (rdV s 8 k).1, 0) else rdV s 8 k by unfold pV; rw [if_neg hb, Int.toNat_natCast])
    clear hb
    have hv := fun (w : World) => rRead s (by omega) 8 1 (by omega) (by omega) w k (by omega)
    have HF := hid (rdV_fits s 8 k (by omega))
    have hnn := rdV_nn s 8 k
    generalize rdV s 8 k = r at HP hv HF hnn
    obtain ⟨v, e1, z⟩ := r
    unfold SaidR at hv
    simp only at hv hnn
    have hX := BoxA.new w
    have hfn := faultV_nn v
    by_cases he : e1 = 0
    · subst he
      have HC := hid (show v.cnt ≤ 1048576 by have := HF.out rfl; simp only at this; omega)
      by_cases hf : faultV v = 0
      · have HP2 := hid (show pV s k = (v, 0, z) by rw [HP.out, if_neg (by simp), if_neg (by simp [hf])])
        rw [HP2.out]
        have HFV := hid hf
        clear HP hfn
        go_enter Tryz.func81, Tryz.ntmps81
        go_wp2_with (first | (go_at_call 131; go_must (refine (hv _).mono ?_); rintro e w1 ⟨k1, n1, t1, a1, a2, l1, c1, l2, c2, J, rfl, hb1, HQ⟩; (have hz1 := At.lt hX.box); (have hz2 := hb1.size); (replace hX := (hX.later hb1).later (below_box w1 (.cells #[.int .i64 k1, .int .i64 n1, .string t1, .slice a1 l1 c1, .slice a2 l2 c2] 26))); obtain ⟨⟨bx0, bx1, bx2, bx3, bx4⟩, bf0, bf1, bf2, bf3, bf4⟩ := box5 hX.box) | (go_at_call 86; (have HQ3 := hid (HQ.out (by first | rfl | trivial)).2); (have HJ := hid (HQ.out (by first | rfl | trivial)).1); go_must (refine (valueFault_says (d := 9) (v := v) (cs := [.int .i64 k1, .int .i64 n1, .string t1, .slice a1 l1 c1, .slice a2 l2 c2]) (HQ3.out.now.later (below_box w1 _)) HC.out).mono ?_); rintro e w2 ⟨he2, hb2⟩; rw [HFV.out] at he2; subst he2; (replace hX := hX.later hb2); obtain ⟨⟨bx0, bx1, bx2, bx3, bx4⟩, bf0, bf1, bf2, bf3, bf4⟩ := box5 hX.box; (have hVb := At.later (At.new w1 #[.int .i64 k1, .int .i64 n1, .string t1, .slice a1 l1 c1, .slice a2 l2 c2] 26 rfl) hb2); obtain ⟨⟨vy0, vy1, vy2, vy3, vy4⟩, _⟩ := five_cells hVb))
        obtain ⟨hM5, hB5, hS5, hO5⟩ := hX.fill5 (.int .i64 k1) (.int .i64 n1) (.string t1) (.slice a1 l1 c1) (.slice a2 l2 c2) rfl
        unfold set5 at hM5 hB5 hS5 hO5
        generalize World.setCell _ _ _ = wf at hM5 hB5 hS5 hO5 ⊢
        obtain ⟨⟨cx0, cx1, cx2, cx3, cx4⟩, _⟩ := five_cells hB5
        refine bodyPost_ret (v := .tuple #[.agg #[.int .i64 k1, .int .i64 n1, .string t1, .slice a1 l1 c1, .slice a2 l2 c2], .int .i64 (J : Nat), .int .i64 0]) (by simp [results, Tryz.results81, go_sem, cx0, cx1, cx2, cx3, cx4]; try first | exact ⟨rfl, rfl⟩ | rfl) rfl ?_
        refine ⟨k1, n1, t1, a1, a2, l1, c1, l2, c2, by rw [HJ.out], hM5, hid (HQ3.out wf ?_ fun b hb => ?_)⟩
        · have := hb2.size
          simp at this
          omega
        · have h1 := hb.1
          simp at h1
          rw [hO5 b (by omega), hb2.block b (by have := hb.2; simp; omega), heap_alloc_old _ _ hb.2]
      · have HP2 := hid (show pV s k = (V0 0 0 eB, faultV v, 0) by rw [HP.out, if_neg (by simp), if_pos hf])
        rw [HP2.out]
        have hf0 : (0 : Int) < faultV v := by omega
        clear hf HP hfn
        go_enter Tryz.func81, Tryz.ntmps81
        go_wp2_with (first | (go_at_call 131; go_must (refine (hv _).mono ?_); rintro e w1 ⟨k1, n1, t1, a1, a2, l1, c1, l2, c2, J, rfl, hb1, HQ⟩; (have hz1 := At.lt hX.box); (have hz2 := hb1.size); (replace hX := (hX.later hb1).later (below_box w1 (.cells #[.int .i64 k1, .int .i64 n1, .string t1, .slice a1 l1 c1, .slice a2 l2 c2] 26))); obtain ⟨⟨bx0, bx1, bx2, bx3, bx4⟩, bf0, bf1, bf2, bf3, bf4⟩ := box5 hX.box) | (go_at_call 86; (have HQ3 := hid (HQ.out (by first | rfl | trivial)).2); (have HJ := hid (HQ.out (by first | rfl | trivial)).1); go_must (refine (valueFault_says (d := 9) (v := v) (cs := [.int .i64 k1, .int .i64 n1, .string t1, .slice a1 l1 c1, .slice a2 l2 c2]) (HQ3.out.now.later (below_box w1 _)) HC.out).mono ?_); rintro e w2 ⟨rfl, hb2⟩; (replace hX := hX.later hb2); obtain ⟨⟨bx0, bx1, bx2, bx3, bx4⟩, bf0, bf1, bf2, bf3, bf4⟩ := box5 hX.box; (have hVb := At.later (At.new w1 #[.int .i64 k1, .int .i64 n1, .string t1, .slice a1 l1 c1, .slice a2 l2 c2] 26 rfl) hb2); obtain ⟨⟨vy0, vy1, vy2, vy3, vy4⟩, _⟩ := five_cells hVb))
        obtain ⟨hM5, hB5⟩ := hX.fill 0 0 ⟨#[]⟩
        generalize World.setCell _ _ _ = wf at hB5 hM5 ⊢
        obtain ⟨⟨cx0, cx1, cx2, cx3, cx4⟩, _⟩ := box5 hB5
        refine bodyPost_ret (v := .tuple #[.agg (vc 0 0 ⟨#[]⟩), .int .i64 0, .int .i64 (faultV v)]) (by simp [results, Tryz.results81, go_sem, cx0, cx1, cx2, cx3, cx4]; try first | exact ⟨rfl, rfl⟩ | rfl) rfl ?_
        exact ⟨0, 0, ⟨#[]⟩, none, none, 0, 0, 0, 0, rfl, hM5, hid (rep_0 _ _)⟩
    · have HP2 := hid (show pV s k = (V0 0 0 eB, e1, 0) by rw [HP.out, if_pos he])
      rw [HP2.out]
      have he0 : (0 : Int) < e1 := by omega
      have he1 : (e1 == 0) = false := by simpa using he
      clear HP he hfn
      go_enter Tryz.func81, Tryz.ntmps81
      go_wp2_with ((go_at_call 131; go_must (refine (hv _).mono ?_); rintro e w1 ⟨k1, n1, t1, a1, a2, l1, c1, l2, c2, J, rfl, hb1, HQ⟩; (have hz1 := At.lt hX.box); (have hz2 := hb1.size); (replace hX := (hX.later hb1).later (below_box w1 (.cells #[.int .i64 k1, .int .i64 n1, .string t1, .slice a1 l1 c1, .slice a2 l2 c2] 26))); obtain ⟨⟨bx0, bx1, bx2, bx3, bx4⟩, bf0, bf1, bf2, bf3, bf4⟩ := box5 hX.box))
      obtain ⟨hM5, hB5⟩ := hX.fill 0 0 ⟨#[]⟩
      generalize World.setCell _ _ _ = wf at hB5 hM5 ⊢
      obtain ⟨⟨cx0, cx1, cx2, cx3, cx4⟩, _⟩ := box5 hB5
      refine bodyPost_ret (v := .tuple #[.agg (vc 0 0 ⟨#[]⟩), .int .i64 0, .int .i64 e1]) (by simp [results, Tryz.results81, go_sem, cx0, cx1, cx2, cx3, cx4]; try first | exact ⟨rfl, rfl⟩ | rfl) rfl ?_
      exact ⟨0, 0, ⟨#[]⟩, none, none, 0, 0, 0, 0, rfl, hM5, hid (rep_0 _ _)⟩
end Go.Proofs.YtefbfgcbbpmhlabGreatDoor

/-
  Reading, the document's answer, whole: where the value lies.
-/
namespace Go.Proofs.YtefbfgcbbpmhlabGreatDoor
open Go.RowKit
set_option maxRecDepth 100000

/-- What a call of the answer's that reads a value from a place on says; the value lies in new blocks. -/
def SaidJ (w : World) (r : Rd) (e : Ending) (w' : World) : Prop :=
  ∃ (k n : Int) (t : ByteArray) (a1 a2 : Option Addr) (l1 c1 l2 c2 : Nat), e = .returned (.tuple #[.agg #[.int .i64 k, .int .i64 n, .string t, .slice a1 l1 c1, .slice a2 l2 c2], .int .i64 (r.2.2 : Nat), .int .i64 r.2.1]) ∧ Below w.heap.size w w' ∧
    Hid (RepIn (fun b => w.heap.size ≤ b ∧ b < w'.heap.size) 9 w' r.1 [.int .i64 k, .int .i64 n, .string t, .slice a1 l1 c1, .slice a2 l2 c2])
set_option maxHeartbeats 4000000 in
theorem rReadI (s : ByteArray) (a : Int) (w : World) : Calls Tryz.prog 81 #[.string s, .int .i64 a] w (SaidJ w (pV s a)) := by
  by_cases hb : 60000 < s.size ∨ a < 0 ∨ (s.size : Int) < a
  · have HP := hid (show pV s a = (V0 0 0 eB, 1, 0) by unfold pV; rw [if_pos hb])
    rw [HP.out]
    have h1 : (60000 : Int) < s.size ∨ (¬ (60000 : Int) < s.size ∧ a < 0) ∨ (¬ (60000 : Int) < s.size ∧ ¬ a < 0 ∧ (s.size : Int) < a) := by omega
    clear hb
    rcases h1 with h1 | ⟨h1, h2⟩ | ⟨h1, h2, h3⟩
    all_goals
      go_enter Tryz.func81, Tryz.ntmps81
      go_wp2
      refine bodyPost_ret (v := .tuple #[.agg (vc 0 0 ⟨#[]⟩), .int .i64 0, .int .i64 1]) (by simp [results, Tryz.results81, go_sem]; try first | exact ⟨rfl, rfl⟩ | rfl) rfl ?_
      exact ⟨0, 0, ⟨#[]⟩, none, none, 0, 0, 0, 0, rfl, by first | exact below_box _ _ | exact below_set5 (below_box _ _) (Nat.le_refl _) _ _ _ _ _, hid (repIn_0 _ _ _)⟩
  · have h1 : ¬ (60000 : Int) < s.size := by omega
    have h2 : ¬ a < 0 := by omega
    have h3 : ¬ (s.size : Int) < a := by omega
    obtain ⟨k, rfl⟩ : ∃ k : Nat, a = k := ⟨a.toNat, by omega⟩
    have HP := hid (show pV s k = if (rdV s 8 k).2.1 ≠ 0 then (V0 0 0 eB, (rdV s 8 k).2.1, 0) else if faultV (rdV s 8 k).1 ≠ 0 then (V0 0 0 eB, faultV (rdV s 8 k).1, 0) else rdV s 8 k by unfold pV; rw [if_neg hb, Int.toNat_natCast])
    clear hb
    have hv := fun (w : World) => rRead s (by omega) 8 1 (by omega) (by omega) w k (by omega)
    have HF := hid (rdV_fits s 8 k (by omega))
    have hnn := rdV_nn s 8 k
    generalize rdV s 8 k = r at HP hv HF hnn
    obtain ⟨v, e1, z⟩ := r
    unfold SaidR at hv
    simp only at hv hnn
    have hX := BoxA.new w
    have hfn := faultV_nn v
    by_cases he : e1 = 0
    · subst he
      have HC := hid (show v.cnt ≤ 1048576 by have := HF.out rfl; simp only at this; omega)
      by_cases hf : faultV v = 0
      · have HP2 := hid (show pV s k = (v, 0, z) by rw [HP.out, if_neg (by simp), if_neg (by simp [hf])])
        rw [HP2.out]
        have HFV := hid hf
        clear HP hfn
        go_enter Tryz.func81, Tryz.ntmps81
        go_wp2_with (first | (go_at_call 131; go_must (refine (hv _).mono ?_); rintro e w1 ⟨k1, n1, t1, a1, a2, l1, c1, l2, c2, J, rfl, hb1, HQ⟩; (have hz1 := At.lt hX.box); (have hz2 := hb1.size); (replace hX := (hX.later hb1).later (below_box w1 (.cells #[.int .i64 k1, .int .i64 n1, .string t1, .slice a1 l1 c1, .slice a2 l2 c2] 26))); obtain ⟨⟨bx0, bx1, bx2, bx3, bx4⟩, bf0, bf1, bf2, bf3, bf4⟩ := box5 hX.box) | (go_at_call 86; (have HQ3 := hid (HQ.out (by first | rfl | trivial)).2); (have HJ := hid (HQ.out (by first | rfl | trivial)).1); go_must (refine (valueFault_says (d := 9) (v := v) (cs := [.int .i64 k1, .int .i64 n1, .string t1, .slice a1 l1 c1, .slice a2 l2 c2]) (HQ3.out.now.later (below_box w1 _)) HC.out).mono ?_); rintro e w2 ⟨he2, hb2⟩; rw [HFV.out] at he2; subst he2; (replace hX := hX.later hb2); obtain ⟨⟨bx0, bx1, bx2, bx3, bx4⟩, bf0, bf1, bf2, bf3, bf4⟩ := box5 hX.box; (have hVb := At.later (At.new w1 #[.int .i64 k1, .int .i64 n1, .string t1, .slice a1 l1 c1, .slice a2 l2 c2] 26 rfl) hb2); obtain ⟨⟨vy0, vy1, vy2, vy3, vy4⟩, _⟩ := five_cells hVb))
        obtain ⟨hM5, hB5, hS5, hO5⟩ := hX.fill5 (.int .i64 k1) (.int .i64 n1) (.string t1) (.slice a1 l1 c1) (.slice a2 l2 c2) rfl
        unfold set5 at hM5 hB5 hS5 hO5
        generalize World.setCell _ _ _ = wf at hM5 hB5 hS5 hO5 ⊢
        obtain ⟨⟨cx0, cx1, cx2, cx3, cx4⟩, _⟩ := five_cells hB5
        refine bodyPost_ret (v := .tuple #[.agg #[.int .i64 k1, .int .i64 n1, .string t1, .slice a1 l1 c1, .slice a2 l2 c2], .int .i64 (J : Nat), .int .i64 0]) (by simp [results, Tryz.results81, go_sem, cx0, cx1, cx2, cx3, cx4]; try first | exact ⟨rfl, rfl⟩ | rfl) rfl ?_
        have hwf : w1.heap.size ≤ wf.heap.size := by have := hb2.size; simp at this; omega
        refine ⟨k1, n1, t1, a1, a2, l1, c1, l2, c2, by rw [HJ.out], hM5, hid ((HQ3.out.agree (w' := wf) hwf fun b hb => ?_).mono fun b hb => ⟨by have := hb.1; simp at this; omega, Nat.lt_of_lt_of_le hb.2 hwf⟩)⟩
        · have h1 := hb.1
          simp at h1
          rw [hO5 b (by omega), hb2.block b (by have := hb.2; simp; omega), heap_alloc_old _ _ hb.2]
      · have HP2 := hid (show pV s k = (V0 0 0 eB, faultV v, 0) by rw [HP.out, if_neg (by simp), if_pos hf])
        rw [HP2.out]
        have hf0 : (0 : Int) < faultV v := by omega
        clear hf HP hfn
        go_enter Tryz.func81, Tryz.ntmps81
        go_wp2_with (first | (go_at_call 131; go_must (refine (hv _).mono ?_); rintro e w1 ⟨k1, n1, t1, a1, a2, l1, c1, l2, c2, J, rfl, hb1, HQ⟩; (have hz1 := At.lt hX.box); (have hz2 := hb1.size); (replace hX := (hX.later hb1).later (below_box w1 (.cells #[.int .i64 k1, .int .i64 n1, .string t1, .slice a1 l1 c1, .slice a2 l2 c2] 26))); obtain ⟨⟨bx0, bx1, bx2, bx3, bx4⟩, bf0, bf1, bf2, bf3, bf4⟩ := box5 hX.box) | (go_at_call 86; (have HQ3 := hid (HQ.out (by first | rfl | trivial)).2); (have HJ := hid (HQ.out (by first | rfl | trivial)).1); go_must (refine (valueFault_says (d := 9) (v := v) (cs := [.int .i64 k1, .int .i64 n1, .string t1, .slice a1 l1 c1, .slice a2 l2 c2]) (HQ3.out.now.later (below_box w1 _)) HC.out).mono ?_); rintro e w2 ⟨rfl, hb2⟩; (replace hX := hX.later hb2); obtain ⟨⟨bx0, bx1, bx2, bx3, bx4⟩, bf0, bf1, bf2, bf3, bf4⟩ := box5 hX.box; (have hVb := At.later (At.new w1 #[.int .i64 k1, .int .i64 n1, .string t1, .slice a1 l1 c1, .slice a2 l2 c2] 26 rfl) hb2); obtain ⟨⟨vy0, vy1, vy2, vy3, vy4⟩, _⟩ := five_cells hVb))
        obtain ⟨hM5, hB5⟩ := hX.fill 0 0 ⟨#[]⟩
        generalize World.setCell _ _ _ = wf at hB5 hM5 ⊢
        obtain ⟨⟨cx0, cx1, cx2, cx3, cx4⟩, _⟩ := box5 hB5
        refine bodyPost_ret (v := .tuple #[.agg (vc 0 0 ⟨#[]⟩), .int .i64 0, .int .i64 (faultV v)]) (by simp [results, Tryz.results81, go_sem, cx0, cx1, cx2, cx3, cx4]; try first | exact ⟨rfl, rfl⟩ | rfl) rfl ?_
        exact ⟨0, 0, ⟨#[]⟩, none, none, 0, 0, 0, 0, rfl, hM5, hid (repIn_0 _ _ _)⟩
    · have HP2 := hid (show pV s k = (V0 0 0 eB, e1, 0) by rw [HP.out, if_pos he])
      rw [HP2.out]
      have he0 : (0 : Int) < e1 := by omega
      have he1 : (e1 == 0) = false := by simpa using he
      clear HP he hfn
      go_enter Tryz.func81, Tryz.ntmps81
      go_wp2_with ((go_at_call 131; go_must (refine (hv _).mono ?_); rintro e w1 ⟨k1, n1, t1, a1, a2, l1, c1, l2, c2, J, rfl, hb1, HQ⟩; (have hz1 := At.lt hX.box); (have hz2 := hb1.size); (replace hX := (hX.later hb1).later (below_box w1 (.cells #[.int .i64 k1, .int .i64 n1, .string t1, .slice a1 l1 c1, .slice a2 l2 c2] 26))); obtain ⟨⟨bx0, bx1, bx2, bx3, bx4⟩, bf0, bf1, bf2, bf3, bf4⟩ := box5 hX.box))
      obtain ⟨hM5, hB5⟩ := hX.fill 0 0 ⟨#[]⟩
      generalize World.setCell _ _ _ = wf at hB5 hM5 ⊢
      obtain ⟨⟨cx0, cx1, cx2, cx3, cx4⟩, _⟩ := box5 hB5
      refine bodyPost_ret (v := .tuple #[.agg (vc 0 0 ⟨#[]⟩), .int .i64 0, .int .i64 e1]) (by simp [results, Tryz.results81, go_sem, cx0, cx1, cx2, cx3, cx4]; try first | exact ⟨rfl, rfl⟩ | rfl) rfl ?_
      exact ⟨0, 0, ⟨#[]⟩, none, none, 0, 0, 0, 0, rfl, hM5, hid (repIn_0 _ _ _)⟩
end Go.Proofs.YtefbfgcbbpmhlabGreatDoor
