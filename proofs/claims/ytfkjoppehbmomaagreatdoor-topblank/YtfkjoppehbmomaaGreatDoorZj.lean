/-
  Reading, the document's answer: words.
-/
import Derived.Test.YtfkjoppehbmomaaGreatDoorZi
namespace Go.Proofs.YtfkjoppehbmomaaGreatDoor
open Go.RowKit
set_option maxRecDepth 100000

set_option maxHeartbeats 4000000 in
theorem rvSign (s : ByteArray) (j p d : Nat) (deep : Int) (w : World) (hj : j ≤ s.size) (hs : s.size ≤ 100000) (hd : 0 ≤ deep ∧ deep ≤ 8) (hp : skipP s j = p) (hpl : p < s.size) (h47 : ¬ s[p] = 47) (h40 : ¬ s[p] = 40) (h60 : ¬ s[p] = 60) (h91 : ¬ s[p] = 91) (hsn : isSg s[p] = true) :
    Calls Tryz.prog 24 #[.string s, .int .i64 j, .int .i64 deep] w (SaidR w (d + 1) (V0 0 0 eB, 4, p)) := by
  have hml : s.size ≤ maxLen := by unfold maxLen; omega
  have e1 : skipP s (place s (j : Int)) = p := by rw [place_in hj, hp]
  have hk1 : (p : Int) < (s.size : Int) := by omega
  have hend' : ¬ (p : Int) = s.size := by omega
  have hend2 : ((p : Int) == (s.size : Int)) = false := by simpa using hend'
  have hd8 : ¬ (8 : Int) < deep := by omega
  have hX := BoxA.new w
  have hc := s[p].toNat_lt
  clear hp
  have q47 : ((s[p].toNat : Int) == 47) = false := ne_u8 (k := 47) (by omega) h47
  have q40 : ((s[p].toNat : Int) == 40) = false := ne_u8 (k := 40) (by omega) h40
  have q60 : ((s[p].toNat : Int) == 60) = false := ne_u8 (k := 60) (by omega) h60
  have q91 : ((s[p].toNat : Int) == 91) = false := ne_u8 (k := 91) (by omega) h91
  have hsg := fun (w : World) => show Calls Tryz.prog 28 #[.int .u8 (s[p].toNat : Int)] w fun e w' => e = .returned (.bool true) ∧ w' = w by
    have q := rSpecial s[p] w
    rw [hsn] at q; exact q
  go_enter Tryz.func24, Tryz.ntmps24
  go_wp2_with (first | (go_at_call 12; refine (rSkip s _ _ hml).mono ?_; rintro e w1 ⟨rfl, rfl⟩) | (go_at_call 28; refine (hsg _).mono ?_; rintro e w3 ⟨rfl, rfl⟩))
  refine bodyPost_ret (v := .tuple #[.agg (vc 0 0 ⟨#[]⟩), .int .i64 0, .int .i64 4]) (by simp [results, Tryz.results24, go_sem]; try first | exact ⟨rfl, rfl⟩ | rfl) rfl ?_
  exact ⟨0, 0, ⟨#[]⟩, none, none, 0, 0, 0, 0, 0, rfl, below_box _ _, hid (fun h => absurd (show (4 : Int) = 0 from h) (by decide))⟩
theorem refP_pos {s : ByteArray} {k x : Nat} (h : refP s k = some x) : 0 < x := by
  unfold refP at h
  split at h
  · split at h
    · injection h with h; omega
    · cases h
  · cases h
theorem fillA : True := trivial
set_option maxHeartbeats 4000000 in
theorem rvOther (s : ByteArray) (j p d : Nat) (deep : Int) (w : World) (hj : j ≤ s.size) (hs : s.size ≤ 100000) (hd : 0 ≤ deep ∧ deep ≤ 8) (hp : skipP s j = p) (hpl : p < s.size) (h47 : ¬ s[p] = 47) (h40 : ¬ s[p] = 40) (h60 : ¬ s[p] = 60) (h91 : ¬ s[p] = 91) (hsn : isSg s[p] = false) :
    Calls Tryz.prog 24 #[.string s, .int .i64 j, .int .i64 deep] w (SaidR w (d + 1) (otherV s p)) := by
  have hml : s.size ≤ maxLen := by unfold maxLen; omega
  have e1 : skipP s (place s (j : Int)) = p := by rw [place_in hj, hp]
  have hk1 : (p : Int) < (s.size : Int) := by omega
  have hend' : ¬ (p : Int) = s.size := by omega
  have hend2 : ((p : Int) == (s.size : Int)) = false := by simpa using hend'
  have hd8 : ¬ (8 : Int) < deep := by omega
  have hX := BoxA.new w
  have hc := s[p].toNat_lt
  clear hp
  have q47 : ((s[p].toNat : Int) == 47) = false := ne_u8 (k := 47) (by omega) h47
  have q40 : ((s[p].toNat : Int) == 40) = false := ne_u8 (k := 40) (by omega) h40
  have q60 : ((s[p].toNat : Int) == 60) = false := ne_u8 (k := 60) (by omega) h60
  have q91 : ((s[p].toNat : Int) == 91) = false := ne_u8 (k := 91) (by omega) h91
  have hsg := fun (w : World) => show Calls Tryz.prog 28 #[.int .u8 (s[p].toNat : Int)] w fun e w' => e = .returned (.bool false) ∧ w' = w by
    have q := rSpecial s[p] w
    rw [hsn] at q; exact q
  have e2 : wordP s (place s (p : Int)) = wordP s p := by rw [place_in (by omega)]
  have hle := yWordLe (s := s) (k := p) (by omega)
  unfold otherV
  obtain ⟨K, hK⟩ : ∃ K, otherK s p = K := ⟨_, rfl⟩
  rw [hK]
  unfold otherK at hK
  generalize wordP s p = W at *
  have HK := hid hK
  clear hK hsn h47 h40 h60 h91
  have hrep : ∀ (k n : Int) (w' : World) (S : Nat → Prop), RepIn S (d + 1) w' (V0 k n eB) (vc k n ⟨#[]⟩).toList := fun k n w' S => repIn_vc _ _ _ _ _ _ (by decide)
  have HRP := hid hrep
  clear hrep
  by_cases h1 : W = wNull
  · have HK2 := hid (show (0, 0, 0, p + W.size) = K by rw [← HK.out, if_pos h1])
    rw [← HK2.out]
    have ep := (isNull W).trans (decide_eq_true h1)
    clear HK h1
    go_enter Tryz.func24, Tryz.ntmps24
    go_wp2_with (first | (go_at_call 12; refine (rSkip s _ _ hml).mono ?_; rintro e w1 ⟨rfl, rfl⟩) | (go_at_call 28; refine (hsg _).mono ?_; rintro e w3 ⟨rfl, rfl⟩) | (go_at_call 14; refine (rWord s _ _ hml).mono ?_; rintro e w4 ⟨rfl, rfl⟩))
    refine bodyPost_ret (v := .tuple #[.agg (vc 0 0 ⟨#[]⟩), .int .i64 ((p : Int) + (W.size : Int)), .int .i64 0]) (by simp [results, Tryz.results24, go_sem]; try first | exact ⟨rfl, rfl⟩ | rfl) rfl ?_
    exact ⟨0, 0, ⟨#[]⟩, none, none, 0, 0, 0, 0, p + W.size, by simp; rfl, below_box _ _, hid (fun _ => ⟨rfl, HRP.out _ _ _ _⟩)⟩
  have en1 := (isNull W).trans (decide_eq_false h1)
  by_cases h2 : W = wTrue
  · have HK2 := hid (show (1, 1, 0, p + W.size) = K by rw [← HK.out, if_neg h1, if_pos h2])
    rw [← HK2.out]
    have ep := (isTrue W).trans (decide_eq_true h2)
    clear HK h2
    go_enter Tryz.func24, Tryz.ntmps24
    go_wp2_with (first | (go_at_call 12; refine (rSkip s _ _ hml).mono ?_; rintro e w1 ⟨rfl, rfl⟩) | (go_at_call 28; refine (hsg _).mono ?_; rintro e w3 ⟨rfl, rfl⟩) | (go_at_call 14; refine (rWord s _ _ hml).mono ?_; rintro e w4 ⟨rfl, rfl⟩))
    refine bodyPost_ret (v := .tuple #[.agg (vc 1 1 ⟨#[]⟩), .int .i64 ((p : Int) + (W.size : Int)), .int .i64 0]) (by simp [results, Tryz.results24, go_sem]; try first | exact ⟨rfl, rfl⟩ | rfl) rfl ?_
    exact ⟨1, 1, ⟨#[]⟩, none, none, 0, 0, 0, 0, p + W.size, by simp; rfl, below_box _ _, hid (fun _ => ⟨rfl, HRP.out _ _ _ _⟩)⟩
  have en2 := (isTrue W).trans (decide_eq_false h2)
  by_cases h3 : W = wFalse
  · have HK2 := hid (show (1, 0, 0, p + W.size) = K by rw [← HK.out, if_neg h1, if_neg h2, if_pos h3])
    rw [← HK2.out]
    have ep := (isFalse W).trans (decide_eq_true h3)
    clear HK h3
    go_enter Tryz.func24, Tryz.ntmps24
    go_wp2_with (first | (go_at_call 12; refine (rSkip s _ _ hml).mono ?_; rintro e w1 ⟨rfl, rfl⟩) | (go_at_call 28; refine (hsg _).mono ?_; rintro e w3 ⟨rfl, rfl⟩) | (go_at_call 14; refine (rWord s _ _ hml).mono ?_; rintro e w4 ⟨rfl, rfl⟩))
    refine bodyPost_ret (v := .tuple #[.agg (vc 1 0 ⟨#[]⟩), .int .i64 ((p : Int) + (W.size : Int)), .int .i64 0]) (by simp [results, Tryz.results24, go_sem]; try first | exact ⟨rfl, rfl⟩ | rfl) rfl ?_
    exact ⟨1, 0, ⟨#[]⟩, none, none, 0, 0, 0, 0, p + W.size, by simp; rfl, below_box _ _, hid (fun _ => ⟨rfl, HRP.out _ _ _ _⟩)⟩
  have en3 := (isFalse W).trans (decide_eq_false h3)
  have HK1 := hid (show (if objL W.data.toList ≠ 0 ∧ (refP s (p + W.size)).isSome = true then ((7 : Int), ((objL W.data.toList : Nat) : Int), (0 : Int), (refP s (p + W.size)).getD (p + W.size)) else (2, parseN W.data.toList, parseE W.data.toList, p + W.size)) = K by rw [← HK.out, if_neg h1, if_neg h2, if_neg h3])
  have href := fun (w : World) => show Calls Tryz.prog 51 #[.string s, .string W, .int .i64 ((p : Int) + (W.size : Int))] w _ from rReadRef s W (p + W.size) w (by omega) hs (by omega)
  have hfix := fun (w : World) => readFix_any W w (by omega)
  have HRL := hid (fun x (h : refP s (p + W.size) = some x) => refP_pos h)
  clear HK h1 h2 h3
  by_cases hr : objL W.data.toList ≠ 0 ∧ (refP s (p + W.size)).isSome = true
  · have HK2 := hid (show ((7 : Int), ((objL W.data.toList : Nat) : Int), (0 : Int), (refP s (p + W.size)).getD (p + W.size)) = K by have h := HK1.out; rw [if_pos hr] at h; exact h)
    rw [← HK2.out]
    obtain ⟨x, hx⟩ := Option.isSome_iff_exists.1 hr.2
    have hT : refO s W (p + W.size) = (objL W.data.toList, x) := by unfold refO; rw [if_pos hr, hx]; rfl
    simp only [hT] at href
    simp only [hx, Option.getD_some]
    clear hT
    have hx0 : (0 : Int) < (x : Int) := by have := HRL.out x hx; omega
    clear HK1 HK2 hr hx hfix
    generalize objL W.data.toList = N at href ⊢
    go_enter Tryz.func24, Tryz.ntmps24
    go_wp2_with (first | (go_at_call 12; refine (rSkip s _ _ hml).mono ?_; rintro e w1 ⟨rfl, rfl⟩) | (go_at_call 28; refine (hsg _).mono ?_; rintro e w3 ⟨rfl, rfl⟩) | (go_at_call 14; refine (rWord s _ _ hml).mono ?_; rintro e w4 ⟨rfl, rfl⟩) | (go_at_call 51; go_must (refine (href _).mono ?_); rintro e w5 ⟨rfl, rfl⟩))
    refine bodyPost_ret (v := .tuple #[.agg (vc 7 (N : Nat) ⟨#[]⟩), .int .i64 (x : Nat), .int .i64 0]) (by simp [results, Tryz.results24, go_sem]; try first | exact ⟨rfl, rfl⟩ | rfl) rfl ?_
    exact ⟨7, N, ⟨#[]⟩, none, none, 0, 0, 0, 0, x, rfl, below_box _ _, hid (fun _ => ⟨rfl, HRP.out _ _ _ _⟩)⟩
  · have HK2 := hid (show ((2 : Int), parseN W.data.toList, parseE W.data.toList, p + W.size) = K by have h := HK1.out; rw [if_neg hr] at h; exact h)
    rw [← HK2.out]
    have hT : refO s W (p + W.size) = (0, 0) := by unfold refO; rw [if_neg hr]
    simp only [hT] at href
    clear HK1 HK2 hr hT
    generalize parseN W.data.toList = PN at hfix ⊢
    generalize parseE W.data.toList = PE at hfix ⊢
    go_enter Tryz.func24, Tryz.ntmps24
    go_wp2_with (first | (go_at_call 12; refine (rSkip s _ _ hml).mono ?_; rintro e w1 ⟨rfl, rfl⟩) | (go_at_call 28; refine (hsg _).mono ?_; rintro e w3 ⟨rfl, rfl⟩) | (go_at_call 14; refine (rWord s _ _ hml).mono ?_; rintro e w4 ⟨rfl, rfl⟩) | (go_at_call 51; go_must (refine (href _).mono ?_); rintro e w5 ⟨rfl, rfl⟩) | (go_at_call 52; refine (hfix _).mono ?_; rintro e w6 ⟨rfl, rfl⟩))
    refine bodyPost_ret (v := .tuple #[.agg (vc 2 PN ⟨#[]⟩), .int .i64 ((p : Int) + (W.size : Int)), .int .i64 PE]) (by simp [results, Tryz.results24, go_sem]; try first | exact ⟨rfl, rfl⟩ | rfl) rfl ?_
    exact ⟨2, PN, ⟨#[]⟩, none, none, 0, 0, 0, 0, p + W.size, by simp; rfl, below_box _ _, hid (fun _ => ⟨rfl, HRP.out _ _ _ _⟩)⟩
end Go.Proofs.YtfkjoppehbmomaaGreatDoor
