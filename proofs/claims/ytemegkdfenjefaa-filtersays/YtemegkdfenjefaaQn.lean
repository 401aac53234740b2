/-
  Filters of the program: one, and several.
-/
import Derived.Test.YtemegkdfenjefaaQm
namespace Go.Proofs.Ytemegkdfenjefaa
open Go.RowKit
set_option maxRecDepth 100000

theorem mk_hex (l : List UInt8) : mkBy hexN l = fit (0, hexMk l) := by unfold mkBy; rw [if_pos rfl]
theorem mk_five (l : List UInt8) : mkBy fiveN l = fit (0, fiveMk l) := by unfold mkBy; rw [if_neg (by decide), if_pos rfl]
theorem mk_runs (l : List UInt8) : mkBy runsN l = fit (0, runsM l) := by unfold mkBy; rw [if_neg (by decide), if_neg (by decide), if_pos rfl]
theorem mk_none {n : ByteArray} (h1 : ¬ n = hexN) (h2 : ¬ n = fiveN) (h3 : ¬ n = runsN) (l : List UInt8) : mkBy n l = (9, []) := by unfold mkBy; rw [if_neg h1, if_neg h2, if_neg h3]
theorem tk_hex (l : List UInt8) : tkBy hexN l = fit (hexT l) := by unfold tkBy; rw [if_pos rfl]
theorem tk_five (l : List UInt8) : tkBy fiveN l = fit (fiveTk l [] []) := by unfold tkBy; rw [if_neg (by decide), if_pos rfl]
theorem tk_runs (l : List UInt8) : tkBy runsN l = fit (runsTk l []) := by unfold tkBy; rw [if_neg (by decide), if_neg (by decide), if_pos rfl]
theorem tk_none {n : ByteArray} (h1 : ¬ n = hexN) (h2 : ¬ n = fiveN) (h3 : ¬ n = runsN) (l : List UInt8) : tkBy n l = (9, []) := by unfold tkBy; rw [if_neg h1, if_neg h2, if_neg h3]
theorem hexTk_len : ∀ (l : List UInt8) (p : Option Nat) (b : List UInt8) (k : Nat), (hexTk l p b k).2.1.length ≤ b.length + l.length + 1
  | [], _, _, _ => by simp [hexTk]
  | c :: r, p, b, k => by
    unfold hexTk
    split
    · cases p <;> simp [pend] <;> omega
    · split
      · have := hexTk_len r p b (k + 1); simp; omega
      · split
        · simp
        · cases p with
          | none => have := hexTk_len r (some (hexV c).toNat) b (k + 1); simp; omega
          | some x => have := hexTk_len r none (b ++ [UInt8.ofNat (16 * x + (hexV c).toNat)]) (k + 1); simp at this ⊢; omega
theorem fiveEnd_len (g : List Nat) (b : List UInt8) : (fiveEnd g b).2.length ≤ b.length + 4 := by
  unfold fiveEnd
  (repeat' split) <;> simp [byte4]; omega
theorem fiveTk_len : ∀ (l : List UInt8) (g : List Nat) (b : List UInt8), (fiveTk l g b).2.length ≤ b.length + 4 * l.length + 4
  | [], _, _ => by simp [fiveTk]
  | c :: r, g, b => by
    unfold fiveTk
    split
    · have := fiveTk_len r g b; simp; omega
    · split
      · split
        · have := fiveEnd_len g b; omega
        · simp
      · split
        · have := fiveTk_len r g (b ++ [0, 0, 0, 0]); simp at this ⊢; omega
        · split
          · simp
          · split
            · split
              · have := fiveTk_len r [] (b ++ byte4 (val85 (g ++ [c.toNat - 33]))); simp [byte4] at this ⊢; omega
              · simp
            · have := fiveTk_len r (g ++ [c.toNat - 33]) b; simp; omega
theorem runsT_len : ∀ (f : Nat) (l b : List UInt8), b.length ≤ 20000 → (runsT f l b).2.length ≤ 20000
  | 0, _, _, _ => by simp [runsT]
  | _ + 1, [], _, _ => by simp [runsT]
  | f + 1, n :: r, b, hb => by
    unfold runsT
    split
    · exact hb
    · split
      · split
        · simp
        · split
          · simp
          · exact runsT_len f _ _ (by omega)
      · split
        · simp
        · split
          · simp
          · exact runsT_len f _ _ (by omega)
theorem runsTk_len (l : List UInt8) : (runsTk l []).2.length ≤ 20000 := runsT_len _ _ _ (by simp)

/-- What one filter makes, by the program. -/
def mkOut (r : Int × List UInt8) : Value := .tuple #[.string ⟨r.2.toArray⟩, errN r.1]
set_option maxHeartbeats 400000 in
theorem pMakeBy (n s : ByteArray) (w : World) (hs : s.size ≤ 100000) :
    Calls Try.prog 14 #[.string n, .string s] w fun e w' => e = .returned (mkOut (mkBy n s.data.toList)) ∧ Below w.heap.size w w' := by
  have HL := hid (ba_len s)
  by_cases h1 : n = hexN
  · subst h1
    have HK := hid (mk_hex s.data.toList)
    have HN := hid (hexMk_len s.data.toList)
    unfold hexN at HK ⊢
    go_enter Try.func14, Try.ntmps14
    go_wp2_with (first
      | (go_at_call 19; refine (pMakeHex s _ hs).mono ?_; rintro e w1 ⟨v1, rfl, hown, hb⟩)
      | (go_at_call 18; refine (pFits 0 w.heap.size _ _ _ hown (by have := HN.out; have := HL.out; omega)).mono ?_; rintro e w2 ⟨rfl, rfl⟩))
    go_ret2
    exact ⟨by rw [HK.out]; rfl, hb⟩
  by_cases h2 : n = fiveN
  · subst h2
    have HK := hid (mk_five s.data.toList)
    have HN := hid (fiveMk_len s.data.toList)
    unfold fiveN at HK ⊢
    go_enter Try.func14, Try.ntmps14
    go_wp2_with (first
      | (go_at_call 20; refine (pMakeFive s _ hs).mono ?_; rintro e w1 ⟨v1, rfl, hown, hb⟩)
      | (go_at_call 18; refine (pFits 0 w.heap.size _ _ _ hown (by have := HN.out; have := HL.out; omega)).mono ?_; rintro e w2 ⟨rfl, rfl⟩))
    go_ret2
    exact ⟨by rw [HK.out]; rfl, hb⟩
  by_cases h3 : n = runsN
  · subst h3
    have HK := hid (mk_runs s.data.toList)
    have HN := hid (runsM_len _ s.data.toList (Nat.le_refl _))
    unfold runsN at HK ⊢
    go_enter Try.func14, Try.ntmps14
    go_wp2_with (first
      | (go_at_call 21; refine (pMakeRuns s _ hs).mono ?_; rintro e w1 ⟨v1, rfl, hown, hb⟩)
      | (go_at_call 18; refine (pFits 0 w.heap.size _ _ _ hown (by have := HN.out; have := HL.out; omega)).mono ?_; rintro e w2 ⟨rfl, rfl⟩))
    go_ret2
    exact ⟨by rw [HK.out]; rfl, hb⟩
  have HK := hid (mk_none h1 h2 h3 s.data.toList)
  have b1 := ne_lit (l := [65, 83, 67, 73, 73, 72, 101, 120, 68, 101, 99, 111, 100, 101]) h1
  have b2 := ne_lit (l := [65, 83, 67, 73, 73, 56, 53, 68, 101, 99, 111, 100, 101]) h2
  have b3 := ne_lit (l := [82, 117, 110, 76, 101, 110, 103, 116, 104, 68, 101, 99, 111, 100, 101]) h3
  clear h1 h2 h3
  go_enter Try.func14, Try.ntmps14
  go_wp2
  go_ret2
  exact ⟨by rw [HK.out]; rfl, Below.refl _ _⟩
set_option maxHeartbeats 400000 in
theorem pTakeBy (n s : ByteArray) (w : World) (hs : s.size ≤ 100000) :
    Calls Try.prog 16 #[.string n, .string s] w fun e w' => e = .returned (mkOut (tkBy n s.data.toList)) ∧ Below w.heap.size w w' := by
  have HL := hid (ba_len s)
  by_cases h1 : n = hexN
  · subst h1
    have HK := hid (tk_hex s.data.toList)
    have HN := hid (show (hexT s.data.toList).2.length ≤ 0 + s.data.toList.length + 1 from hexTk_len s.data.toList none [] 0)
    unfold hexN at HK ⊢
    go_enter Try.func16, Try.ntmps16
    go_wp2_with (first
      | (go_at_call 23; refine (pTakeHex s _ hs).mono ?_; rintro e w1 ⟨v1, rfl, hown, hb⟩)
      | (go_at_call 18; refine (pFits _ w.heap.size _ _ _ hown (by have := HN.out; have := HL.out; omega)).mono ?_; rintro e w2 ⟨rfl, rfl⟩))
    go_ret2
    exact ⟨by rw [HK.out]; rfl, hb⟩
  by_cases h2 : n = fiveN
  · subst h2
    have HK := hid (tk_five s.data.toList)
    have HN := hid (show (fiveTk s.data.toList [] []).2.length ≤ 0 + 4 * s.data.toList.length + 4 from fiveTk_len s.data.toList [] [])
    unfold fiveN at HK ⊢
    go_enter Try.func16, Try.ntmps16
    go_wp2_with (first
      | (go_at_call 24; refine (pTakeFive s _ hs).mono ?_; rintro e w1 ⟨v1, rfl, hown, hb⟩)
      | (go_at_call 18; refine (pFits _ w.heap.size _ _ _ hown (by have := HN.out; have := HL.out; omega)).mono ?_; rintro e w2 ⟨rfl, rfl⟩))
    go_ret2
    exact ⟨by rw [HK.out]; rfl, hb⟩
  by_cases h3 : n = runsN
  · subst h3
    have HK := hid (tk_runs s.data.toList)
    have HN := hid (runsTk_len s.data.toList)
    unfold runsN at HK ⊢
    go_enter Try.func16, Try.ntmps16
    go_wp2_with (first
      | (go_at_call 25; refine (pTakeRuns s _).mono ?_; rintro e w1 ⟨v1, rfl, hown, hb⟩)
      | (go_at_call 18; refine (pFits _ w.heap.size _ _ _ hown (by have := HN.out; omega)).mono ?_; rintro e w2 ⟨rfl, rfl⟩))
    go_ret2
    exact ⟨by rw [HK.out]; rfl, hb⟩
  have HK := hid (tk_none h1 h2 h3 s.data.toList)
  have b1 := ne_lit (l := [65, 83, 67, 73, 73, 72, 101, 120, 68, 101, 99, 111, 100, 101]) h1
  have b2 := ne_lit (l := [65, 83, 67, 73, 73, 56, 53, 68, 101, 99, 111, 100, 101]) h2
  have b3 := ne_lit (l := [82, 117, 110, 76, 101, 110, 103, 116, 104, 68, 101, 99, 111, 100, 101]) h3
  clear h1 h2 h3
  go_enter Try.func16, Try.ntmps16
  go_wp2
  go_ret2
  exact ⟨by rw [HK.out]; rfl, Below.refl _ _⟩
end Go.Proofs.Ytemegkdfenjefaa
