/-
  Filters of the document's answer: several.
-/
import Derived.Test.YtemegkdfenjefaaQy
namespace Go.Proofs.Ytemegkdfenjefaa
open Go.RowKit
set_option maxRecDepth 100000

def madeL (n : ByteArray) (l : List UInt8) : List UInt8 := if n = hexN then hexMk l else if n = fiveN then fiveMk l else runsM l
def takenL (n : ByteArray) (l : List UInt8) : Int × List UInt8 := if n = hexN then hexT l else if n = fiveN then fiveTk l [] [] else runsTk l []
theorem known_iff (n : ByteArray) : knownF n = true ↔ n = hexN ∨ n = fiveN ∨ n = runsN := by unfold knownF; simp [or_assoc]
theorem mk_known {n : ByteArray} (h : knownF n = true) (l : List UInt8) : mkBy n l = fit (0, madeL n l) := by
  unfold mkBy madeL
  by_cases h1 : n = hexN
  · rw [if_pos h1, if_pos h1]
  · by_cases h2 : n = fiveN
    · rw [if_neg h1, if_neg h1, if_pos h2, if_pos h2]
    · rcases (known_iff n).1 h with h3 | h3 | h3
      · exact absurd h3 h1
      · exact absurd h3 h2
      · rw [if_neg h1, if_neg h1, if_neg h2, if_neg h2, if_pos h3]
theorem tk_known {n : ByteArray} (h : knownF n = true) (l : List UInt8) : tkBy n l = fit (takenL n l) := by
  unfold tkBy takenL
  by_cases h1 : n = hexN
  · rw [if_pos h1, if_pos h1]
  · by_cases h2 : n = fiveN
    · rw [if_neg h1, if_neg h1, if_pos h2, if_pos h2]
    · rcases (known_iff n).1 h with h3 | h3 | h3
      · exact absurd h3 h1
      · exact absurd h3 h2
      · rw [if_neg h1, if_neg h1, if_neg h2, if_neg h2, if_pos h3]
theorem mk_unknown {n : ByteArray} (h : knownF n = false) (l : List UInt8) : mkBy n l = (9, []) ∧ tkBy n l = (9, []) := by
  have h' : ¬ (n = hexN ∨ n = fiveN ∨ n = runsN) := fun e => by rw [(known_iff n).2 e] at h; cases h
  have h1 : ¬ n = hexN := fun e => h' (.inl e)
  have h2 : ¬ n = fiveN := fun e => h' (.inr (.inl e))
  have h3 : ¬ n = runsN := fun e => h' (.inr (.inr e))
  exact ⟨mk_none h1 h2 h3 l, tk_none h1 h2 h3 l⟩
theorem madeL_len (n : ByteArray) (l : List UInt8) : (madeL n l).length ≤ 2 * l.length + 4 := by
  unfold madeL
  split
  · have := hexMk_len l; omega
  · split
    · exact fiveMk_len l
    · have := runsM_len _ l (Nat.le_refl _); omega
theorem takenL_len (n : ByteArray) (l : List UInt8) : (takenL n l).2.length ≤ 4 * l.length + 20004 := by
  unfold takenL
  split
  · have h : (hexT l).2.length ≤ 0 + l.length + 1 := hexTk_len l none [] 0
    omega
  · split
    · have h : (fiveTk l [] []).2.length ≤ 0 + 4 * l.length + 4 := fiveTk_len l [] []
      omega
    · have := runsTk_len l; omega
theorem hexTk_nn : ∀ (l : List UInt8) (p : Option Nat) (b : List UInt8) (k : Nat), 0 ≤ (hexTk l p b k).1
  | [], _, _, _ => by simp [hexTk]
  | c :: r, p, b, k => by
    unfold hexTk
    split
    · simp
    · split
      · exact hexTk_nn r p b (k + 1)
      · split
        · simp
        · cases p with
          | none => exact hexTk_nn r _ b (k + 1)
          | some x => exact hexTk_nn r none _ (k + 1)
theorem fiveEnd_nn (g : List Nat) (b : List UInt8) : 0 ≤ (fiveEnd g b).1 := by
  unfold fiveEnd; (repeat' split) <;> simp
theorem fiveTk_nn : ∀ (l : List UInt8) (g : List Nat) (b : List UInt8), 0 ≤ (fiveTk l g b).1
  | [], _, _ => by simp [fiveTk]
  | c :: r, g, b => by
    unfold fiveTk
    split
    · exact fiveTk_nn r g b
    · split
      · split
        · exact fiveEnd_nn g b
        · simp
      · split
        · exact fiveTk_nn r g _
        · split
          · simp
          · split
            · split
              · exact fiveTk_nn r [] _
              · simp
            · exact fiveTk_nn r _ b
theorem runsT_nn : ∀ (f : Nat) (l b : List UInt8), 0 ≤ (runsT f l b).1
  | 0, _, _ => by simp [runsT]
  | _ + 1, [], _ => by simp [runsT]
  | f + 1, n :: r, b => by
    unfold runsT
    split
    · simp
    · split
      · split
        · simp
        · split
          · simp
          · exact runsT_nn f _ _
      · split
        · simp
        · split
          · simp
          · exact runsT_nn f _ _
theorem takenL_nn (n : ByteArray) (l : List UInt8) : 0 ≤ (takenL n l).1 := by
  unfold takenL
  split
  · exact hexTk_nn l none [] 0
  · split
    · exact fiveTk_nn l [] []
    · exact runsT_nn _ l []
theorem rMade (n s : ByteArray) (w : World) (hs : s.size ≤ 100000) (h : knownF n = true) :
    Calls Try.prog 15 #[.string n, .string s] w fun e w' => e = .returned (.string ⟨(madeL n s.data.toList).toArray⟩) ∧ Below w.heap.size w w' := by
  unfold madeL
  rcases (known_iff n).1 h with rfl | rfl | rfl
  · rw [if_pos rfl]; exact rMadeHex s w hs
  · rw [if_neg (by decide), if_pos rfl]; exact rMadeFive s w hs
  · rw [if_neg (by decide), if_neg (by decide)]; exact rMadeRuns s w hs
theorem rTaken (n s : ByteArray) (w : World) (hs : s.size ≤ 100000) (h : knownF n = true) :
    Calls Try.prog 17 #[.string n, .string s] w fun e w' => e = .returned (.tuple #[.string ⟨(takenL n s.data.toList).2.toArray⟩, .int .i64 (takenL n s.data.toList).1]) ∧ Below w.heap.size w w' := by
  unfold takenL
  rcases (known_iff n).1 h with rfl | rfl | rfl
  · rw [if_pos rfl]; exact rTakenHex s w hs
  · rw [if_neg (by decide), if_pos rfl]; exact rTakenFive s w hs
  · rw [if_neg (by decide), if_neg (by decide)]; exact rTakenRuns s w hs
set_option maxHeartbeats 1000000 in
theorem rMakeAll (a : Option Addr) (c n : Nat) (ns : List ByteArray) (s : ByteArray) (w : World) (hnn : ns.length = n) (hn : n ≤ 100000) (hs : s.size ≤ 100000) (hN : NamesAt w a ns) :
    Calls Try.prog 9 #[.slice a n c, .string s] w fun e w' => e = .returned (outT (makeF ns s.data.toList)) ∧ Below w.heap.size w w' := by
  by_cases hk : chkE ns.length s.size = 0
  · obtain ⟨hm, _, hl, hn8⟩ := makeF_ok (ns := ns) (l := s.data.toList) (by rw [ba_len]; exact hk)
    rw [hm]
    rw [ba_len] at hl
    rw [hnn] at hn8
    clear hm hk
    have HN := hid hN
    have HNN := hid hnn
    clear hN hnn
    have h8 : ¬ (8 : Int) < n := by omega
    have h20 : ¬ (20000 : Int) < s.size := by omega
    go_enter Try.func9, Try.ntmps9
    go_wp2
    go_loopw [1, 6] (fun sv i wr => ∃ (k : Nat) (t : ByteArray), sv = .string t ∧ i = .int .i64 ((n : Int) - 1 - k) ∧ k ≤ n ∧ t.size ≤ 20000 ∧ mkAll (ns.drop (n - k)) s.data.toList = (0, t.data.toList) ∧ Below w.heap.size w wr) (fun _ i _ => (intOf i + 1).toNat)
    case atStart => exact ⟨0, s, rfl, by go_num, Nat.zero_le _, hl, by rw [← HNN.out, Nat.sub_zero, List.drop_of_length_le (Nat.le_refl _)]; rfl, Below.refl _ _⟩
    case round =>
      obtain ⟨k, t, rfl, rfl, hkn, ht, hA, hb⟩ := hrel
      have HA := hid hA
      clear hA
      by_cases hlt : (k : Int) < n
      · obtain ⟨nm, hnm⟩ : ∃ nm, ns[n - 1 - k]? = some nm := ⟨ns[n - 1 - k]'(by have := HNN.out; omega), List.getElem?_eq_getElem _⟩
        obtain ⟨b, off, rfl, hbl, hc⟩ := (HN.out.later hb) _ nm hnm
        have HD := hid (drop_get ns _ nm hnm)
        rw [show n - 1 - k + 1 = n - k by omega] at HD
        have HM := hid (show mkAll (ns.drop (n - 1 - k)) s.data.toList = mkBy nm t.data.toList by
          rw [HD.out]; unfold mkAll; rw [HA.out, if_pos rfl])
        have HE := hid (fun (h : (mkBy nm t.data.toList).1 ≠ 0) => show mkAll ns s.data.toList = ((mkBy nm t.data.toList).1, []) by
          have e1 := mkAll_err (n - 1 - k) ns s.data.toList (by rw [HM.out]; exact h)
          rw [HM.out] at e1
          exact Prod.ext e1 (mkAll_bad (by rw [e1]; exact h)))
        have hix : ((n : Int) - 1 - (k : Int)).toNat = n - 1 - k := by omega
        have hi0 : (0 : Int) ≤ (n : Int) - 1 - k := by omega
        have hi1 : (n : Int) - 1 - k < n := by omega
        clear hnm
        cases hkw : knownF nm
        · have HKW := hid hkw
          have HRN := hid (show mkAll ns s.data.toList = (9, []) by
            have e := (mk_unknown hkw t.data.toList).1
            rw [HE.out (by rw [e]; simp), e])
          go_wp2_with (go_at_call 7; refine (rKnown nm _).mono ?_; rintro e w1 ⟨rfl, rfl⟩)
          go_ret2
          rw [HRN.out]
          exact ⟨rfl, hb⟩
        · have HKW := hid hkw
          have HMK := hid (mk_known hkw t.data.toList)
          have HML := hid (madeL_len nm t.data.toList)
          rw [ba_len] at HML
          have HMD := hid (fun w => rMade nm t w (by omega) hkw)
          generalize hys : madeL nm t.data.toList = ys at *
          clear hys
          have hcell : ∀ w', Below wr.heap.size wr w' → w'.cell? ⟨b, off + (n - 1 - k), none⟩ = some (.string nm) := fun w' h => (h.cell (p := ⟨b, off + (n - 1 - k), none⟩) hbl).trans hc
          by_cases hbig : (20000 : Int) < ys.length
          · have HRN := hid (show mkAll ns s.data.toList = (2, []) by
              have e : mkBy nm t.data.toList = (2, []) := by rw [HMK.out]; unfold fit; rw [if_neg (by simp), if_pos (by simp; omega)]
              rw [HE.out (by rw [e]; simp), e])
            go_wp2_with (first
              | (go_at_call 7; refine (rKnown nm _).mono ?_; rintro e w1 ⟨rfl, rfl⟩)
              | (go_at_call 15; refine (HMD.out _).mono ?_; rintro e w2 ⟨rfl, hb2⟩))
            go_ret2
            rw [HRN.out]
            exact ⟨rfl, hb.trans (hb2.mono hb.size)⟩
          · have HQ := hid (show mkBy nm t.data.toList = (0, ys) by rw [HMK.out]; unfold fit; rw [if_neg (by simp), if_neg (by simp; omega)])
            go_wp2_with (first
              | (go_at_call 7; refine (rKnown nm _).mono ?_; rintro e w1 ⟨rfl, rfl⟩)
              | (go_at_call 15; refine (HMD.out _).mono ?_; rintro e w2 ⟨rfl, hb2⟩))
            go_roundw
            case rel =>
              refine ⟨k + 1, _, rfl, by go_num, by omega, ?_, ?_, hb.trans (hb2.mono hb.size)⟩
              · rw [size_of]; omega
              · rw [show n - (k + 1) = n - 1 - k by omega, HM.out, HQ.out]
            case measure => simp [intOf]; omega
      · obtain rfl : k = n := by omega
        go_wp2
        go_ret2
        have h1 := HA.out
        rw [Nat.sub_self] at h1
        rw [show mkAll ns s.data.toList = (0, t.data.toList) from h1]
        exact ⟨rfl, hb⟩
  · obtain ⟨hm, _, h2⟩ := makeF_chk (ns := ns) (l := s.data.toList) (by rw [ba_len]; exact hk)
    rw [hm]
    have h3 : 8 < n ∨ 20000 < s.size := by
      rw [hnn] at hk; unfold chkE at hk
      by_cases e : 8 < n ∨ 20000 < s.size
      · exact e
      · rw [if_neg e] at hk; exact absurd rfl hk
    clear hk h2 hm
    by_cases h8 : (8 : Int) < n
    · go_enter Try.func9, Try.ntmps9
      go_wp2
      go_ret2
      exact ⟨rfl, Below.refl _ _⟩
    · have h20 : (20000 : Int) < s.size := by omega
      go_enter Try.func9, Try.ntmps9
      go_wp2
      go_ret2
      exact ⟨rfl, Below.refl _ _⟩
end Go.Proofs.Ytemegkdfenjefaa
