/-
  Joined: Ra, Rb, Rc.
-/
import Derived.Test.YtflcibmjblioaaaGreatDoorFc
import Derived.Test.YtflcibmjblioaaaGreatDoorShelf
import Derived.PlainAid
import Derived.Test.YtflcibmjblioaaaGreatDoorPa
import Derived.Deep.CutRange

/-
  Reading: blanks, signs, digits; what is skipped, and words: of the program and of the document's answer.
-/
namespace Go.Proofs.YtflcibmjblioaaaGreatDoor
open Go.RowKit
set_option maxRecDepth 100000

def isSg (c : UInt8) : Bool := c == 40 || c == 41 || c == 60 || c == 62 || c == 91 || c == 93 || c == 123 || c == 125 || c == 47 || c == 37
/-- How many bytes tell nothing; inside of a note? -/
def skipL : List UInt8 → Bool → Nat
  | [], _ => 0
  | c :: r, note => if !(c == 37 || (note && c != 10 && c != 13)) && !isBl c then 0 else skipL r (c == 37 || (note && c != 10 && c != 13)) + 1
/-- The place of s that is next to at. -/
def place (s : ByteArray) (at_ : Int) : Nat := min at_.toNat s.size
def skipP (s : ByteArray) (k : Nat) : Nat := k + skipL (s.data.toList.drop k) false
def wordL (l : List UInt8) : Nat := (l.takeWhile fun c => !isBl c && !isSg c).length
def wordP (s : ByteArray) (k : Nat) : ByteArray := s.extract k (k + wordL (s.data.toList.drop k))

theorem eq_u8 (c : UInt8) (k : Nat) (hk : k < 256) : ((c.toNat : Int) == (k : Int)) = (c == k.toUInt8) := by
  rw [Bool.eq_iff_iff, beq_iff_eq, beq_iff_eq, ← UInt8.toNat_inj]
  simp only [Nat.toUInt8, UInt8.toNat_ofNat', Nat.mod_eq_of_lt hk]
  omega

theorem pBlank (c : UInt8) (w : World) :
    Calls Tryz.prog 78 #[.int .u8 (c.toNat : Int)] w fun e w' => e = .returned (.bool (isBl c)) ∧ w' = w := by
  go_enter Tryz.func78, Tryz.ntmps78
  go_wp2_with (go_at_call 122; refine (Tryz.strings_IndexByte _ _ _).mono ?_; rintro e w1 ⟨rfl, rfl⟩)
  go_ret
  refine ⟨ret_bool ?_, rfl⟩
  have h := indexByte_neg [0, 9, 10, 12, 13, 32] c
  have e : isBl c = [0, 9, 10, 12, 13, 32].contains c := by simp only [isBl, List.contains_cons, List.contains_nil, Bool.or_false, Bool.or_assoc]
  rw [e]
  rw [Bool.eq_iff_iff, decide_eq_true_iff]
  cases hc : [0, 9, 10, 12, 13, 32].contains c
  · have := h.2 hc
    simp; omega
  · have : ¬ Lib.indexByte [0, 9, 10, 12, 13, 32] c < 0 := fun hh => by rw [h.1 hh] at hc; cases hc
    simp; omega
theorem pSign (c : UInt8) (w : World) :
    Calls Tryz.prog 79 #[.int .u8 (c.toNat : Int)] w fun e w' => e = .returned (.bool (isSg c)) ∧ w' = w := by
  go_enter Tryz.func79, Tryz.ntmps79
  go_wp2_with (go_at_call 122; refine (Tryz.strings_IndexByte _ _ _).mono ?_; rintro e w1 ⟨rfl, rfl⟩)
  go_ret
  refine ⟨ret_bool ?_, rfl⟩
  have h := indexByte_neg [40, 41, 60, 62, 91, 93, 123, 125, 47, 37] c
  have e : isSg c = [40, 41, 60, 62, 91, 93, 123, 125, 47, 37].contains c := by simp only [isSg, List.contains_cons, List.contains_nil, Bool.or_false, Bool.or_assoc]
  rw [e]
  rw [Bool.eq_iff_iff, decide_eq_true_iff]
  cases hc : [40, 41, 60, 62, 91, 93, 123, 125, 47, 37].contains c
  · have := h.2 hc
    simp; omega
  · have : ¬ Lib.indexByte [40, 41, 60, 62, 91, 93, 123, 125, 47, 37] c < 0 := fun hh => by rw [h.1 hh] at hc; cases hc
    simp; omega
theorem pWithin (s : ByteArray) (a : Int) (w : World) (hs : s.size ≤ maxLen) :
    Calls Tryz.prog 77 #[.string s, .int .i64 a] w fun e w' => e = .returned (.int .i64 (place s a)) ∧ w' = w := by
  unfold maxLen at hs
  go_enter Tryz.func77, Tryz.ntmps77
  by_cases h0 : 0 ≤ a
  · by_cases h1 : a ≤ s.size
    · go_wp2
      go_ret
      exact ⟨ret_int (by unfold place; omega), rfl⟩
    · go_wp2
      go_ret
      exact ⟨ret_int (by unfold place; omega), rfl⟩
  · go_wp2
    go_ret
    exact ⟨ret_int (by unfold place; omega), rfl⟩
theorem pHex (c : UInt8) (w : World) :
    Calls Tryz.prog 148 #[.int .u8 (c.toNat : Int)] w fun e w' => e = .returned (.int .i64 (hexV c)) ∧ w' = w := by
  have hc := c.toNat_lt
  generalize hn : (c.toNat : Int) = n
  have h0 : 0 ≤ n := by omega
  have h1 : n < 256 := by omega
  have HV := hid (show hexV c = if 48 ≤ n ∧ n ≤ 57 then n - 48 else if 65 ≤ n ∧ n ≤ 70 then n - 55 else if 97 ≤ n ∧ n ≤ 102 then n - 87 else -1 by
    unfold hexV; subst hn; (repeat' split) <;> omega)
  clear hn hc
  go_enter Tryz.func148, Tryz.ntmps148
  by_cases a1 : 48 ≤ n
  · by_cases a2 : n ≤ 57
    · go_wp2
      go_ret
      exact ⟨ret_int (by rw [HV.out, if_pos ⟨a1, a2⟩]), rfl⟩
    by_cases a3 : 65 ≤ n
    · by_cases a4 : n ≤ 70
      · go_wp2
        go_ret
        exact ⟨ret_int (by rw [HV.out, if_neg (by omega), if_pos ⟨a3, a4⟩]; omega), rfl⟩
      by_cases a5 : 97 ≤ n
      · by_cases a6 : n ≤ 102
        · go_wp2
          go_ret
          exact ⟨ret_int (by rw [HV.out, if_neg (by omega), if_neg (by omega), if_pos ⟨a5, a6⟩]; omega), rfl⟩
        · go_wp2
          go_ret
          exact ⟨ret_int (by rw [HV.out, if_neg (by omega), if_neg (by omega), if_neg (by omega)]), rfl⟩
      · go_wp2
        go_ret
        exact ⟨ret_int (by rw [HV.out, if_neg (by omega), if_neg (by omega), if_neg (by omega)]), rfl⟩
    · have a5 : ¬ 97 ≤ n := by omega
      go_wp2
      go_ret
      exact ⟨ret_int (by rw [HV.out, if_neg (by omega), if_neg (by omega), if_neg (by omega)]), rfl⟩
  · have a3 : ¬ 65 ≤ n := by omega
    have a5 : ¬ 97 ≤ n := by omega
    go_wp2
    go_ret
    exact ⟨ret_int (by rw [HV.out, if_neg (by omega), if_neg (by omega), if_neg (by omega)]), rfl⟩
end Go.Proofs.YtflcibmjblioaaaGreatDoor

/-
  Reading: what is skipped, and words: of the program and of the document's answer.
-/
namespace Go.Proofs.YtflcibmjblioaaaGreatDoor
open Go.RowKit
set_option maxRecDepth 100000

theorem skip_step (s : ByteArray) (k : Nat) (b : Bool) (h : k < s.size) : skipL (s.data.toList.drop k) b = if !(s[k] == 37 || (b && s[k] != 10 && s[k] != 13)) && !isBl s[k] then 0 else skipL (s.data.toList.drop (k + 1)) (s[k] == 37 || (b && s[k] != 10 && s[k] != 13)) + 1 := by
  rw [List.drop_eq_getElem_cons (by simpa using h)]; rfl
theorem skip_end (s : ByteArray) (b : Bool) : skipL (s.data.toList.drop s.size) b = 0 := by
  rw [List.drop_of_length_le (by simp)]; rfl
theorem word_step (s : ByteArray) (k : Nat) (h : k < s.size) : wordL (s.data.toList.drop k) = if !isBl s[k] && !isSg s[k] then wordL (s.data.toList.drop (k + 1)) + 1 else 0 := by
  rw [List.drop_eq_getElem_cons (by simpa using h)]
  unfold wordL
  rw [List.takeWhile_cons]
  show (if (!isBl s[k] && !isSg s[k]) = true then _ else _ : List UInt8).length = _
  split <;> simp
theorem word_end (s : ByteArray) : wordL (s.data.toList.drop s.size) = 0 := by
  rw [List.drop_of_length_le (by simp)]; rfl
theorem pBlankN (c : UInt8) (n : Int) (h : n = (c.toNat : Int)) (w : World) :
    Calls Tryz.prog 78 #[.int .u8 n] w fun e w' => e = .returned (.bool (isBl c)) ∧ w' = w := by
  subst h; exact pBlank c w
set_option linter.unusedSimpArgs false in
set_option maxHeartbeats 4000000 in
theorem pSkip (s : ByteArray) (a : Int) (w : World) (hs : s.size ≤ maxLen) :
    Calls Tryz.prog 47 #[.string s, .int .i64 a] w fun e w' => e = .returned (.int .i64 (skipP s (place s a))) ∧ w' = w := by
  have hp : place s a ≤ s.size := by unfold place; omega
  have HSZ := hid hs
  unfold maxLen at hs
  go_enter Tryz.func47, Tryz.ntmps47
  go_wp2_with (go_at_call 77; refine (pWithin s a _ HSZ.out).mono ?_; rintro e w1 ⟨rfl, rfl⟩)
  go_loop [1, 5] (fun i b => ∃ (k : Nat) (n : Bool), k ≤ s.size ∧ i = .int .i64 k ∧ b = .bool n ∧ k + skipL (s.data.toList.drop k) n = skipP s (place s a)) (fun i _ => s.size - (intOf i).toNat)
  case atStart => exact ⟨place s a, false, hp, rfl, rfl, rfl⟩
  case round =>
    obtain ⟨k, n, hk, rfl, rfl, hT⟩ := hrel
    have HT := hid hT
    clear hT
    by_cases hlt : k < s.size
    · have HS := hid (skip_step s k n hlt)
      have E0 := hid (eq_u8 s[k] 37 (by omega))
      have E1 := hid (eq_u8 s[k] 10 (by omega))
      have E2 := hid (eq_u8 s[k] 13 (by omega))
      have i10 : isBl 10 = true := rfl
      have i13 : isBl 13 = true := rfl
      cases b0 : ((s[k].toNat : Int) == 37)
      case true =>
        have Q0 : Hid ((s[k] == 37) = true) := hid (E0.out.symm.trans b0)
        cases n
        all_goals
          go_wp2_with (fail)
          have hh := HT.out
          rw [HS.out, Q0.out] at hh
          simp only [bne, Bool.not_true, Bool.not_false, Bool.true_or, Bool.false_or, Bool.or_false, Bool.and_true, Bool.and_false, Bool.true_and, Bool.false_and, Bool.false_eq_true, if_false] at hh
          go_round
          case rel => exact ⟨k + 1, true, by omega, by go_num, rfl, by omega⟩
          case measure => simp [intOf]; omega
      case false =>
        have Q0 : Hid ((s[k] == 37) = false) := hid (E0.out.symm.trans b0)
        cases n
        case false =>
          cases b3 : isBl s[k]
          case true =>
            have Q3 := hid b3
            go_wp2_with (go_at_call 78; refine (pBlankN s[k] _ rfl _).mono ?_; rintro e w1 ⟨rfl, rfl⟩)
            have hh := HT.out
            rw [HS.out, Q0.out, Q3.out] at hh
            simp only [bne, Bool.not_true, Bool.not_false, Bool.true_or, Bool.false_or, Bool.or_false, Bool.and_true, Bool.and_false, Bool.true_and, Bool.false_and, Bool.false_eq_true, if_false] at hh
            go_round
            case rel => exact ⟨k + 1, false, by omega, by go_num, rfl, by omega⟩
            case measure => simp [intOf]; omega
          case false =>
            have Q3 := hid b3
            go_wp2_with (go_at_call 78; refine (pBlankN s[k] _ rfl _).mono ?_; rintro e w1 ⟨rfl, rfl⟩)
            go_ret
            have hh := HT.out
            rw [HS.out, Q0.out, Q3.out] at hh
            rw [if_pos (by simp)] at hh
            exact ⟨ret_int (by omega), rfl⟩
        case true =>
          cases b1 : ((s[k].toNat : Int) == 10)
          case true =>
            have Q1 : Hid ((s[k] == 10) = true) := hid (E1.out.symm.trans b1)
            have Q3 := hid (show isBl s[k] = true by rw [eq_of_beq Q1.out]; rfl)
            have p1 : (s[k].toNat : Int) = 10 := eq_of_beq b1
            clear b1
            go_wp2_with (go_at_call 78; refine (pBlankN 10 _ rfl _).mono ?_; rintro e w1 ⟨rfl, rfl⟩)
            have hh := HT.out
            rw [HS.out, Q0.out, Q3.out, bne, Q1.out] at hh
            simp only [bne, Bool.not_true, Bool.not_false, Bool.true_or, Bool.false_or, Bool.or_false, Bool.and_true, Bool.and_false, Bool.true_and, Bool.false_and, Bool.false_eq_true, if_false] at hh
            go_round
            case rel => exact ⟨k + 1, false, by omega, by go_num, rfl, by omega⟩
            case measure => simp [intOf]; omega
          case false =>
            have Q1 : Hid ((s[k] == 10) = false) := hid (E1.out.symm.trans b1)
            cases b2 : ((s[k].toNat : Int) == 13)
            case true =>
              have Q2 : Hid ((s[k] == 13) = true) := hid (E2.out.symm.trans b2)
              have Q3 := hid (show isBl s[k] = true by rw [eq_of_beq Q2.out]; rfl)
              have p1 : (s[k].toNat : Int) = 13 := eq_of_beq b2
              clear b2
              go_wp2_with (go_at_call 78; refine (pBlankN 13 _ rfl _).mono ?_; rintro e w1 ⟨rfl, rfl⟩)
              have hh := HT.out
              rw [HS.out, Q0.out, Q3.out, bne, bne, Q1.out, Q2.out] at hh
              simp only [bne, Bool.not_true, Bool.not_false, Bool.true_or, Bool.false_or, Bool.or_false, Bool.and_true, Bool.and_false, Bool.true_and, Bool.false_and, Bool.false_eq_true, if_false] at hh
              go_round
              case rel => exact ⟨k + 1, false, by omega, by go_num, rfl, by omega⟩
              case measure => simp [intOf]; omega
            case false =>
              have Q2 : Hid ((s[k] == 13) = false) := hid (E2.out.symm.trans b2)
              have p1 : ¬ (s[k].toNat : Int) = 10 := by simpa using b1
              have p2 : ¬ (s[k].toNat : Int) = 13 := by simpa using b2
              go_wp2_with (fail)
              have hh := HT.out
              rw [HS.out, Q0.out, bne, bne, Q1.out, Q2.out] at hh
              simp only [bne, Bool.not_true, Bool.not_false, Bool.true_or, Bool.false_or, Bool.or_false, Bool.and_true, Bool.and_false, Bool.true_and, Bool.false_and, Bool.false_eq_true, if_false] at hh
              go_round
              case rel => exact ⟨k + 1, true, by omega, by go_num, by simp [p1, p2], by omega⟩
              case measure => simp [intOf]; omega
    · have hke : k = s.size := by omega
      subst hke
      have HE := hid (skip_end s n)
      go_wp2
      go_ret
      exact ⟨ret_int (by have h1 := HT.out; have h2 := HE.out; omega), rfl⟩
end Go.Proofs.YtflcibmjblioaaaGreatDoor

/-
  Reading: words of the program and of the document's answer; what its answer skips.
-/
namespace Go.Proofs.YtflcibmjblioaaaGreatDoor
open Go.RowKit
set_option maxRecDepth 100000

set_option maxHeartbeats 1000000 in
theorem pWord (s : ByteArray) (a : Int) (w : World) (hs : s.size ≤ maxLen) :
    Calls Tryz.prog 48 #[.string s, .int .i64 a] w fun e w' => e = .returned (.string (wordP s (place s a))) ∧ w' = w := by
  have hp : place s a ≤ s.size := by unfold place; omega
  have HSZ := hid hs
  unfold maxLen at hs
  go_enter Tryz.func48, Tryz.ntmps48
  go_wp2_with (go_at_call 77; refine (pWithin s a _ HSZ.out).mono ?_; rintro e w1 ⟨rfl, rfl⟩)
  go_loop [5] (fun i => ∃ k : Nat, place s a ≤ k ∧ k ≤ s.size ∧ i = .int .i64 k ∧ k + wordL (s.data.toList.drop k) = place s a + wordL (s.data.toList.drop (place s a))) (fun i => s.size - (intOf i).toNat)
  case atStart => exact ⟨place s a, Nat.le_refl _, hp, rfl, rfl⟩
  case round =>
    obtain ⟨k, hpk, hk, rfl, hT⟩ := hrel
    have HT := hid hT
    clear hT
    by_cases hlt : k < s.size
    · have HS := hid (word_step s k hlt)
      cases b0 : isBl s[k]
      case true =>
        have B0 := hid b0
        go_wp2_with (first | (go_at_call 78; refine (pBlank _ _).mono ?_; rintro e w1 ⟨rfl, rfl⟩) | (go_at_call 79; refine (pSign _ _).mono ?_; rintro e w1 ⟨rfl, rfl⟩))
        go_ret
        refine ⟨?_, rfl⟩
        have h1 := HT.out
        rw [HS.out, B0.out, if_neg (by simp)] at h1
        unfold wordP
        rw [← h1]; rfl
      case false =>
        have B0 := hid b0
        cases b1 : isSg s[k]
        case true =>
          have B1 := hid b1
          go_wp2_with (first | (go_at_call 78; refine (pBlank _ _).mono ?_; rintro e w1 ⟨rfl, rfl⟩) | (go_at_call 79; refine (pSign _ _).mono ?_; rintro e w1 ⟨rfl, rfl⟩))
          go_ret
          refine ⟨?_, rfl⟩
          have h1 := HT.out
          rw [HS.out, B0.out, B1.out, if_neg (by simp)] at h1
          unfold wordP
          rw [← h1]; rfl
        case false =>
          have B1 := hid b1
          go_wp2_with (first | (go_at_call 78; refine (pBlank _ _).mono ?_; rintro e w1 ⟨rfl, rfl⟩) | (go_at_call 79; refine (pSign _ _).mono ?_; rintro e w1 ⟨rfl, rfl⟩))
          have h1 := HT.out
          rw [HS.out, B0.out, B1.out, if_pos (by simp)] at h1
          go_round
          case rel => exact ⟨k + 1, by omega, by omega, by go_num, by omega⟩
          case measure => simp [intOf]; omega
    · have hke : k = s.size := by omega
      have HE := hid (word_end s)
      go_wp2_with fail
      go_ret
      refine ⟨?_, rfl⟩
      have h1 := HT.out
      rw [hke, HE.out] at h1
      unfold wordP
      rw [← h1]; rfl
end Go.Proofs.YtflcibmjblioaaaGreatDoor
