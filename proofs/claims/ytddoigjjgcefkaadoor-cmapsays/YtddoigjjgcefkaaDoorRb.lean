/-
  Reading: what is skipped, and words: of the program and of the document's answer.
-/
import Derived.Test.YtddoigjjgcefkaaDoorRa
namespace Go.Proofs.YtddoigjjgcefkaaDoor
open Go.RowKit
set_option maxRecDepth 100000

theorem skip_step (s : ByteArray) (k : Nat) (b : Bool) (h : k < s.size) : skipL (s.data.toList.drop k) b = if !(s[k] == 37 || (b && s[k] != 10 && s[k] != 13)) && !isBl s[k] then 0 else skipL (s.data.toList.drop (k + 1)) (s[k] == 37 || (b && s[k] != 10 && s[k] != 13)) + 1 := by
  rw [List.drop_eq_getElem_cons (by simpa using h)]; rfl
theorem skip_end (s : ByteArray) (b : Bool) : skipL (s.data.toList.drop s.size) b = 0 := by
  rw [List.drop_of_length_le (by simp)]; rfl
theorem word_step (s : ByteArray) (k : Nat) (h : k < s.size) : wordL (s.data.toList.drop k) = if !isBl s[k] && !isSg s[k] then wordL (s.data.toList.drop (k + 1)) + 1 else 0 := by
  rw [List.drop_eq_getElem_cons (by simpa using h)]
  unfold wordL
  rw [List.takeWhile_cons]
  show (if (!isBl s[k] && !isSg s[k]) = true then _ else _ : List UInt8).length = _
  split <;> simp
theorem word_end (s : ByteArray) : wordL (s.data.toList.drop s.size) = 0 := by
  rw [List.drop_of_length_le (by simp)]; rfl
theorem pBlankN (c : UInt8) (n : Int) (h : n = (c.toNat : Int)) (w : World) :
    Calls Tryd.prog 168 #[.int .u8 n] w fun e w' => e = .returned (.bool (isBl c)) ∧ w' = w := by
  subst h; exact pBlank c w
set_option linter.unusedSimpArgs false in
set_option maxHeartbeats 4000000 in
theorem pSkip (s : ByteArray) (a : Int) (w : World) (hs : s.size ≤ maxLen) :
    Calls Tryd.prog 154 #[.string s, .int .i64 a] w fun e w' => e = .returned (.int .i64 (skipP s (place s a))) ∧ w' = w := by
  have hp : place s a ≤ s.size := by unfold place; omega
  have HSZ := hid hs
  unfold maxLen at hs
  go_enter Tryd.func154, Tryd.ntmps154
  go_wp2_with (go_at_call 167; refine (pWithin s a _ HSZ.out).mono ?_; rintro e w1 ⟨rfl, rfl⟩)
  go_loop [1, 5] (fun i b => ∃ (k : Nat) (n : Bool), k ≤ s.size ∧ i = .int .i64 k ∧ b = .bool n ∧ k + skipL (s.data.toList.drop k) n = skipP s (place s a)) (fun i _ => s.size - (intOf i).toNat)
  case atStart => exact ⟨place s a, false, hp, rfl, rfl, rfl⟩
  case round =>
    obtain ⟨k, n, hk, rfl, rfl, hT⟩ := hrel
    have HT := hid hT
    clear hT
    by_cases hlt : k < s.size
    · have HS := hid (skip_step s k n hlt)
      have E0 := hid (eq_u8 s[k] 37 (by omega))
      have E1 := hid (eq_u8 s[k] 10 (by omega))
      have E2 := hid (eq_u8 s[k] 13 (by omega))
      have i10 : isBl 10 = true := rfl
      have i13 : isBl 13 = true := rfl
      cases b0 : ((s[k].toNat : Int) == 37)
      case true =>
        have Q0 : Hid ((s[k] == 37) = true) := hid (E0.out.symm.trans b0)
        cases n
        all_goals
          go_wp2_with (fail)
          have hh := HT.out
          rw [HS.out, Q0.out] at hh
          simp only [bne, Bool.not_true, Bool.not_false, Bool.true_or, Bool.false_or, Bool.or_false, Bool.and_true, Bool.and_false, Bool.true_and, Bool.false_and, Bool.false_eq_true, if_false] at hh
          go_round
          case rel => exact ⟨k + 1, true, by omega, by go_num, rfl, by omega⟩
          case measure => simp [intOf]; omega
      case false =>
        have Q0 : Hid ((s[k] == 37) = false) := hid (E0.out.symm.trans b0)
        cases n
        case false =>
          cases b3 : isBl s[k]
          case true =>
            have Q3 := hid b3
            go_wp2_with (go_at_call 168; refine (pBlankN s[k] _ rfl _).mono ?_; rintro e w1 ⟨rfl, rfl⟩)
            have hh := HT.out
            rw [HS.out, Q0.out, Q3.out] at hh
            simp only [bne, Bool.not_true, Bool.not_false, Bool.true_or, Bool.false_or, Bool.or_false, Bool.and_true, Bool.and_false, Bool.true_and, Bool.false_and, Bool.false_eq_true, if_false] at hh
            go_round
            case rel => exact ⟨k + 1, false, by omega, by go_num, rfl, by omega⟩
            case measure => simp [intOf]; omega
          case false =>
            have Q3 := hid b3
            go_wp2_with (go_at_call 168; refine (pBlankN s[k] _ rfl _).mono ?_; rintro e w1 ⟨rfl, rfl⟩)
            go_ret
            have hh := HT.out
            rw [HS.out, Q0.out, Q3.out] at hh
            rw [if_pos (by simp)] at hh
            exact ⟨ret_int (by omega), rfl⟩
        case true =>
          cases b1 : ((s[k].toNat : Int) == 10)
          case true =>
            have Q1 : Hid ((s[k] == 10) = true) := hid (E1.out.symm.trans b1)
            have Q3 := hid (show isBl s[k] = true by rw [eq_of_beq Q1.out]; rfl)
            have p1 : (s[k].toNat : Int) = 10 := eq_of_beq b1
            clear b1
            go_wp2_with (go_at_call 168; refine (pBlankN 10 _ rfl _).mono ?_; rintro e w1 ⟨rfl, rfl⟩)
            have hh := HT.out
            rw [HS.out, Q0.out, Q3.out, bne, Q1.out] at hh
            simp only [bne, Bool.not_true, Bool.not_false, Bool.true_or, Bool.false_or, Bool.or_false, Bool.and_true, Bool.and_false, Bool.true_and, Bool.false_and, Bool.false_eq_true, if_false] at hh
            go_round
            case rel => exact ⟨k + 1, false, by omega, by go_num, rfl, by omega⟩
            case measure => simp [intOf]; omega
          case false =>
            have Q1 : Hid ((s[k] == 10) = false) := hid (E1.out.symm.trans b1)
            cases b2 : ((s[k].toNat : Int) == 13)
            case true =>
              have Q2 : Hid ((s[k] == 13) = true) := hid (E2.out.symm.trans b2)
              have Q3 := hid (show isBl s[k] = true by rw [eq_of_beq Q2.out]; rfl)
              have p1 : (s[k].toNat : Int) = 13 := eq_of_beq b2
              clear b2
              go_wp2_with (go_at_call 168; refine (pBlankN 13 _ rfl _).mono ?_; rintro e w1 ⟨rfl, rfl⟩)
              have hh := HT.out
              rw [HS.out, Q0.out, Q3.out, bne, bne, Q1.out, Q2.out] at hh
              simp only [bne, Bool.not_true, Bool.not_false, Bool.true_or, Bool.false_or, Bool.or_false, Bool.and_true, Bool.and_false, Bool.true_and, Bool.false_and, Bool.false_eq_true, if_false] at hh
              go_round
              case rel => exact ⟨k + 1, false, by omega, by go_num, rfl, by omega⟩
              case measure => simp [intOf]; omega
            case false =>
              have Q2 : Hid ((s[k] == 13) = false) := hid (E2.out.symm.trans b2)
              have p1 : ¬ (s[k].toNat : Int) = 10 := by simpa using b1
              have p2 : ¬ (s[k].toNat : Int) = 13 := by simpa using b2
              go_wp2_with (fail)
              have hh := HT.out
              rw [HS.out, Q0.out, bne, bne, Q1.out, Q2.out] at hh
              simp only [bne, Bool.not_true, Bool.not_false, Bool.true_or, Bool.false_or, Bool.or_false, Bool.and_true, Bool.and_false, Bool.true_and, Bool.false_and, Bool.false_eq_true, if_false] at hh
              go_round
              case rel => exact ⟨k + 1, true, by omega, by go_num, by simp [p1, p2], by omega⟩
              case measure => simp [intOf]; omega
    · have hke : k = s.size := by omega
      subst hke
      have HE := hid (skip_end s n)
      go_wp2
      go_ret
      exact ⟨ret_int (by have h1 := HT.out; have h2 := HE.out; omega), rfl⟩
end Go.Proofs.YtddoigjjgcefkaaDoor
