/-
  Reading: what is skipped, and words: of the program and of the document's answer.
-/
import Derived.Test.YtggojafapieliabDoorRa
namespace Go.Proofs.YtggojafapieliabDoor
open Go.RowKit
set_option maxRecDepth 100000

theorem skip_step (s : ByteArray) (k : Nat) (b : Bool) (h : k < s.size) : skipL (s.data.toList.drop k) b = if !(s[k] == 37 || (b && s[k] != 10 && s[k] != 13)) && !isBl s[k] then 0 else skipL (s.data.toList.drop (k + 1)) (s[k] == 37 || (b && s[k] != 10 && s[k] != 13)) + 1 := by
  rw [List.drop_eq_getElem_cons (by simpa using h)]; rfl
theorem skip_end (s : ByteArray) (b : Bool) : skipL (s.data.toList.drop s.size) b = 0 := by
  rw [List.drop_of_length_le (by simp)]; rfl
theorem word_step (s : ByteArray) (k : Nat) (h : k < s.size) : wordL (s.data.toList.drop k) = if !isBl s[k] && !isSg s[k] then wordL (s.data.toList.drop (k + 1)) + 1 else 0 := by
  rw [List.drop_eq_getElem_cons (by simpa using h)]
  unfold wordL
  rw [List.takeWhile_cons]
  show (if (!isBl s[k] && !isSg s[k]) = true then _ else _ : List UInt8).length = _
  split <;> simp
theorem word_end (s : ByteArray) : wordL (s.data.toList.drop s.size) = 0 := by
  rw [List.drop_of_length_le (by simp)]; rfl
theorem rSpecial (c : UInt8) (w : World) :
    Calls Tryd.prog 74 #[.int .u8 (c.toNat : Int)] w fun e w' => e = .returned (.bool (isSg c)) ∧ w' = w := by
  have e0 := hid (eq_u8 c 40 (by omega))
  have e1 := hid (eq_u8 c 41 (by omega))
  have e2 := hid (eq_u8 c 60 (by omega))
  have e3 := hid (eq_u8 c 62 (by omega))
  have e4 := hid (eq_u8 c 91 (by omega))
  have e5 := hid (eq_u8 c 93 (by omega))
  have e6 := hid (eq_u8 c 123 (by omega))
  have e7 := hid (eq_u8 c 125 (by omega))
  have e8 := hid (eq_u8 c 47 (by omega))
  have e9 := hid (eq_u8 c 37 (by omega))
  go_enter Tryd.func74, Tryd.ntmps74
  cases b0 : ((c.toNat : Int) == 40)
  case true =>
    go_wp2
    go_ret
    refine ⟨ret_bool ?_, rfl⟩
    rw [eq_of_beq (show (c == 40) = true from e0.out.symm.trans b0)]
    rfl
  cases b1 : ((c.toNat : Int) == 41)
  case true =>
    go_wp2
    go_ret
    refine ⟨ret_bool ?_, rfl⟩
    rw [eq_of_beq (show (c == 41) = true from e1.out.symm.trans b1)]
    rfl
  cases b2 : ((c.toNat : Int) == 60)
  case true =>
    go_wp2
    go_ret
    refine ⟨ret_bool ?_, rfl⟩
    rw [eq_of_beq (show (c == 60) = true from e2.out.symm.trans b2)]
    rfl
  cases b3 : ((c.toNat : Int) == 62)
  case true =>
    go_wp2
    go_ret
    refine ⟨ret_bool ?_, rfl⟩
    rw [eq_of_beq (show (c == 62) = true from e3.out.symm.trans b3)]
    rfl
  cases b4 : ((c.toNat : Int) == 91)
  case true =>
    go_wp2
    go_ret
    refine ⟨ret_bool ?_, rfl⟩
    rw [eq_of_beq (show (c == 91) = true from e4.out.symm.trans b4)]
    rfl
  cases b5 : ((c.toNat : Int) == 93)
  case true =>
    go_wp2
    go_ret
    refine ⟨ret_bool ?_, rfl⟩
    rw [eq_of_beq (show (c == 93) = true from e5.out.symm.trans b5)]
    rfl
  cases b6 : ((c.toNat : Int) == 123)
  case true =>
    go_wp2
    go_ret
    refine ⟨ret_bool ?_, rfl⟩
    rw [eq_of_beq (show (c == 123) = true from e6.out.symm.trans b6)]
    rfl
  cases b7 : ((c.toNat : Int) == 125)
  case true =>
    go_wp2
    go_ret
    refine ⟨ret_bool ?_, rfl⟩
    rw [eq_of_beq (show (c == 125) = true from e7.out.symm.trans b7)]
    rfl
  cases b8 : ((c.toNat : Int) == 47)
  case true =>
    go_wp2
    go_ret
    refine ⟨ret_bool ?_, rfl⟩
    rw [eq_of_beq (show (c == 47) = true from e8.out.symm.trans b8)]
    rfl
  cases b9 : ((c.toNat : Int) == 37)
  case true =>
    go_wp2
    go_ret
    refine ⟨ret_bool ?_, rfl⟩
    rw [eq_of_beq (show (c == 37) = true from e9.out.symm.trans b9)]
    rfl
  go_wp2
  go_ret
  refine ⟨ret_bool ?_, rfl⟩
  unfold isSg
  rw [show (c == 40) = false from e0.out.symm.trans b0, show (c == 41) = false from e1.out.symm.trans b1, show (c == 60) = false from e2.out.symm.trans b2, show (c == 62) = false from e3.out.symm.trans b3, show (c == 91) = false from e4.out.symm.trans b4, show (c == 93) = false from e5.out.symm.trans b5, show (c == 123) = false from e6.out.symm.trans b6, show (c == 125) = false from e7.out.symm.trans b7, show (c == 47) = false from e8.out.symm.trans b8, show (c == 37) = false from e9.out.symm.trans b9]
  rfl

theorem pBlankN (c : UInt8) (n : Int) (h : n = (c.toNat : Int)) (w : World) :
    Calls Tryd.prog 87 #[.int .u8 n] w fun e w' => e = .returned (.bool (isBl c)) ∧ w' = w := by
  subst h; exact pBlank c w
theorem rBlankN (c : UInt8) (n : Int) (h : n = (c.toNat : Int)) (w : World) :
    Calls Tryd.prog 73 #[.int .u8 n] w fun e w' => e = .returned (.bool (isBl c)) ∧ w' = w := by
  subst h; exact rBlank c w
set_option linter.unusedSimpArgs false in
set_option maxHeartbeats 4000000 in
theorem pSkip (s : ByteArray) (a : Int) (w : World) (hs : s.size ≤ maxLen) :
    Calls Tryd.prog 64 #[.string s, .int .i64 a] w fun e w' => e = .returned (.int .i64 (skipP s (place s a))) ∧ w' = w := by
  have hp : place s a ≤ s.size := by unfold place; omega
  have HSZ := hid hs
  unfold maxLen at hs
  go_enter Tryd.func64, Tryd.ntmps64
  go_wp2_with (go_at_call 86; refine (pWithin s a _ HSZ.out).mono ?_; rintro e w1 ⟨rfl, rfl⟩)
  go_loop [1, 5] (fun i b => ∃ (k : Nat) (n : Bool), k ≤ s.size ∧ i = .int .i64 k ∧ b = .bool n ∧ k + skipL (s.data.toList.drop k) n = skipP s (place s a)) (fun i _ => s.size - (intOf i).toNat)
  case atStart => exact ⟨place s a, false, hp, rfl, rfl, rfl⟩
  case round =>
    obtain ⟨k, n, hk, rfl, rfl, hT⟩ := hrel
    have HT := hid hT
    clear hT
    by_cases hlt : k < s.size
    · have HS := hid (skip_step s k n hlt)
      have E0 := hid (eq_u8 s[k] 37 (by omega))
      have E1 := hid (eq_u8 s[k] 10 (by omega))
      have E2 := hid (eq_u8 s[k] 13 (by omega))
      have i10 : isBl 10 = true := rfl
      have i13 : isBl 13 = true := rfl
      cases b0 : ((s[k].toNat : Int) == 37)
      case true =>
        have Q0 : Hid ((s[k] == 37) = true) := hid (E0.out.symm.trans b0)
        cases n
        all_goals
          go_wp2_with (fail)
          have hh := HT.out
          rw [HS.out, Q0.out] at hh
          simp only [bne, Bool.not_true, Bool.not_false, Bool.true_or, Bool.false_or, Bool.or_false, Bool.and_true, Bool.and_false, Bool.true_and, Bool.false_and, Bool.false_eq_true, if_false] at hh
          go_round
          case rel => exact ⟨k + 1, true, by omega, by go_num, rfl, by omega⟩
          case measure => simp [intOf]; omega
      case false =>
        have Q0 : Hid ((s[k] == 37) = false) := hid (E0.out.symm.trans b0)
        cases n
        case false =>
          cases b3 : isBl s[k]
          case true =>
            have Q3 := hid b3
            go_wp2_with (go_at_call 87; refine (pBlankN s[k] _ rfl _).mono ?_; rintro e w1 ⟨rfl, rfl⟩)
            have hh := HT.out
            rw [HS.out, Q0.out, Q3.out] at hh
            simp only [bne, Bool.not_true, Bool.not_false, Bool.true_or, Bool.false_or, Bool.or_false, Bool.and_true, Bool.and_false, Bool.true_and, Bool.false_and, Bool.false_eq_true, if_false] at hh
            go_round
            case rel => exact ⟨k + 1, false, by omega, by go_num, rfl, by omega⟩
            case measure => simp [intOf]; omega
          case false =>
            have Q3 := hid b3
            go_wp2_with (go_at_call 87; refine (pBlankN s[k] _ rfl _).mono ?_; rintro e w1 ⟨rfl, rfl⟩)
            go_ret
            have hh := HT.out
            rw [HS.out, Q0.out, Q3.out] at hh
            rw [if_pos (by simp)] at hh
            exact ⟨ret_int (by omega), rfl⟩
        case true =>
          cases b1 : ((s[k].toNat : Int) == 10)
          case true =>
            have Q1 : Hid ((s[k] == 10) = true) := hid (E1.out.symm.trans b1)
            have Q3 := hid (show isBl s[k] = true by rw [eq_of_beq Q1.out]; rfl)
            have p1 : (s[k].toNat : Int) = 10 := eq_of_beq b1
            clear b1
            go_wp2_with (go_at_call 87; refine (pBlankN 10 _ rfl _).mono ?_; rintro e w1 ⟨rfl, rfl⟩)
            have hh := HT.out
            rw [HS.out, Q0.out, Q3.out, bne, Q1.out] at hh
            simp only [bne, Bool.not_true, Bool.not_false, Bool.true_or, Bool.false_or, Bool.or_false, Bool.and_true, Bool.and_false, Bool.true_and, Bool.false_and, Bool.false_eq_true, if_false] at hh
            go_round
            case rel => exact ⟨k + 1, false, by omega, by go_num, rfl, by omega⟩
            case measure => simp [intOf]; omega
          case false =>
            have Q1 : Hid ((s[k] == 10) = false) := hid (E1.out.symm.trans b1)
            cases b2 : ((s[k].toNat : Int) == 13)
            case true =>
              have Q2 : Hid ((s[k] == 13) = true) := hid (E2.out.symm.trans b2)
              have Q3 := hid (show isBl s[k] = true by rw [eq_of_beq Q2.out]; rfl)
              have p1 : (s[k].toNat : Int) = 13 := eq_of_beq b2
              clear b2
              go_wp2_with (go_at_call 87; refine (pBlankN 13 _ rfl _).mono ?_; rintro e w1 ⟨rfl, rfl⟩)
              have hh := HT.out
              rw [HS.out, Q0.out, Q3.out, bne, bne, Q1.out, Q2.out] at hh
              simp only [bne, Bool.not_true, Bool.not_false, Bool.true_or, Bool.false_or, Bool.or_false, Bool.and_true, Bool.and_false, Bool.true_and, Bool.false_and, Bool.false_eq_true, if_false] at hh
              go_round
              case rel => exact ⟨k + 1, false, by omega, by go_num, rfl, by omega⟩
              case measure => simp [intOf]; omega
            case false =>
              have Q2 : Hid ((s[k] == 13) = false) := hid (E2.out.symm.trans b2)
              have p1 : ¬ (s[k].toNat : Int) = 10 := by simpa using b1
              have p2 : ¬ (s[k].toNat : Int) = 13 := by simpa using b2
              go_wp2_with (fail)
              have hh := HT.out
              rw [HS.out, Q0.out, bne, bne, Q1.out, Q2.out] at hh
              simp only [bne, Bool.not_true, Bool.not_false, Bool.true_or, Bool.false_or, Bool.or_false, Bool.and_true, Bool.and_false, Bool.true_and, Bool.false_and, Bool.false_eq_true, if_false] at hh
              go_round
              case rel => exact ⟨k + 1, true, by omega, by go_num, by simp [p1, p2], by omega⟩
              case measure => simp [intOf]; omega
    · have hke : k = s.size := by omega
      subst hke
      have HE := hid (skip_end s n)
      go_wp2
      go_ret
      exact ⟨ret_int (by have h1 := HT.out; have h2 := HE.out; omega), rfl⟩
end Go.Proofs.YtggojafapieliabDoor
