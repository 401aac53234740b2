/-
  Joined: Rc, Re, Rg.
-/
import Derived.Test.YtefbfgcbbpmhlabGreatDoorRb
import Derived.Deep.CutRange

/-
  Reading: words of the program and of the document's answer; what its answer skips.
-/
namespace Go.Proofs.YtefbfgcbbpmhlabGreatDoor
open Go.RowKit
set_option maxRecDepth 100000

set_option maxHeartbeats 1000000 in
theorem pWord (s : ByteArray) (a : Int) (w : World) (hs : s.size ≤ maxLen) :
    Calls Tryz.prog 108 #[.string s, .int .i64 a] w fun e w' => e = .returned (.string (wordP s (place s a))) ∧ w' = w := by
  have hp : place s a ≤ s.size := by unfold place; omega
  have HSZ := hid hs
  unfold maxLen at hs
  go_enter Tryz.func108, Tryz.ntmps108
  go_wp2_with (go_at_call 161; refine (pWithin s a _ HSZ.out).mono ?_; rintro e w1 ⟨rfl, rfl⟩)
  go_loop [5] (fun i => ∃ k : Nat, place s a ≤ k ∧ k ≤ s.size ∧ i = .int .i64 k ∧ k + wordL (s.data.toList.drop k) = place s a + wordL (s.data.toList.drop (place s a))) (fun i => s.size - (intOf i).toNat)
  case atStart => exact ⟨place s a, Nat.le_refl _, hp, rfl, rfl⟩
  case round =>
    obtain ⟨k, hpk, hk, rfl, hT⟩ := hrel
    have HT := hid hT
    clear hT
    by_cases hlt : k < s.size
    · have HS := hid (word_step s k hlt)
      cases b0 : isBl s[k]
      case true =>
        have B0 := hid b0
        go_wp2_with (first | (go_at_call 162; refine (pBlank _ _).mono ?_; rintro e w1 ⟨rfl, rfl⟩) | (go_at_call 163; refine (pSign _ _).mono ?_; rintro e w1 ⟨rfl, rfl⟩))
        go_ret
        refine ⟨?_, rfl⟩
        have h1 := HT.out
        rw [HS.out, B0.out, if_neg (by simp)] at h1
        unfold wordP
        rw [← h1]; rfl
      case false =>
        have B0 := hid b0
        cases b1 : isSg s[k]
        case true =>
          have B1 := hid b1
          go_wp2_with (first | (go_at_call 162; refine (pBlank _ _).mono ?_; rintro e w1 ⟨rfl, rfl⟩) | (go_at_call 163; refine (pSign _ _).mono ?_; rintro e w1 ⟨rfl, rfl⟩))
          go_ret
          refine ⟨?_, rfl⟩
          have h1 := HT.out
          rw [HS.out, B0.out, B1.out, if_neg (by simp)] at h1
          unfold wordP
          rw [← h1]; rfl
        case false =>
          have B1 := hid b1
          go_wp2_with (first | (go_at_call 162; refine (pBlank _ _).mono ?_; rintro e w1 ⟨rfl, rfl⟩) | (go_at_call 163; refine (pSign _ _).mono ?_; rintro e w1 ⟨rfl, rfl⟩))
          have h1 := HT.out
          rw [HS.out, B0.out, B1.out, if_pos (by simp)] at h1
          go_round
          case rel => exact ⟨k + 1, by omega, by omega, by go_num, by omega⟩
          case measure => simp [intOf]; omega
    · have hke : k = s.size := by omega
      have HE := hid (word_end s)
      go_wp2_with fail
      go_ret
      refine ⟨?_, rfl⟩
      have h1 := HT.out
      rw [hke, HE.out] at h1
      unfold wordP
      rw [← h1]; rfl
set_option maxHeartbeats 1000000 in
theorem rWord (s : ByteArray) (a : Int) (w : World) (hs : s.size ≤ maxLen) :
    Calls Tryz.prog 79 #[.string s, .int .i64 a] w fun e w' => e = .returned (.string (wordP s (place s a))) ∧ w' = w := by
  have hp : place s a ≤ s.size := by unfold place; omega
  have HP := hid (show place s a = min a.toNat s.size from rfl)
  unfold maxLen at hs
  go_enter Tryz.func79, Tryz.ntmps79
  go_upto_region 1 with fail
  go_cut [1] from 6 to 10 (fun t wx => t = .int .i64 (place s a) ∧ wx = w)
  case first =>
    by_cases h0 : 0 ≤ a
    · by_cases h1 : a ≤ s.size
      · go_wp2_with fail
        go_meet
        exact ⟨by have := HP.out; simp; omega, rfl⟩
      · go_wp2_with fail
        go_meet
        exact ⟨by have := HP.out; simp; omega, rfl⟩
    · go_wp2_with fail
      go_meet
      exact ⟨by have := HP.out; simp; omega, rfl⟩
  case rest =>
    obtain ⟨rfl, hwx⟩ := hcut
    have hwy := hwx.symm
    clear hwx
    subst hwy
    go_wp2_with fail
    go_loop [5] (fun i => ∃ k : Nat, place s a ≤ k ∧ k ≤ s.size ∧ i = .int .i64 k ∧ k + wordL (s.data.toList.drop k) = place s a + wordL (s.data.toList.drop (place s a))) (fun i => s.size - (intOf i).toNat)
    case atStart => exact ⟨place s a, Nat.le_refl _, hp, rfl, rfl⟩
    case round =>
      obtain ⟨k, hpk, hk, rfl, hT⟩ := hrel
      have HT := hid hT
      clear hT
      by_cases hlt : k < s.size
      · have HS := hid (word_step s k hlt)
        cases b0 : isBl s[k]
        case true =>
          have B0 := hid b0
          go_wp2_with (first | (go_at_call 129; refine (rBlank _ _).mono ?_; rintro e w1 ⟨rfl, rfl⟩) | (go_at_call 130; refine (rSpecial _ _).mono ?_; rintro e w1 ⟨rfl, rfl⟩))
          go_ret
          refine ⟨?_, rfl⟩
          have h1 := HT.out
          rw [HS.out, B0.out, if_neg (by simp)] at h1
          unfold wordP
          rw [← h1]; rfl
        case false =>
          have B0 := hid b0
          cases b1 : isSg s[k]
          case true =>
            have B1 := hid b1
            go_wp2_with (first | (go_at_call 129; refine (rBlank _ _).mono ?_; rintro e w1 ⟨rfl, rfl⟩) | (go_at_call 130; refine (rSpecial _ _).mono ?_; rintro e w1 ⟨rfl, rfl⟩))
            go_ret
            refine ⟨?_, rfl⟩
            have h1 := HT.out
            rw [HS.out, B0.out, B1.out, if_neg (by simp)] at h1
            unfold wordP
            rw [← h1]; rfl
          case false =>
            have B1 := hid b1
            go_wp2_with (first | (go_at_call 129; refine (rBlank _ _).mono ?_; rintro e w1 ⟨rfl, rfl⟩) | (go_at_call 130; refine (rSpecial _ _).mono ?_; rintro e w1 ⟨rfl, rfl⟩))
            have h1 := HT.out
            rw [HS.out, B0.out, B1.out, if_pos (by simp)] at h1
            go_round
            case rel => exact ⟨k + 1, by omega, by omega, by go_num, by omega⟩
            case measure => simp [intOf]; omega
      · have hke : k = s.size := by omega
        have HE := hid (word_end s)
        go_wp2_with fail
        go_ret
        refine ⟨?_, rfl⟩
        have h1 := HT.out
        rw [hke, HE.out] at h1
        unfold wordP
        rw [← h1]; rfl
end Go.Proofs.YtefbfgcbbpmhlabGreatDoor

/-
  Reading: what the document's answer skips; its digits.
-/
namespace Go.Proofs.YtefbfgcbbpmhlabGreatDoor
open Go.RowKit
set_option maxRecDepth 100000

def mB : Value → Bool
  | .bool t => t
  | _ => false
def skM (s : ByteArray) (i b : Value) : Nat := 2 * (s.size - (intOf i).toNat) + (if mB b == (s.data.toList[(intOf i).toNat]? == some 37) then 0 else 1)
theorem skM_up (s : ByteArray) (k : Nat) (b c : Bool) (h : k < s.size) : skM s (.int .i64 ((k : Int) + 1)) (.bool c) < skM s (.int .i64 k) (.bool b) := by
  unfold skM
  have e1 : (intOf (.int .i64 ((k : Int) + 1))).toNat = k + 1 := by simp [intOf]
  have e2 : (intOf (.int .i64 (k : Int))).toNat = k := by simp [intOf]
  rw [e1, e2]
  split <;> split <;> omega
theorem skM_turn (s : ByteArray) (k : Nat) (b : Bool) (h : k < s.size) (hb : (s[k] == 37) = b) : skM s (.int .i64 (k : Int)) (.bool b) < skM s (.int .i64 (k : Int)) (.bool !b) := by
  unfold skM
  have e2 : (intOf (.int .i64 (k : Int))).toNat = k := by simp [intOf]
  have e3 : (s.data.toList[k]? == some 37) = b := by
    rw [List.getElem?_eq_getElem (by simpa using h), ← hb]; rfl
  rw [e2, e3]
  cases b <;> simp [mB]
theorem skip_turn (s : ByteArray) (k : Nat) (h : k < s.size) (hc : (s[k] == 37) = true ∨ (s[k] == 10) = true ∨ (s[k] == 13) = true) : skipL (s.data.toList.drop k) true = skipL (s.data.toList.drop k) false := by
  rw [skip_step s k true h, skip_step s k false h]
  rcases hc with hc | hc | hc
  · rw [hc]; rfl
  · rw [eq_of_beq hc]; rfl
  · rw [eq_of_beq hc]; rfl
set_option maxHeartbeats 1000000 in
theorem rSkip (s : ByteArray) (a : Int) (w : World) (hs : s.size ≤ maxLen) :
    Calls Tryz.prog 78 #[.string s, .int .i64 a] w fun e w' => e = .returned (.int .i64 (skipP s (place s a))) ∧ w' = w := by
  have hp : place s a ≤ s.size := by unfold place; omega
  have HP := hid (show place s a = min a.toNat s.size from rfl)
  unfold maxLen at hs
  go_enter Tryz.func78, Tryz.ntmps78
  go_upto_region 1 with fail
  go_cut [1] from 6 to 10 (fun t wx => t = .int .i64 (place s a) ∧ wx = w)
  case first =>
    by_cases h0 : 0 ≤ a
    · by_cases h1 : a ≤ s.size
      · go_wp2_with fail
        go_meet
        exact ⟨by have := HP.out; simp; omega, rfl⟩
      · go_wp2_with fail
        go_meet
        exact ⟨by have := HP.out; simp; omega, rfl⟩
    · go_wp2_with fail
      go_meet
      exact ⟨by have := HP.out; simp; omega, rfl⟩
  case rest =>
    obtain ⟨rfl, hwx⟩ := hcut
    have hwy := hwx.symm
    clear hwx
    subst hwy
    go_wp2_with fail
    go_loop [1, 5] (fun i b => ∃ (k : Nat) (n : Bool), k ≤ s.size ∧ i = .int .i64 k ∧ b = .bool n ∧ k + skipL (s.data.toList.drop k) n = skipP s (place s a)) (fun i b => skM s i b)
    case atStart => exact ⟨place s a, false, hp, rfl, rfl, rfl⟩
    case round =>
      obtain ⟨k, n, hk, rfl, rfl, hT⟩ := hrel
      have HT := hid hT
      clear hT
      by_cases hlt : k < s.size
      · have HS := hid (skip_step s k n hlt)
        have E0 := hid (eq_u8 s[k] 37 (by omega))
        have E1 := hid (eq_u8 s[k] 10 (by omega))
        have E2 := hid (eq_u8 s[k] 13 (by omega))
        cases n
        case false =>
          cases b0 : ((s[k].toNat : Int) == 37)
          case true =>
            have Q0 : Hid ((s[k] == 37) = true) := hid (E0.out.symm.trans b0)
            have p1 : (s[k].toNat : Int) = 37 := eq_of_beq b0
            clear b0
            go_wp2_with fail
            go_round
            case rel => exact ⟨k, true, by omega, rfl, rfl, by rw [skip_turn s k hlt (Or.inl Q0.out)]; exact HT.out⟩
            case measure => exact skM_turn s k true hlt Q0.out
          case false =>
            have Q0 : Hid ((s[k] == 37) = false) := hid (E0.out.symm.trans b0)
            cases b3 : isBl s[k]
            case true =>
              have Q3 := hid b3
              go_wp2_with (go_at_call 129; refine (rBlank _ _).mono ?_; rintro e w1 ⟨rfl, rfl⟩)
              have hh := HT.out
              rw [HS.out, Q0.out, Q3.out] at hh
              simp only [Bool.not_true, Bool.false_or, Bool.and_false, Bool.false_and, Bool.false_eq_true, if_false] at hh
              go_round
              case rel => exact ⟨k + 1, false, by omega, by go_num, rfl, by omega⟩
              case measure => exact skM_up s k _ _ hlt
            case false =>
              have Q3 := hid b3
              go_wp2_with (go_at_call 129; refine (rBlank _ _).mono ?_; rintro e w1 ⟨rfl, rfl⟩)
              go_ret
              have hh := HT.out
              rw [HS.out, Q0.out, Q3.out] at hh
              rw [if_pos (by simp)] at hh
              exact ⟨ret_int (by omega), rfl⟩
        case true =>
          cases b1 : ((s[k].toNat : Int) == 10)
          case true =>
            have Q1 : Hid ((s[k] == 10) = true) := hid (E1.out.symm.trans b1)
            have p1 : (s[k].toNat : Int) = 10 := eq_of_beq b1
            clear b1
            go_wp2_with fail
            go_round
            case rel => exact ⟨k, false, by omega, rfl, rfl, by rw [← skip_turn s k hlt (Or.inr (Or.inl Q1.out))]; exact HT.out⟩
            case measure => exact skM_turn s k false hlt (by rw [eq_of_beq Q1.out]; rfl)
          case false =>
            have Q1 : Hid ((s[k] == 10) = false) := hid (E1.out.symm.trans b1)
            have p1 : ¬ (s[k].toNat : Int) = 10 := by simpa using b1
            cases b2 : ((s[k].toNat : Int) == 13)
            case true =>
              have Q2 : Hid ((s[k] == 13) = true) := hid (E2.out.symm.trans b2)
              have p2 : (s[k].toNat : Int) = 13 := eq_of_beq b2
              clear b2
              go_wp2_with fail
              go_round
              case rel => exact ⟨k, false, by omega, rfl, rfl, by rw [← skip_turn s k hlt (Or.inr (Or.inr Q2.out))]; exact HT.out⟩
              case measure => exact skM_turn s k false hlt (by rw [eq_of_beq Q2.out]; rfl)
            case false =>
              have Q2 : Hid ((s[k] == 13) = false) := hid (E2.out.symm.trans b2)
              have p2 : ¬ (s[k].toNat : Int) = 13 := by simpa using b2
              have n1 : ((s[k].toNat : Int) != 10) = true := by simp [p1]
              have n2 : ((s[k].toNat : Int) != 13) = true := by simp [p2]
              clear b1 b2 p1 p2
              go_wp2_with fail
              have hh := HT.out
              rw [HS.out, bne, bne, Q1.out, Q2.out] at hh
              simp only [Bool.not_true, Bool.not_false, Bool.or_true, Bool.and_true, Bool.false_and, Bool.false_eq_true, if_false] at hh
              go_round
              case rel => exact ⟨k + 1, true, by omega, by go_num, rfl, by omega⟩
              case measure => exact skM_up s k _ _ hlt
      · have hke : k = s.size := by omega
        subst hke
        have HE := hid (skip_end s n)
        go_wp2_with fail
        go_ret
        exact ⟨ret_int (by have h1 := HT.out; have h2 := HE.out; omega), rfl⟩
end Go.Proofs.YtefbfgcbbpmhlabGreatDoor

/-
  Reading: the digits of the document's answer.
-/
namespace Go.Proofs.YtefbfgcbbpmhlabGreatDoor
open Go.RowKit
set_option maxRecDepth 100000

def hxT : List Int := [48, 49, 50, 51, 52, 53, 54, 55, 56, 57, 65, 66, 67, 68, 69, 70]
set_option maxHeartbeats 2000000 in
theorem rHex (c : UInt8) (w : World) :
    Calls Tryz.prog 258 #[.int .u8 (c.toNat : Int)] w fun e w' => e = .returned (.int .i64 (hexV c)) ∧ w' = w := by
  have hc := c.toNat_lt
  generalize hn : (c.toNat : Int) = n
  have h0 : 0 ≤ n := by omega
  have h1 : n < 256 := by omega
  have HV := hid (show hexV c = if 48 ≤ n ∧ n ≤ 57 then n - 48 else if 65 ≤ n ∧ n ≤ 70 then n - 55 else if 97 ≤ n ∧ n ≤ 102 then n - 87 else -1 by
    unfold hexV; subst hn; (repeat' split) <;> omega)
  clear hn hc
  go_enter Tryz.func258, Tryz.ntmps258
  by_cases a1 : 97 ≤ n
  · by_cases a2 : n ≤ 102
    · obtain ⟨m, rfl⟩ : ∃ m : Int, n = m + 32 := ⟨n - 32, by omega⟩
      go_wp2_with fail
      go_loop [3] (fun i => ∃ k : Nat, k ≤ 16 ∧ i = .int .i64 k ∧ ∀ j : Nat, j < k → hxT[j]? ≠ some m) (fun i => 16 - (intOf i).toNat)
      case atStart => exact ⟨0, by omega, rfl, fun j hj => by omega⟩
      case round =>
        obtain ⟨k, hk, rfl, hJ⟩ := hrel
        have HJ := hid hJ
        clear hJ
        have hk16 : k = 16 ∨ k = 0 ∨ k = 1 ∨ k = 2 ∨ k = 3 ∨ k = 4 ∨ k = 5 ∨ k = 6 ∨ k = 7 ∨ k = 8 ∨ k = 9 ∨ k = 10 ∨ k = 11 ∨ k = 12 ∨ k = 13 ∨ k = 14 ∨ k = 15 := by omega
        clear hk
        rcases hk16 with rfl | rfl | rfl | rfl | rfl | rfl | rfl | rfl | rfl | rfl | rfl | rfl | rfl | rfl | rfl | rfl | rfl
        · go_wp2_with fail
          go_ret
          refine ⟨ret_int ?_, rfl⟩
          have a0 := HJ.out 0 (by omega)
          have a1 := HJ.out 1 (by omega)
          have a2 := HJ.out 2 (by omega)
          have a3 := HJ.out 3 (by omega)
          have a4 := HJ.out 4 (by omega)
          have a5 := HJ.out 5 (by omega)
          have a6 := HJ.out 6 (by omega)
          have a7 := HJ.out 7 (by omega)
          have a8 := HJ.out 8 (by omega)
          have a9 := HJ.out 9 (by omega)
          have a10 := HJ.out 10 (by omega)
          have a11 := HJ.out 11 (by omega)
          have a12 := HJ.out 12 (by omega)
          have a13 := HJ.out 13 (by omega)
          have a14 := HJ.out 14 (by omega)
          have a15 := HJ.out 15 (by omega)
          simp [hxT] at a0 a1 a2 a3 a4 a5 a6 a7 a8 a9 a10 a11 a12 a13 a14 a15
          rw [HV.out]
          (repeat' split) <;> omega
        · have hx : (((⟨#[48, 49, 50, 51, 52, 53, 54, 55, 56, 57, 65, 66, 67, 68, 69, 70]⟩ : ByteArray)[0]'(by decide)).toNat : Int) = 48 := rfl
          by_cases hb : (48 : Int) = m
          · have HB := hid (show m - 48 = 0 by omega)
            go_wp2_with fail
            all_goals go_ret
            all_goals exact ⟨ret_int (by rw [HV.out]; (repeat' split) <;> omega), rfl⟩
          · have HB := hid hb
            have hb2 : ((48 : Int) == m) = false := by simpa using hb
            go_wp2_with fail
            go_round
            case rel => exact ⟨1, by omega, by first | rfl | go_num, fun j hj => if h : j < 0 then HJ.out j h else by
              obtain rfl : j = 0 := by omega
              simp only [hxT]
              exact fun e => HB.out (Option.some.inj e)⟩
            case measure => simp [intOf]
        · have hx : (((⟨#[48, 49, 50, 51, 52, 53, 54, 55, 56, 57, 65, 66, 67, 68, 69, 70]⟩ : ByteArray)[1]'(by decide)).toNat : Int) = 49 := rfl
          by_cases hb : (49 : Int) = m
          · have HB := hid (show m - 49 = 0 by omega)
            go_wp2_with fail
            all_goals go_ret
            all_goals exact ⟨ret_int (by rw [HV.out]; (repeat' split) <;> omega), rfl⟩
          · have HB := hid hb
            have hb2 : ((49 : Int) == m) = false := by simpa using hb
            go_wp2_with fail
            go_round
            case rel => exact ⟨2, by omega, by first | rfl | go_num, fun j hj => if h : j < 1 then HJ.out j h else by
              obtain rfl : j = 1 := by omega
              simp only [hxT]
              exact fun e => HB.out (Option.some.inj e)⟩
            case measure => simp [intOf]
        · have hx : (((⟨#[48, 49, 50, 51, 52, 53, 54, 55, 56, 57, 65, 66, 67, 68, 69, 70]⟩ : ByteArray)[2]'(by decide)).toNat : Int) = 50 := rfl
          by_cases hb : (50 : Int) = m
          · have HB := hid (show m - 50 = 0 by omega)
            go_wp2_with fail
            all_goals go_ret
            all_goals exact ⟨ret_int (by rw [HV.out]; (repeat' split) <;> omega), rfl⟩
          · have HB := hid hb
            have hb2 : ((50 : Int) == m) = false := by simpa using hb
            go_wp2_with fail
            go_round
            case rel => exact ⟨3, by omega, by first | rfl | go_num, fun j hj => if h : j < 2 then HJ.out j h else by
              obtain rfl : j = 2 := by omega
              simp only [hxT]
              exact fun e => HB.out (Option.some.inj e)⟩
            case measure => simp [intOf]
        · have hx : (((⟨#[48, 49, 50, 51, 52, 53, 54, 55, 56, 57, 65, 66, 67, 68, 69, 70]⟩ : ByteArray)[3]'(by decide)).toNat : Int) = 51 := rfl
          by_cases hb : (51 : Int) = m
          · have HB := hid (show m - 51 = 0 by omega)
            go_wp2_with fail
            all_goals go_ret
            all_goals exact ⟨ret_int (by rw [HV.out]; (repeat' split) <;> omega), rfl⟩
          · have HB := hid hb
            have hb2 : ((51 : Int) == m) = false := by simpa using hb
            go_wp2_with fail
            go_round
            case rel => exact ⟨4, by omega, by first | rfl | go_num, fun j hj => if h : j < 3 then HJ.out j h else by
              obtain rfl : j = 3 := by omega
              simp only [hxT]
              exact fun e => HB.out (Option.some.inj e)⟩
            case measure => simp [intOf]
        · have hx : (((⟨#[48, 49, 50, 51, 52, 53, 54, 55, 56, 57, 65, 66, 67, 68, 69, 70]⟩ : ByteArray)[4]'(by decide)).toNat : Int) = 52 := rfl
          by_cases hb : (52 : Int) = m
          · have HB := hid (show m - 52 = 0 by omega)
            go_wp2_with fail
            all_goals go_ret
            all_goals exact ⟨ret_int (by rw [HV.out]; (repeat' split) <;> omega), rfl⟩
          · have HB := hid hb
            have hb2 : ((52 : Int) == m) = false := by simpa using hb
            go_wp2_with fail
            go_round
            case rel => exact ⟨5, by omega, by first | rfl | go_num, fun j hj => if h : j < 4 then HJ.out j h else by
              obtain rfl : j = 4 := by omega
              simp only [hxT]
              exact fun e => HB.out (Option.some.inj e)⟩
            case measure => simp [intOf]
        · have hx : (((⟨#[48, 49, 50, 51, 52, 53, 54, 55, 56, 57, 65, 66, 67, 68, 69, 70]⟩ : ByteArray)[5]'(by decide)).toNat : Int) = 53 := rfl
          by_cases hb : (53 : Int) = m
          · have HB := hid (show m - 53 = 0 by omega)
            go_wp2_with fail
            all_goals go_ret
            all_goals exact ⟨ret_int (by rw [HV.out]; (repeat' split) <;> omega), rfl⟩
          · have HB := hid hb
            have hb2 : ((53 : Int) == m) = false := by simpa using hb
            go_wp2_with fail
            go_round
            case rel => exact ⟨6, by omega, by first | rfl | go_num, fun j hj => if h : j < 5 then HJ.out j h else by
              obtain rfl : j = 5 := by omega
              simp only [hxT]
              exact fun e => HB.out (Option.some.inj e)⟩
            case measure => simp [intOf]
        · have hx : (((⟨#[48, 49, 50, 51, 52, 53, 54, 55, 56, 57, 65, 66, 67, 68, 69, 70]⟩ : ByteArray)[6]'(by decide)).toNat : Int) = 54 := rfl
          by_cases hb : (54 : Int) = m
          · have HB := hid (show m - 54 = 0 by omega)
            go_wp2_with fail
            all_goals go_ret
            all_goals exact ⟨ret_int (by rw [HV.out]; (repeat' split) <;> omega), rfl⟩
          · have HB := hid hb
            have hb2 : ((54 : Int) == m) = false := by simpa using hb
            go_wp2_with fail
            go_round
            case rel => exact ⟨7, by omega, by first | rfl | go_num, fun j hj => if h : j < 6 then HJ.out j h else by
              obtain rfl : j = 6 := by omega
              simp only [hxT]
              exact fun e => HB.out (Option.some.inj e)⟩
            case measure => simp [intOf]
        · have hx : (((⟨#[48, 49, 50, 51, 52, 53, 54, 55, 56, 57, 65, 66, 67, 68, 69, 70]⟩ : ByteArray)[7]'(by decide)).toNat : Int) = 55 := rfl
          by_cases hb : (55 : Int) = m
          · have HB := hid (show m - 55 = 0 by omega)
            go_wp2_with fail
            all_goals go_ret
            all_goals exact ⟨ret_int (by rw [HV.out]; (repeat' split) <;> omega), rfl⟩
          · have HB := hid hb
            have hb2 : ((55 : Int) == m) = false := by simpa using hb
            go_wp2_with fail
            go_round
            case rel => exact ⟨8, by omega, by first | rfl | go_num, fun j hj => if h : j < 7 then HJ.out j h else by
              obtain rfl : j = 7 := by omega
              simp only [hxT]
              exact fun e => HB.out (Option.some.inj e)⟩
            case measure => simp [intOf]
        · have hx : (((⟨#[48, 49, 50, 51, 52, 53, 54, 55, 56, 57, 65, 66, 67, 68, 69, 70]⟩ : ByteArray)[8]'(by decide)).toNat : Int) = 56 := rfl
          by_cases hb : (56 : Int) = m
          · have HB := hid (show m - 56 = 0 by omega)
            go_wp2_with fail
            all_goals go_ret
            all_goals exact ⟨ret_int (by rw [HV.out]; (repeat' split) <;> omega), rfl⟩
          · have HB := hid hb
            have hb2 : ((56 : Int) == m) = false := by simpa using hb
            go_wp2_with fail
            go_round
            case rel => exact ⟨9, by omega, by first | rfl | go_num, fun j hj => if h : j < 8 then HJ.out j h else by
              obtain rfl : j = 8 := by omega
              simp only [hxT]
              exact fun e => HB.out (Option.some.inj e)⟩
            case measure => simp [intOf]
        · have hx : (((⟨#[48, 49, 50, 51, 52, 53, 54, 55, 56, 57, 65, 66, 67, 68, 69, 70]⟩ : ByteArray)[9]'(by decide)).toNat : Int) = 57 := rfl
          by_cases hb : (57 : Int) = m
          · have HB := hid (show m - 57 = 0 by omega)
            go_wp2_with fail
            all_goals go_ret
            all_goals exact ⟨ret_int (by rw [HV.out]; (repeat' split) <;> omega), rfl⟩
          · have HB := hid hb
            have hb2 : ((57 : Int) == m) = false := by simpa using hb
            go_wp2_with fail
            go_round
            case rel => exact ⟨10, by omega, by first | rfl | go_num, fun j hj => if h : j < 9 then HJ.out j h else by
              obtain rfl : j = 9 := by omega
              simp only [hxT]
              exact fun e => HB.out (Option.some.inj e)⟩
            case measure => simp [intOf]
        · have hx : (((⟨#[48, 49, 50, 51, 52, 53, 54, 55, 56, 57, 65, 66, 67, 68, 69, 70]⟩ : ByteArray)[10]'(by decide)).toNat : Int) = 65 := rfl
          by_cases hb : (65 : Int) = m
          · have HB := hid (show m - 65 = 0 by omega)
            go_wp2_with fail
            all_goals go_ret
            all_goals exact ⟨ret_int (by rw [HV.out]; (repeat' split) <;> omega), rfl⟩
          · have HB := hid hb
            have hb2 : ((65 : Int) == m) = false := by simpa using hb
            go_wp2_with fail
            go_round
            case rel => exact ⟨11, by omega, by first | rfl | go_num, fun j hj => if h : j < 10 then HJ.out j h else by
              obtain rfl : j = 10 := by omega
              simp only [hxT]
              exact fun e => HB.out (Option.some.inj e)⟩
            case measure => simp [intOf]
        · have hx : (((⟨#[48, 49, 50, 51, 52, 53, 54, 55, 56, 57, 65, 66, 67, 68, 69, 70]⟩ : ByteArray)[11]'(by decide)).toNat : Int) = 66 := rfl
          by_cases hb : (66 : Int) = m
          · have HB := hid (show m - 66 = 0 by omega)
            go_wp2_with fail
            all_goals go_ret
            all_goals exact ⟨ret_int (by rw [HV.out]; (repeat' split) <;> omega), rfl⟩
          · have HB := hid hb
            have hb2 : ((66 : Int) == m) = false := by simpa using hb
            go_wp2_with fail
            go_round
            case rel => exact ⟨12, by omega, by first | rfl | go_num, fun j hj => if h : j < 11 then HJ.out j h else by
              obtain rfl : j = 11 := by omega
              simp only [hxT]
              exact fun e => HB.out (Option.some.inj e)⟩
            case measure => simp [intOf]
        · have hx : (((⟨#[48, 49, 50, 51, 52, 53, 54, 55, 56, 57, 65, 66, 67, 68, 69, 70]⟩ : ByteArray)[12]'(by decide)).toNat : Int) = 67 := rfl
          by_cases hb : (67 : Int) = m
          · have HB := hid (show m - 67 = 0 by omega)
            go_wp2_with fail
            all_goals go_ret
            all_goals exact ⟨ret_int (by rw [HV.out]; (repeat' split) <;> omega), rfl⟩
          · have HB := hid hb
            have hb2 : ((67 : Int) == m) = false := by simpa using hb
            go_wp2_with fail
            go_round
            case rel => exact ⟨13, by omega, by first | rfl | go_num, fun j hj => if h : j < 12 then HJ.out j h else by
              obtain rfl : j = 12 := by omega
              simp only [hxT]
              exact fun e => HB.out (Option.some.inj e)⟩
            case measure => simp [intOf]
        · have hx : (((⟨#[48, 49, 50, 51, 52, 53, 54, 55, 56, 57, 65, 66, 67, 68, 69, 70]⟩ : ByteArray)[13]'(by decide)).toNat : Int) = 68 := rfl
          by_cases hb : (68 : Int) = m
          · have HB := hid (show m - 68 = 0 by omega)
            go_wp2_with fail
            all_goals go_ret
            all_goals exact ⟨ret_int (by rw [HV.out]; (repeat' split) <;> omega), rfl⟩
          · have HB := hid hb
            have hb2 : ((68 : Int) == m) = false := by simpa using hb
            go_wp2_with fail
            go_round
            case rel => exact ⟨14, by omega, by first | rfl | go_num, fun j hj => if h : j < 13 then HJ.out j h else by
              obtain rfl : j = 13 := by omega
              simp only [hxT]
              exact fun e => HB.out (Option.some.inj e)⟩
            case measure => simp [intOf]
        · have hx : (((⟨#[48, 49, 50, 51, 52, 53, 54, 55, 56, 57, 65, 66, 67, 68, 69, 70]⟩ : ByteArray)[14]'(by decide)).toNat : Int) = 69 := rfl
          by_cases hb : (69 : Int) = m
          · have HB := hid (show m - 69 = 0 by omega)
            go_wp2_with fail
            all_goals go_ret
            all_goals exact ⟨ret_int (by rw [HV.out]; (repeat' split) <;> omega), rfl⟩
          · have HB := hid hb
            have hb2 : ((69 : Int) == m) = false := by simpa using hb
            go_wp2_with fail
            go_round
            case rel => exact ⟨15, by omega, by first | rfl | go_num, fun j hj => if h : j < 14 then HJ.out j h else by
              obtain rfl : j = 14 := by omega
              simp only [hxT]
              exact fun e => HB.out (Option.some.inj e)⟩
            case measure => simp [intOf]
        · have hx : (((⟨#[48, 49, 50, 51, 52, 53, 54, 55, 56, 57, 65, 66, 67, 68, 69, 70]⟩ : ByteArray)[15]'(by decide)).toNat : Int) = 70 := rfl
          by_cases hb : (70 : Int) = m
          · have HB := hid (show m - 70 = 0 by omega)
            go_wp2_with fail
            all_goals go_ret
            all_goals exact ⟨ret_int (by rw [HV.out]; (repeat' split) <;> omega), rfl⟩
          · have HB := hid hb
            have hb2 : ((70 : Int) == m) = false := by simpa using hb
            go_wp2_with fail
            go_round
            case rel => exact ⟨16, by omega, by first | rfl | go_num, fun j hj => if h : j < 15 then HJ.out j h else by
              obtain rfl : j = 15 := by omega
              simp only [hxT]
              exact fun e => HB.out (Option.some.inj e)⟩
            case measure => simp [intOf]
    · skip
      go_wp2_with fail
      go_loop [3] (fun i => ∃ k : Nat, k ≤ 16 ∧ i = .int .i64 k ∧ ∀ j : Nat, j < k → hxT[j]? ≠ some n) (fun i => 16 - (intOf i).toNat)
      case atStart => exact ⟨0, by omega, rfl, fun j hj => by omega⟩
      case round =>
        obtain ⟨k, hk, rfl, hJ⟩ := hrel
        have HJ := hid hJ
        clear hJ
        have hk16 : k = 16 ∨ k = 0 ∨ k = 1 ∨ k = 2 ∨ k = 3 ∨ k = 4 ∨ k = 5 ∨ k = 6 ∨ k = 7 ∨ k = 8 ∨ k = 9 ∨ k = 10 ∨ k = 11 ∨ k = 12 ∨ k = 13 ∨ k = 14 ∨ k = 15 := by omega
        clear hk
        rcases hk16 with rfl | rfl | rfl | rfl | rfl | rfl | rfl | rfl | rfl | rfl | rfl | rfl | rfl | rfl | rfl | rfl | rfl
        · go_wp2_with fail
          go_ret
          refine ⟨ret_int ?_, rfl⟩
          have a0 := HJ.out 0 (by omega)
          have a1 := HJ.out 1 (by omega)
          have a2 := HJ.out 2 (by omega)
          have a3 := HJ.out 3 (by omega)
          have a4 := HJ.out 4 (by omega)
          have a5 := HJ.out 5 (by omega)
          have a6 := HJ.out 6 (by omega)
          have a7 := HJ.out 7 (by omega)
          have a8 := HJ.out 8 (by omega)
          have a9 := HJ.out 9 (by omega)
          have a10 := HJ.out 10 (by omega)
          have a11 := HJ.out 11 (by omega)
          have a12 := HJ.out 12 (by omega)
          have a13 := HJ.out 13 (by omega)
          have a14 := HJ.out 14 (by omega)
          have a15 := HJ.out 15 (by omega)
          simp [hxT] at a0 a1 a2 a3 a4 a5 a6 a7 a8 a9 a10 a11 a12 a13 a14 a15
          rw [HV.out]
          (repeat' split) <;> omega
        · have hx : (((⟨#[48, 49, 50, 51, 52, 53, 54, 55, 56, 57, 65, 66, 67, 68, 69, 70]⟩ : ByteArray)[0]'(by decide)).toNat : Int) = 48 := rfl
          by_cases hb : (48 : Int) = n
          · have HB := hid (show n - 48 = 0 by omega)
            go_wp2_with fail
            all_goals go_ret
            all_goals exact ⟨ret_int (by rw [HV.out]; (repeat' split) <;> omega), rfl⟩
          · have HB := hid hb
            have hb2 : ((48 : Int) == n) = false := by simpa using hb
            go_wp2_with fail
            go_round
            case rel => exact ⟨1, by omega, by first | rfl | go_num, fun j hj => if h : j < 0 then HJ.out j h else by
              obtain rfl : j = 0 := by omega
              simp only [hxT]
              exact fun e => HB.out (Option.some.inj e)⟩
            case measure => simp [intOf]
        · have hx : (((⟨#[48, 49, 50, 51, 52, 53, 54, 55, 56, 57, 65, 66, 67, 68, 69, 70]⟩ : ByteArray)[1]'(by decide)).toNat : Int) = 49 := rfl
          by_cases hb : (49 : Int) = n
          · have HB := hid (show n - 49 = 0 by omega)
            go_wp2_with fail
            all_goals go_ret
            all_goals exact ⟨ret_int (by rw [HV.out]; (repeat' split) <;> omega), rfl⟩
          · have HB := hid hb
            have hb2 : ((49 : Int) == n) = false := by simpa using hb
            go_wp2_with fail
            go_round
            case rel => exact ⟨2, by omega, by first | rfl | go_num, fun j hj => if h : j < 1 then HJ.out j h else by
              obtain rfl : j = 1 := by omega
              simp only [hxT]
              exact fun e => HB.out (Option.some.inj e)⟩
            case measure => simp [intOf]
        · have hx : (((⟨#[48, 49, 50, 51, 52, 53, 54, 55, 56, 57, 65, 66, 67, 68, 69, 70]⟩ : ByteArray)[2]'(by decide)).toNat : Int) = 50 := rfl
          by_cases hb : (50 : Int) = n
          · have HB := hid (show n - 50 = 0 by omega)
            go_wp2_with fail
            all_goals go_ret
            all_goals exact ⟨ret_int (by rw [HV.out]; (repeat' split) <;> omega), rfl⟩
          · have HB := hid hb
            have hb2 : ((50 : Int) == n) = false := by simpa using hb
            go_wp2_with fail
            go_round
            case rel => exact ⟨3, by omega, by first | rfl | go_num, fun j hj => if h : j < 2 then HJ.out j h else by
              obtain rfl : j = 2 := by omega
              simp only [hxT]
              exact fun e => HB.out (Option.some.inj e)⟩
            case measure => simp [intOf]
        · have hx : (((⟨#[48, 49, 50, 51, 52, 53, 54, 55, 56, 57, 65, 66, 67, 68, 69, 70]⟩ : ByteArray)[3]'(by decide)).toNat : Int) = 51 := rfl
          by_cases hb : (51 : Int) = n
          · have HB := hid (show n - 51 = 0 by omega)
            go_wp2_with fail
            all_goals go_ret
            all_goals exact ⟨ret_int (by rw [HV.out]; (repeat' split) <;> omega), rfl⟩
          · have HB := hid hb
            have hb2 : ((51 : Int) == n) = false := by simpa using hb
            go_wp2_with fail
            go_round
            case rel => exact ⟨4, by omega, by first | rfl | go_num, fun j hj => if h : j < 3 then HJ.out j h else by
              obtain rfl : j = 3 := by omega
              simp only [hxT]
              exact fun e => HB.out (Option.some.inj e)⟩
            case measure => simp [intOf]
        · have hx : (((⟨#[48, 49, 50, 51, 52, 53, 54, 55, 56, 57, 65, 66, 67, 68, 69, 70]⟩ : ByteArray)[4]'(by decide)).toNat : Int) = 52 := rfl
          by_cases hb : (52 : Int) = n
          · have HB := hid (show n - 52 = 0 by omega)
            go_wp2_with fail
            all_goals go_ret
            all_goals exact ⟨ret_int (by rw [HV.out]; (repeat' split) <;> omega), rfl⟩
          · have HB := hid hb
            have hb2 : ((52 : Int) == n) = false := by simpa using hb
            go_wp2_with fail
            go_round
            case rel => exact ⟨5, by omega, by first | rfl | go_num, fun j hj => if h : j < 4 then HJ.out j h else by
              obtain rfl : j = 4 := by omega
              simp only [hxT]
              exact fun e => HB.out (Option.some.inj e)⟩
            case measure => simp [intOf]
        · have hx : (((⟨#[48, 49, 50, 51, 52, 53, 54, 55, 56, 57, 65, 66, 67, 68, 69, 70]⟩ : ByteArray)[5]'(by decide)).toNat : Int) = 53 := rfl
          by_cases hb : (53 : Int) = n
          · have HB := hid (show n - 53 = 0 by omega)
            go_wp2_with fail
            all_goals go_ret
            all_goals exact ⟨ret_int (by rw [HV.out]; (repeat' split) <;> omega), rfl⟩
          · have HB := hid hb
            have hb2 : ((53 : Int) == n) = false := by simpa using hb
            go_wp2_with fail
            go_round
            case rel => exact ⟨6, by omega, by first | rfl | go_num, fun j hj => if h : j < 5 then HJ.out j h else by
              obtain rfl : j = 5 := by omega
              simp only [hxT]
              exact fun e => HB.out (Option.some.inj e)⟩
            case measure => simp [intOf]
        · have hx : (((⟨#[48, 49, 50, 51, 52, 53, 54, 55, 56, 57, 65, 66, 67, 68, 69, 70]⟩ : ByteArray)[6]'(by decide)).toNat : Int) = 54 := rfl
          by_cases hb : (54 : Int) = n
          · have HB := hid (show n - 54 = 0 by omega)
            go_wp2_with fail
            all_goals go_ret
            all_goals exact ⟨ret_int (by rw [HV.out]; (repeat' split) <;> omega), rfl⟩
          · have HB := hid hb
            have hb2 : ((54 : Int) == n) = false := by simpa using hb
            go_wp2_with fail
            go_round
            case rel => exact ⟨7, by omega, by first | rfl | go_num, fun j hj => if h : j < 6 then HJ.out j h else by
              obtain rfl : j = 6 := by omega
              simp only [hxT]
              exact fun e => HB.out (Option.some.inj e)⟩
            case measure => simp [intOf]
        · have hx : (((⟨#[48, 49, 50, 51, 52, 53, 54, 55, 56, 57, 65, 66, 67, 68, 69, 70]⟩ : ByteArray)[7]'(by decide)).toNat : Int) = 55 := rfl
          by_cases hb : (55 : Int) = n
          · have HB := hid (show n - 55 = 0 by omega)
            go_wp2_with fail
            all_goals go_ret
            all_goals exact ⟨ret_int (by rw [HV.out]; (repeat' split) <;> omega), rfl⟩
          · have HB := hid hb
            have hb2 : ((55 : Int) == n) = false := by simpa using hb
            go_wp2_with fail
            go_round
            case rel => exact ⟨8, by omega, by first | rfl | go_num, fun j hj => if h : j < 7 then HJ.out j h else by
              obtain rfl : j = 7 := by omega
              simp only [hxT]
              exact fun e => HB.out (Option.some.inj e)⟩
            case measure => simp [intOf]
        · have hx : (((⟨#[48, 49, 50, 51, 52, 53, 54, 55, 56, 57, 65, 66, 67, 68, 69, 70]⟩ : ByteArray)[8]'(by decide)).toNat : Int) = 56 := rfl
          by_cases hb : (56 : Int) = n
          · have HB := hid (show n - 56 = 0 by omega)
            go_wp2_with fail
            all_goals go_ret
            all_goals exact ⟨ret_int (by rw [HV.out]; (repeat' split) <;> omega), rfl⟩
          · have HB := hid hb
            have hb2 : ((56 : Int) == n) = false := by simpa using hb
            go_wp2_with fail
            go_round
            case rel => exact ⟨9, by omega, by first | rfl | go_num, fun j hj => if h : j < 8 then HJ.out j h else by
              obtain rfl : j = 8 := by omega
              simp only [hxT]
              exact fun e => HB.out (Option.some.inj e)⟩
            case measure => simp [intOf]
        · have hx : (((⟨#[48, 49, 50, 51, 52, 53, 54, 55, 56, 57, 65, 66, 67, 68, 69, 70]⟩ : ByteArray)[9]'(by decide)).toNat : Int) = 57 := rfl
          by_cases hb : (57 : Int) = n
          · have HB := hid (show n - 57 = 0 by omega)
            go_wp2_with fail
            all_goals go_ret
            all_goals exact ⟨ret_int (by rw [HV.out]; (repeat' split) <;> omega), rfl⟩
          · have HB := hid hb
            have hb2 : ((57 : Int) == n) = false := by simpa using hb
            go_wp2_with fail
            go_round
            case rel => exact ⟨10, by omega, by first | rfl | go_num, fun j hj => if h : j < 9 then HJ.out j h else by
              obtain rfl : j = 9 := by omega
              simp only [hxT]
              exact fun e => HB.out (Option.some.inj e)⟩
            case measure => simp [intOf]
        · have hx : (((⟨#[48, 49, 50, 51, 52, 53, 54, 55, 56, 57, 65, 66, 67, 68, 69, 70]⟩ : ByteArray)[10]'(by decide)).toNat : Int) = 65 := rfl
          by_cases hb : (65 : Int) = n
          · have HB := hid (show n - 65 = 0 by omega)
            go_wp2_with fail
            all_goals go_ret
            all_goals exact ⟨ret_int (by rw [HV.out]; (repeat' split) <;> omega), rfl⟩
          · have HB := hid hb
            have hb2 : ((65 : Int) == n) = false := by simpa using hb
            go_wp2_with fail
            go_round
            case rel => exact ⟨11, by omega, by first | rfl | go_num, fun j hj => if h : j < 10 then HJ.out j h else by
              obtain rfl : j = 10 := by omega
              simp only [hxT]
              exact fun e => HB.out (Option.some.inj e)⟩
            case measure => simp [intOf]
        · have hx : (((⟨#[48, 49, 50, 51, 52, 53, 54, 55, 56, 57, 65, 66, 67, 68, 69, 70]⟩ : ByteArray)[11]'(by decide)).toNat : Int) = 66 := rfl
          by_cases hb : (66 : Int) = n
          · have HB := hid (show n - 66 = 0 by omega)
            go_wp2_with fail
            all_goals go_ret
            all_goals exact ⟨ret_int (by rw [HV.out]; (repeat' split) <;> omega), rfl⟩
          · have HB := hid hb
            have hb2 : ((66 : Int) == n) = false := by simpa using hb
            go_wp2_with fail
            go_round
            case rel => exact ⟨12, by omega, by first | rfl | go_num, fun j hj => if h : j < 11 then HJ.out j h else by
              obtain rfl : j = 11 := by omega
              simp only [hxT]
              exact fun e => HB.out (Option.some.inj e)⟩
            case measure => simp [intOf]
        · have hx : (((⟨#[48, 49, 50, 51, 52, 53, 54, 55, 56, 57, 65, 66, 67, 68, 69, 70]⟩ : ByteArray)[12]'(by decide)).toNat : Int) = 67 := rfl
          by_cases hb : (67 : Int) = n
          · have HB := hid (show n - 67 = 0 by omega)
            go_wp2_with fail
            all_goals go_ret
            all_goals exact ⟨ret_int (by rw [HV.out]; (repeat' split) <;> omega), rfl⟩
          · have HB := hid hb
            have hb2 : ((67 : Int) == n) = false := by simpa using hb
            go_wp2_with fail
            go_round
            case rel => exact ⟨13, by omega, by first | rfl | go_num, fun j hj => if h : j < 12 then HJ.out j h else by
              obtain rfl : j = 12 := by omega
              simp only [hxT]
              exact fun e => HB.out (Option.some.inj e)⟩
            case measure => simp [intOf]
        · have hx : (((⟨#[48, 49, 50, 51, 52, 53, 54, 55, 56, 57, 65, 66, 67, 68, 69, 70]⟩ : ByteArray)[13]'(by decide)).toNat : Int) = 68 := rfl
          by_cases hb : (68 : Int) = n
          · have HB := hid (show n - 68 = 0 by omega)
            go_wp2_with fail
            all_goals go_ret
            all_goals exact ⟨ret_int (by rw [HV.out]; (repeat' split) <;> omega), rfl⟩
          · have HB := hid hb
            have hb2 : ((68 : Int) == n) = false := by simpa using hb
            go_wp2_with fail
            go_round
            case rel => exact ⟨14, by omega, by first | rfl | go_num, fun j hj => if h : j < 13 then HJ.out j h else by
              obtain rfl : j = 13 := by omega
              simp only [hxT]
              exact fun e => HB.out (Option.some.inj e)⟩
            case measure => simp [intOf]
        · have hx : (((⟨#[48, 49, 50, 51, 52, 53, 54, 55, 56, 57, 65, 66, 67, 68, 69, 70]⟩ : ByteArray)[14]'(by decide)).toNat : Int) = 69 := rfl
          by_cases hb : (69 : Int) = n
          · have HB := hid (show n - 69 = 0 by omega)
            go_wp2_with fail
            all_goals go_ret
            all_goals exact ⟨ret_int (by rw [HV.out]; (repeat' split) <;> omega), rfl⟩
          · have HB := hid hb
            have hb2 : ((69 : Int) == n) = false := by simpa using hb
            go_wp2_with fail
            go_round
            case rel => exact ⟨15, by omega, by first | rfl | go_num, fun j hj => if h : j < 14 then HJ.out j h else by
              obtain rfl : j = 14 := by omega
              simp only [hxT]
              exact fun e => HB.out (Option.some.inj e)⟩
            case measure => simp [intOf]
        · have hx : (((⟨#[48, 49, 50, 51, 52, 53, 54, 55, 56, 57, 65, 66, 67, 68, 69, 70]⟩ : ByteArray)[15]'(by decide)).toNat : Int) = 70 := rfl
          by_cases hb : (70 : Int) = n
          · have HB := hid (show n - 70 = 0 by omega)
            go_wp2_with fail
            all_goals go_ret
            all_goals exact ⟨ret_int (by rw [HV.out]; (repeat' split) <;> omega), rfl⟩
          · have HB := hid hb
            have hb2 : ((70 : Int) == n) = false := by simpa using hb
            go_wp2_with fail
            go_round
            case rel => exact ⟨16, by omega, by first | rfl | go_num, fun j hj => if h : j < 15 then HJ.out j h else by
              obtain rfl : j = 15 := by omega
              simp only [hxT]
              exact fun e => HB.out (Option.some.inj e)⟩
            case measure => simp [intOf]
  · skip
    go_wp2_with fail
    go_loop [3] (fun i => ∃ k : Nat, k ≤ 16 ∧ i = .int .i64 k ∧ ∀ j : Nat, j < k → hxT[j]? ≠ some n) (fun i => 16 - (intOf i).toNat)
    case atStart => exact ⟨0, by omega, rfl, fun j hj => by omega⟩
    case round =>
      obtain ⟨k, hk, rfl, hJ⟩ := hrel
      have HJ := hid hJ
      clear hJ
      have hk16 : k = 16 ∨ k = 0 ∨ k = 1 ∨ k = 2 ∨ k = 3 ∨ k = 4 ∨ k = 5 ∨ k = 6 ∨ k = 7 ∨ k = 8 ∨ k = 9 ∨ k = 10 ∨ k = 11 ∨ k = 12 ∨ k = 13 ∨ k = 14 ∨ k = 15 := by omega
      clear hk
      rcases hk16 with rfl | rfl | rfl | rfl | rfl | rfl | rfl | rfl | rfl | rfl | rfl | rfl | rfl | rfl | rfl | rfl | rfl
      · go_wp2_with fail
        go_ret
        refine ⟨ret_int ?_, rfl⟩
        have a0 := HJ.out 0 (by omega)
        have a1 := HJ.out 1 (by omega)
        have a2 := HJ.out 2 (by omega)
        have a3 := HJ.out 3 (by omega)
        have a4 := HJ.out 4 (by omega)
        have a5 := HJ.out 5 (by omega)
        have a6 := HJ.out 6 (by omega)
        have a7 := HJ.out 7 (by omega)
        have a8 := HJ.out 8 (by omega)
        have a9 := HJ.out 9 (by omega)
        have a10 := HJ.out 10 (by omega)
        have a11 := HJ.out 11 (by omega)
        have a12 := HJ.out 12 (by omega)
        have a13 := HJ.out 13 (by omega)
        have a14 := HJ.out 14 (by omega)
        have a15 := HJ.out 15 (by omega)
        simp [hxT] at a0 a1 a2 a3 a4 a5 a6 a7 a8 a9 a10 a11 a12 a13 a14 a15
        rw [HV.out]
        (repeat' split) <;> omega
      · have hx : (((⟨#[48, 49, 50, 51, 52, 53, 54, 55, 56, 57, 65, 66, 67, 68, 69, 70]⟩ : ByteArray)[0]'(by decide)).toNat : Int) = 48 := rfl
        by_cases hb : (48 : Int) = n
        · have HB := hid (show n - 48 = 0 by omega)
          go_wp2_with fail
          all_goals go_ret
          all_goals exact ⟨ret_int (by rw [HV.out]; (repeat' split) <;> omega), rfl⟩
        · have HB := hid hb
          have hb2 : ((48 : Int) == n) = false := by simpa using hb
          go_wp2_with fail
          go_round
          case rel => exact ⟨1, by omega, by first | rfl | go_num, fun j hj => if h : j < 0 then HJ.out j h else by
            obtain rfl : j = 0 := by omega
            simp only [hxT]
            exact fun e => HB.out (Option.some.inj e)⟩
          case measure => simp [intOf]
      · have hx : (((⟨#[48, 49, 50, 51, 52, 53, 54, 55, 56, 57, 65, 66, 67, 68, 69, 70]⟩ : ByteArray)[1]'(by decide)).toNat : Int) = 49 := rfl
        by_cases hb : (49 : Int) = n
        · have HB := hid (show n - 49 = 0 by omega)
          go_wp2_with fail
          all_goals go_ret
          all_goals exact ⟨ret_int (by rw [HV.out]; (repeat' split) <;> omega), rfl⟩
        · have HB := hid hb
          have hb2 : ((49 : Int) == n) = false := by simpa using hb
          go_wp2_with fail
          go_round
          case rel => exact ⟨2, by omega, by first | rfl | go_num, fun j hj => if h : j < 1 then HJ.out j h else by
            obtain rfl : j = 1 := by omega
            simp only [hxT]
            exact fun e => HB.out (Option.some.inj e)⟩
          case measure => simp [intOf]
      · have hx : (((⟨#[48, 49, 50, 51, 52, 53, 54, 55, 56, 57, 65, 66, 67, 68, 69, 70]⟩ : ByteArray)[2]'(by decide)).toNat : Int) = 50 := rfl
        by_cases hb : (50 : Int) = n
        · have HB := hid (show n - 50 = 0 by omega)
          go_wp2_with fail
          all_goals go_ret
          all_goals exact ⟨ret_int (by rw [HV.out]; (repeat' split) <;> omega), rfl⟩
        · have HB := hid hb
          have hb2 : ((50 : Int) == n) = false := by simpa using hb
          go_wp2_with fail
          go_round
          case rel => exact ⟨3, by omega, by first | rfl | go_num, fun j hj => if h : j < 2 then HJ.out j h else by
            obtain rfl : j = 2 := by omega
            simp only [hxT]
            exact fun e => HB.out (Option.some.inj e)⟩
          case measure => simp [intOf]
      · have hx : (((⟨#[48, 49, 50, 51, 52, 53, 54, 55, 56, 57, 65, 66, 67, 68, 69, 70]⟩ : ByteArray)[3]'(by decide)).toNat : Int) = 51 := rfl
        by_cases hb : (51 : Int) = n
        · have HB := hid (show n - 51 = 0 by omega)
          go_wp2_with fail
          all_goals go_ret
          all_goals exact ⟨ret_int (by rw [HV.out]; (repeat' split) <;> omega), rfl⟩
        · have HB := hid hb
          have hb2 : ((51 : Int) == n) = false := by simpa using hb
          go_wp2_with fail
          go_round
          case rel => exact ⟨4, by omega, by first | rfl | go_num, fun j hj => if h : j < 3 then HJ.out j h else by
            obtain rfl : j = 3 := by omega
            simp only [hxT]
            exact fun e => HB.out (Option.some.inj e)⟩
          case measure => simp [intOf]
      · have hx : (((⟨#[48, 49, 50, 51, 52, 53, 54, 55, 56, 57, 65, 66, 67, 68, 69, 70]⟩ : ByteArray)[4]'(by decide)).toNat : Int) = 52 := rfl
        by_cases hb : (52 : Int) = n
        · have HB := hid (show n - 52 = 0 by omega)
          go_wp2_with fail
          all_goals go_ret
          all_goals exact ⟨ret_int (by rw [HV.out]; (repeat' split) <;> omega), rfl⟩
        · have HB := hid hb
          have hb2 : ((52 : Int) == n) = false := by simpa using hb
          go_wp2_with fail
          go_round
          case rel => exact ⟨5, by omega, by first | rfl | go_num, fun j hj => if h : j < 4 then HJ.out j h else by
            obtain rfl : j = 4 := by omega
            simp only [hxT]
            exact fun e => HB.out (Option.some.inj e)⟩
          case measure => simp [intOf]
      · have hx : (((⟨#[48, 49, 50, 51, 52, 53, 54, 55, 56, 57, 65, 66, 67, 68, 69, 70]⟩ : ByteArray)[5]'(by decide)).toNat : Int) = 53 := rfl
        by_cases hb : (53 : Int) = n
        · have HB := hid (show n - 53 = 0 by omega)
          go_wp2_with fail
          all_goals go_ret
          all_goals exact ⟨ret_int (by rw [HV.out]; (repeat' split) <;> omega), rfl⟩
        · have HB := hid hb
          have hb2 : ((53 : Int) == n) = false := by simpa using hb
          go_wp2_with fail
          go_round
          case rel => exact ⟨6, by omega, by first | rfl | go_num, fun j hj => if h : j < 5 then HJ.out j h else by
            obtain rfl : j = 5 := by omega
            simp only [hxT]
            exact fun e => HB.out (Option.some.inj e)⟩
          case measure => simp [intOf]
      · have hx : (((⟨#[48, 49, 50, 51, 52, 53, 54, 55, 56, 57, 65, 66, 67, 68, 69, 70]⟩ : ByteArray)[6]'(by decide)).toNat : Int) = 54 := rfl
        by_cases hb : (54 : Int) = n
        · have HB := hid (show n - 54 = 0 by omega)
          go_wp2_with fail
          all_goals go_ret
          all_goals exact ⟨ret_int (by rw [HV.out]; (repeat' split) <;> omega), rfl⟩
        · have HB := hid hb
          have hb2 : ((54 : Int) == n) = false := by simpa using hb
          go_wp2_with fail
          go_round
          case rel => exact ⟨7, by omega, by first | rfl | go_num, fun j hj => if h : j < 6 then HJ.out j h else by
            obtain rfl : j = 6 := by omega
            simp only [hxT]
            exact fun e => HB.out (Option.some.inj e)⟩
          case measure => simp [intOf]
      · have hx : (((⟨#[48, 49, 50, 51, 52, 53, 54, 55, 56, 57, 65, 66, 67, 68, 69, 70]⟩ : ByteArray)[7]'(by decide)).toNat : Int) = 55 := rfl
        by_cases hb : (55 : Int) = n
        · have HB := hid (show n - 55 = 0 by omega)
          go_wp2_with fail
          all_goals go_ret
          all_goals exact ⟨ret_int (by rw [HV.out]; (repeat' split) <;> omega), rfl⟩
        · have HB := hid hb
          have hb2 : ((55 : Int) == n) = false := by simpa using hb
          go_wp2_with fail
          go_round
          case rel => exact ⟨8, by omega, by first | rfl | go_num, fun j hj => if h : j < 7 then HJ.out j h else by
            obtain rfl : j = 7 := by omega
            simp only [hxT]
            exact fun e => HB.out (Option.some.inj e)⟩
          case measure => simp [intOf]
      · have hx : (((⟨#[48, 49, 50, 51, 52, 53, 54, 55, 56, 57, 65, 66, 67, 68, 69, 70]⟩ : ByteArray)[8]'(by decide)).toNat : Int) = 56 := rfl
        by_cases hb : (56 : Int) = n
        · have HB := hid (show n - 56 = 0 by omega)
          go_wp2_with fail
          all_goals go_ret
          all_goals exact ⟨ret_int (by rw [HV.out]; (repeat' split) <;> omega), rfl⟩
        · have HB := hid hb
          have hb2 : ((56 : Int) == n) = false := by simpa using hb
          go_wp2_with fail
          go_round
          case rel => exact ⟨9, by omega, by first | rfl | go_num, fun j hj => if h : j < 8 then HJ.out j h else by
            obtain rfl : j = 8 := by omega
            simp only [hxT]
            exact fun e => HB.out (Option.some.inj e)⟩
          case measure => simp [intOf]
      · have hx : (((⟨#[48, 49, 50, 51, 52, 53, 54, 55, 56, 57, 65, 66, 67, 68, 69, 70]⟩ : ByteArray)[9]'(by decide)).toNat : Int) = 57 := rfl
        by_cases hb : (57 : Int) = n
        · have HB := hid (show n - 57 = 0 by omega)
          go_wp2_with fail
          all_goals go_ret
          all_goals exact ⟨ret_int (by rw [HV.out]; (repeat' split) <;> omega), rfl⟩
        · have HB := hid hb
          have hb2 : ((57 : Int) == n) = false := by simpa using hb
          go_wp2_with fail
          go_round
          case rel => exact ⟨10, by omega, by first | rfl | go_num, fun j hj => if h : j < 9 then HJ.out j h else by
            obtain rfl : j = 9 := by omega
            simp only [hxT]
            exact fun e => HB.out (Option.some.inj e)⟩
          case measure => simp [intOf]
      · have hx : (((⟨#[48, 49, 50, 51, 52, 53, 54, 55, 56, 57, 65, 66, 67, 68, 69, 70]⟩ : ByteArray)[10]'(by decide)).toNat : Int) = 65 := rfl
        by_cases hb : (65 : Int) = n
        · have HB := hid (show n - 65 = 0 by omega)
          go_wp2_with fail
          all_goals go_ret
          all_goals exact ⟨ret_int (by rw [HV.out]; (repeat' split) <;> omega), rfl⟩
        · have HB := hid hb
          have hb2 : ((65 : Int) == n) = false := by simpa using hb
          go_wp2_with fail
          go_round
          case rel => exact ⟨11, by omega, by first | rfl | go_num, fun j hj => if h : j < 10 then HJ.out j h else by
            obtain rfl : j = 10 := by omega
            simp only [hxT]
            exact fun e => HB.out (Option.some.inj e)⟩
          case measure => simp [intOf]
      · have hx : (((⟨#[48, 49, 50, 51, 52, 53, 54, 55, 56, 57, 65, 66, 67, 68, 69, 70]⟩ : ByteArray)[11]'(by decide)).toNat : Int) = 66 := rfl
        by_cases hb : (66 : Int) = n
        · have HB := hid (show n - 66 = 0 by omega)
          go_wp2_with fail
          all_goals go_ret
          all_goals exact ⟨ret_int (by rw [HV.out]; (repeat' split) <;> omega), rfl⟩
        · have HB := hid hb
          have hb2 : ((66 : Int) == n) = false := by simpa using hb
          go_wp2_with fail
          go_round
          case rel => exact ⟨12, by omega, by first | rfl | go_num, fun j hj => if h : j < 11 then HJ.out j h else by
            obtain rfl : j = 11 := by omega
            simp only [hxT]
            exact fun e => HB.out (Option.some.inj e)⟩
          case measure => simp [intOf]
      · have hx : (((⟨#[48, 49, 50, 51, 52, 53, 54, 55, 56, 57, 65, 66, 67, 68, 69, 70]⟩ : ByteArray)[12]'(by decide)).toNat : Int) = 67 := rfl
        by_cases hb : (67 : Int) = n
        · have HB := hid (show n - 67 = 0 by omega)
          go_wp2_with fail
          all_goals go_ret
          all_goals exact ⟨ret_int (by rw [HV.out]; (repeat' split) <;> omega), rfl⟩
        · have HB := hid hb
          have hb2 : ((67 : Int) == n) = false := by simpa using hb
          go_wp2_with fail
          go_round
          case rel => exact ⟨13, by omega, by first | rfl | go_num, fun j hj => if h : j < 12 then HJ.out j h else by
            obtain rfl : j = 12 := by omega
            simp only [hxT]
            exact fun e => HB.out (Option.some.inj e)⟩
          case measure => simp [intOf]
      · have hx : (((⟨#[48, 49, 50, 51, 52, 53, 54, 55, 56, 57, 65, 66, 67, 68, 69, 70]⟩ : ByteArray)[13]'(by decide)).toNat : Int) = 68 := rfl
        by_cases hb : (68 : Int) = n
        · have HB := hid (show n - 68 = 0 by omega)
          go_wp2_with fail
          all_goals go_ret
          all_goals exact ⟨ret_int (by rw [HV.out]; (repeat' split) <;> omega), rfl⟩
        · have HB := hid hb
          have hb2 : ((68 : Int) == n) = false := by simpa using hb
          go_wp2_with fail
          go_round
          case rel => exact ⟨14, by omega, by first | rfl | go_num, fun j hj => if h : j < 13 then HJ.out j h else by
            obtain rfl : j = 13 := by omega
            simp only [hxT]
            exact fun e => HB.out (Option.some.inj e)⟩
          case measure => simp [intOf]
      · have hx : (((⟨#[48, 49, 50, 51, 52, 53, 54, 55, 56, 57, 65, 66, 67, 68, 69, 70]⟩ : ByteArray)[14]'(by decide)).toNat : Int) = 69 := rfl
        by_cases hb : (69 : Int) = n
        · have HB := hid (show n - 69 = 0 by omega)
          go_wp2_with fail
          all_goals go_ret
          all_goals exact ⟨ret_int (by rw [HV.out]; (repeat' split) <;> omega), rfl⟩
        · have HB := hid hb
          have hb2 : ((69 : Int) == n) = false := by simpa using hb
          go_wp2_with fail
          go_round
          case rel => exact ⟨15, by omega, by first | rfl | go_num, fun j hj => if h : j < 14 then HJ.out j h else by
            obtain rfl : j = 14 := by omega
            simp only [hxT]
            exact fun e => HB.out (Option.some.inj e)⟩
          case measure => simp [intOf]
      · have hx : (((⟨#[48, 49, 50, 51, 52, 53, 54, 55, 56, 57, 65, 66, 67, 68, 69, 70]⟩ : ByteArray)[15]'(by decide)).toNat : Int) = 70 := rfl
        by_cases hb : (70 : Int) = n
        · have HB := hid (show n - 70 = 0 by omega)
          go_wp2_with fail
          all_goals go_ret
          all_goals exact ⟨ret_int (by rw [HV.out]; (repeat' split) <;> omega), rfl⟩
        · have HB := hid hb
          have hb2 : ((70 : Int) == n) = false := by simpa using hb
          go_wp2_with fail
          go_round
          case rel => exact ⟨16, by omega, by first | rfl | go_num, fun j hj => if h : j < 15 then HJ.out j h else by
            obtain rfl : j = 15 := by omega
            simp only [hxT]
            exact fun e => HB.out (Option.some.inj e)⟩
          case measure => simp [intOf]
end Go.Proofs.YtefbfgcbbpmhlabGreatDoor
