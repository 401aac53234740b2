/-
  Reading: the digits of the document's answer.
-/
import Derived.Test.YtggojafapieliabDoorRa
namespace Go.Proofs.YtggojafapieliabDoor
open Go.RowKit
set_option maxRecDepth 100000

def hxT : List Int := [48, 49, 50, 51, 52, 53, 54, 55, 56, 57, 65, 66, 67, 68, 69, 70]
set_option maxHeartbeats 2000000 in
theorem rHex (c : UInt8) (w : World) :
    Calls Tryd.prog 38 #[.int .u8 (c.toNat : Int)] w fun e w' => e = .returned (.int .i64 (hexV c)) ∧ w' = w := by
  have hc := c.toNat_lt
  generalize hn : (c.toNat : Int) = n
  have h0 : 0 ≤ n := by omega
  have h1 : n < 256 := by omega
  have HV := hid (show hexV c = if 48 ≤ n ∧ n ≤ 57 then n - 48 else if 65 ≤ n ∧ n ≤ 70 then n - 55 else if 97 ≤ n ∧ n ≤ 102 then n - 87 else -1 by
    unfold hexV; subst hn; (repeat' split) <;> omega)
  clear hn hc
  go_enter Tryd.func38, Tryd.ntmps38
  by_cases a1 : 97 ≤ n
  · by_cases a2 : n ≤ 102
    · obtain ⟨m, rfl⟩ : ∃ m : Int, n = m + 32 := ⟨n - 32, by omega⟩
      go_wp2_with fail
      go_loop [3] (fun i => ∃ k : Nat, k ≤ 16 ∧ i = .int .i64 k ∧ ∀ j : Nat, j < k → hxT[j]? ≠ some m) (fun i => 16 - (intOf i).toNat)
      case atStart => exact ⟨0, by omega, rfl, fun j hj => by omega⟩
      case round =>
        obtain ⟨k, hk, rfl, hJ⟩ := hrel
        have HJ := hid hJ
        clear hJ
        have hk16 : k = 16 ∨ k = 0 ∨ k = 1 ∨ k = 2 ∨ k = 3 ∨ k = 4 ∨ k = 5 ∨ k = 6 ∨ k = 7 ∨ k = 8 ∨ k = 9 ∨ k = 10 ∨ k = 11 ∨ k = 12 ∨ k = 13 ∨ k = 14 ∨ k = 15 := by omega
        clear hk
        rcases hk16 with rfl | rfl | rfl | rfl | rfl | rfl | rfl | rfl | rfl | rfl | rfl | rfl | rfl | rfl | rfl | rfl | rfl
        · go_wp2_with fail
          go_ret
          refine ⟨ret_int ?_, rfl⟩
          have a0 := HJ.out 0 (by omega)
          have a1 := HJ.out 1 (by omega)
          have a2 := HJ.out 2 (by omega)
          have a3 := HJ.out 3 (by omega)
          have a4 := HJ.out 4 (by omega)
          have a5 := HJ.out 5 (by omega)
          have a6 := HJ.out 6 (by omega)
          have a7 := HJ.out 7 (by omega)
          have a8 := HJ.out 8 (by omega)
          have a9 := HJ.out 9 (by omega)
          have a10 := HJ.out 10 (by omega)
          have a11 := HJ.out 11 (by omega)
          have a12 := HJ.out 12 (by omega)
          have a13 := HJ.out 13 (by omega)
          have a14 := HJ.out 14 (by omega)
          have a15 := HJ.out 15 (by omega)
          simp [hxT] at a0 a1 a2 a3 a4 a5 a6 a7 a8 a9 a10 a11 a12 a13 a14 a15
          rw [HV.out]
          (repeat' split) <;> omega
        · have hx : (((⟨#[48, 49, 50, 51, 52, 53, 54, 55, 56, 57, 65, 66, 67, 68, 69, 70]⟩ : ByteArray)[0]'(by decide)).toNat : Int) = 48 := rfl
          by_cases hb : (48 : Int) = m
          · have HB := hid (show m - 48 = 0 by omega)
            go_wp2_with fail
            all_goals go_ret
            all_goals exact ⟨ret_int (by rw [HV.out]; (repeat' split) <;> omega), rfl⟩
          · have HB := hid hb
            have hb2 : ((48 : Int) == m) = false := by simpa using hb
            go_wp2_with fail
            go_round
            case rel => exact ⟨1, by omega, by first | rfl | go_num, fun j hj => if h : j < 0 then HJ.out j h else by
              obtain rfl : j = 0 := by omega
              simp only [hxT]
              exact fun e => HB.out (Option.some.inj e)⟩
            case measure => simp [intOf]
        · have hx : (((⟨#[48, 49, 50, 51, 52, 53, 54, 55, 56, 57, 65, 66, 67, 68, 69, 70]⟩ : ByteArray)[1]'(by decide)).toNat : Int) = 49 := rfl
          by_cases hb : (49 : Int) = m
          · have HB := hid (show m - 49 = 0 by omega)
            go_wp2_with fail
            all_goals go_ret
            all_goals exact ⟨ret_int (by rw [HV.out]; (repeat' split) <;> omega), rfl⟩
          · have HB := hid hb
            have hb2 : ((49 : Int) == m) = false := by simpa using hb
            go_wp2_with fail
            go_round
            case rel => exact ⟨2, by omega, by first | rfl | go_num, fun j hj => if h : j < 1 then HJ.out j h else by
              obtain rfl : j = 1 := by omega
              simp only [hxT]
              exact fun e => HB.out (Option.some.inj e)⟩
            case measure => simp [intOf]
        · have hx : (((⟨#[48, 49, 50, 51, 52, 53, 54, 55, 56, 57, 65, 66, 67, 68, 69, 70]⟩ : ByteArray)[2]'(by decide)).toNat : Int) = 50 := rfl
          by_cases hb : (50 : Int) = m
          · have HB := hid (show m - 50 = 0 by omega)
            go_wp2_with fail
            all_goals go_ret
            all_goals exact ⟨ret_int (by rw [HV.out]; (repeat' split) <;> omega), rfl⟩
          · have HB := hid hb
            have hb2 : ((50 : Int) == m) = false := by simpa using hb
            go_wp2_with fail
            go_round
            case rel => exact ⟨3, by omega, by first | rfl | go_num, fun j hj => if h : j < 2 then HJ.out j h else by
              obtain rfl : j = 2 := by omega
              simp only [hxT]
              exact fun e => HB.out (Option.some.inj e)⟩
            case measure => simp [intOf]
        · have hx : (((⟨#[48, 49, 50, 51, 52, 53, 54, 55, 56, 57, 65, 66, 67, 68, 69, 70]⟩ : ByteArray)[3]'(by decide)).toNat : Int) = 51 := rfl
          by_cases hb : (51 : Int) = m
          · have HB := hid (show m - 51 = 0 by omega)
            go_wp2_with fail
            all_goals go_ret
            all_goals exact ⟨ret_int (by rw [HV.out]; (repeat' split) <;> omega), rfl⟩
          · have HB := hid hb
            have hb2 : ((51 : Int) == m) = false := by simpa using hb
            go_wp2_with fail
            go_round
            case rel => exact ⟨4, by omega, by first | rfl | go_num, fun j hj => if h : j < 3 then HJ.out j h else by
              obtain rfl : j = 3 := by omega
              simp only [hxT]
              exact fun e => HB.out (Option.some.inj e)⟩
            case measure => simp [intOf]
        · have hx : (((⟨#[48, 49, 50, 51, 52, 53, 54, 55, 56, 57, 65, 66, 67, 68, 69, 70]⟩ : ByteArray)[4]'(by decide)).toNat : Int) = 52 := rfl
          by_cases hb : (52 : Int) = m
          · have HB := hid (show m - 52 = 0 by omega)
            go_wp2_with fail
            all_goals go_ret
            all_goals exact ⟨ret_int (by rw [HV.out]; (repeat' split) <;> omega), rfl⟩
          · have HB := hid hb
            have hb2 : ((52 : Int) == m) = false := by simpa using hb
            go_wp2_with fail
            go_round
            case rel => exact ⟨5, by omega, by first | rfl | go_num, fun j hj => if h : j < 4 then HJ.out j h else by
              obtain rfl : j = 4 := by omega
              simp only [hxT]
              exact fun e => HB.out (Option.some.inj e)⟩
            case measure => simp [intOf]
        · have hx : (((⟨#[48, 49, 50, 51, 52, 53, 54, 55, 56, 57, 65, 66, 67, 68, 69, 70]⟩ : ByteArray)[5]'(by decide)).toNat : Int) = 53 := rfl
          by_cases hb : (53 : Int) = m
          · have HB := hid (show m - 53 = 0 by omega)
            go_wp2_with fail
            all_goals go_ret
            all_goals exact ⟨ret_int (by rw [HV.out]; (repeat' split) <;> omega), rfl⟩
          · have HB := hid hb
            have hb2 : ((53 : Int) == m) = false := by simpa using hb
            go_wp2_with fail
            go_round
            case rel => exact ⟨6, by omega, by first | rfl | go_num, fun j hj => if h : j < 5 then HJ.out j h else by
              obtain rfl : j = 5 := by omega
              simp only [hxT]
              exact fun e => HB.out (Option.some.inj e)⟩
            case measure => simp [intOf]
        · have hx : (((⟨#[48, 49, 50, 51, 52, 53, 54, 55, 56, 57, 65, 66, 67, 68, 69, 70]⟩ : ByteArray)[6]'(by decide)).toNat : Int) = 54 := rfl
          by_cases hb : (54 : Int) = m
          · have HB := hid (show m - 54 = 0 by omega)
            go_wp2_with fail
            all_goals go_ret
            all_goals exact ⟨ret_int (by rw [HV.out]; (repeat' split) <;> omega), rfl⟩
          · have HB := hid hb
            have hb2 : ((54 : Int) == m) = false := by simpa using hb
            go_wp2_with fail
            go_round
            case rel => exact ⟨7, by omega, by first | rfl | go_num, fun j hj => if h : j < 6 then HJ.out j h else by
              obtain rfl : j = 6 := by omega
              simp only [hxT]
              exact fun e => HB.out (Option.some.inj e)⟩
            case measure => simp [intOf]
        · have hx : (((⟨#[48, 49, 50, 51, 52, 53, 54, 55, 56, 57, 65, 66, 67, 68, 69, 70]⟩ : ByteArray)[7]'(by decide)).toNat : Int) = 55 := rfl
          by_cases hb : (55 : Int) = m
          · have HB := hid (show m - 55 = 0 by omega)
            go_wp2_with fail
            all_goals go_ret
            all_goals exact ⟨ret_int (by rw [HV.out]; (repeat' split) <;> omega), rfl⟩
          · have HB := hid hb
            have hb2 : ((55 : Int) == m) = false := by simpa using hb
            go_wp2_with fail
            go_round
            case rel => exact ⟨8, by omega, by first | rfl | go_num, fun j hj => if h : j < 7 then HJ.out j h else by
              obtain rfl : j = 7 := by omega
              simp only [hxT]
              exact fun e => HB.out (Option.some.inj e)⟩
            case measure => simp [intOf]
        · have hx : (((⟨#[48, 49, 50, 51, 52, 53, 54, 55, 56, 57, 65, 66, 67, 68, 69, 70]⟩ : ByteArray)[8]'(by decide)).toNat : Int) = 56 := rfl
          by_cases hb : (56 : Int) = m
          · have HB := hid (show m - 56 = 0 by omega)
            go_wp2_with fail
            all_goals go_ret
            all_goals exact ⟨ret_int (by rw [HV.out]; (repeat' split) <;> omega), rfl⟩
          · have HB := hid hb
            have hb2 : ((56 : Int) == m) = false := by simpa using hb
            go_wp2_with fail
            go_round
            case rel => exact ⟨9, by omega, by first | rfl | go_num, fun j hj => if h : j < 8 then HJ.out j h else by
              obtain rfl : j = 8 := by omega
              simp only [hxT]
              exact fun e => HB.out (Option.some.inj e)⟩
            case measure => simp [intOf]
        · have hx : (((⟨#[48, 49, 50, 51, 52, 53, 54, 55, 56, 57, 65, 66, 67, 68, 69, 70]⟩ : ByteArray)[9]'(by decide)).toNat : Int) = 57 := rfl
          by_cases hb : (57 : Int) = m
          · have HB := hid (show m - 57 = 0 by omega)
            go_wp2_with fail
            all_goals go_ret
            all_goals exact ⟨ret_int (by rw [HV.out]; (repeat' split) <;> omega), rfl⟩
          · have HB := hid hb
            have hb2 : ((57 : Int) == m) = false := by simpa using hb
            go_wp2_with fail
            go_round
            case rel => exact ⟨10, by omega, by first | rfl | go_num, fun j hj => if h : j < 9 then HJ.out j h else by
              obtain rfl : j = 9 := by omega
              simp only [hxT]
              exact fun e => HB.out (Option.some.inj e)⟩
            case measure => simp [intOf]
        · have hx : (((⟨#[48, 49, 50, 51, 52, 53, 54, 55, 56, 57, 65, 66, 67, 68, 69, 70]⟩ : ByteArray)[10]'(by decide)).toNat : Int) = 65 := rfl
          by_cases hb : (65 : Int) = m
          · have HB := hid (show m - 65 = 0 by omega)
            go_wp2_with fail
            all_goals go_ret
            all_goals exact ⟨ret_int (by rw [HV.out]; (repeat' split) <;> omega), rfl⟩
          · have HB := hid hb
            have hb2 : ((65 : Int) == m) = false := by simpa using hb
            go_wp2_with fail
            go_round
            case rel => exact ⟨11, by omega, by first | rfl | go_num, fun j hj => if h : j < 10 then HJ.out j h else by
              obtain rfl : j = 10 := by omega
              simp only [hxT]
              exact fun e => HB.out (Option.some.inj e)⟩
            case measure => simp [intOf]
        · have hx : (((⟨#[48, 49, 50, 51, 52, 53, 54, 55, 56, 57, 65, 66, 67, 68, 69, 70]⟩ : ByteArray)[11]'(by decide)).toNat : Int) = 66 := rfl
          by_cases hb : (66 : Int) = m
          · have HB := hid (show m - 66 = 0 by omega)
            go_wp2_with fail
            all_goals go_ret
            all_goals exact ⟨ret_int (by rw [HV.out]; (repeat' split) <;> omega), rfl⟩
          · have HB := hid hb
            have hb2 : ((66 : Int) == m) = false := by simpa using hb
            go_wp2_with fail
            go_round
            case rel => exact ⟨12, by omega, by first | rfl | go_num, fun j hj => if h : j < 11 then HJ.out j h else by
              obtain rfl : j = 11 := by omega
              simp only [hxT]
              exact fun e => HB.out (Option.some.inj e)⟩
            case measure => simp [intOf]
        · have hx : (((⟨#[48, 49, 50, 51, 52, 53, 54, 55, 56, 57, 65, 66, 67, 68, 69, 70]⟩ : ByteArray)[12]'(by decide)).toNat : Int) = 67 := rfl
          by_cases hb : (67 : Int) = m
          · have HB := hid (show m - 67 = 0 by omega)
            go_wp2_with fail
            all_goals go_ret
            all_goals exact ⟨ret_int (by rw [HV.out]; (repeat' split) <;> omega), rfl⟩
          · have HB := hid hb
            have hb2 : ((67 : Int) == m) = false := by simpa using hb
            go_wp2_with fail
            go_round
            case rel => exact ⟨13, by omega, by first | rfl | go_num, fun j hj => if h : j < 12 then HJ.out j h else by
              obtain rfl : j = 12 := by omega
              simp only [hxT]
              exact fun e => HB.out (Option.some.inj e)⟩
            case measure => simp [intOf]
        · have hx : (((⟨#[48, 49, 50, 51, 52, 53, 54, 55, 56, 57, 65, 66, 67, 68, 69, 70]⟩ : ByteArray)[13]'(by decide)).toNat : Int) = 68 := rfl
          by_cases hb : (68 : Int) = m
          · have HB := hid (show m - 68 = 0 by omega)
            go_wp2_with fail
            all_goals go_ret
            all_goals exact ⟨ret_int (by rw [HV.out]; (repeat' split) <;> omega), rfl⟩
          · have HB := hid hb
            have hb2 : ((68 : Int) == m) = false := by simpa using hb
            go_wp2_with fail
            go_round
            case rel => exact ⟨14, by omega, by first | rfl | go_num, fun j hj => if h : j < 13 then HJ.out j h else by
              obtain rfl : j = 13 := by omega
              simp only [hxT]
              exact fun e => HB.out (Option.some.inj e)⟩
            case measure => simp [intOf]
        · have hx : (((⟨#[48, 49, 50, 51, 52, 53, 54, 55, 56, 57, 65, 66, 67, 68, 69, 70]⟩ : ByteArray)[14]'(by decide)).toNat : Int) = 69 := rfl
          by_cases hb : (69 : Int) = m
          · have HB := hid (show m - 69 = 0 by omega)
            go_wp2_with fail
            all_goals go_ret
            all_goals exact ⟨ret_int (by rw [HV.out]; (repeat' split) <;> omega), rfl⟩
          · have HB := hid hb
            have hb2 : ((69 : Int) == m) = false := by simpa using hb
            go_wp2_with fail
            go_round
            case rel => exact ⟨15, by omega, by first | rfl | go_num, fun j hj => if h : j < 14 then HJ.out j h else by
              obtain rfl : j = 14 := by omega
              simp only [hxT]
              exact fun e => HB.out (Option.some.inj e)⟩
            case measure => simp [intOf]
        · have hx : (((⟨#[48, 49, 50, 51, 52, 53, 54, 55, 56, 57, 65, 66, 67, 68, 69, 70]⟩ : ByteArray)[15]'(by decide)).toNat : Int) = 70 := rfl
          by_cases hb : (70 : Int) = m
          · have HB := hid (show m - 70 = 0 by omega)
            go_wp2_with fail
            all_goals go_ret
            all_goals exact ⟨ret_int (by rw [HV.out]; (repeat' split) <;> omega), rfl⟩
          · have HB := hid hb
            have hb2 : ((70 : Int) == m) = false := by simpa using hb
            go_wp2_with fail
            go_round
            case rel => exact ⟨16, by omega, by first | rfl | go_num, fun j hj => if h : j < 15 then HJ.out j h else by
              obtain rfl : j = 15 := by omega
              simp only [hxT]
              exact fun e => HB.out (Option.some.inj e)⟩
            case measure => simp [intOf]
    · skip
      go_wp2_with fail
      go_loop [3] (fun i => ∃ k : Nat, k ≤ 16 ∧ i = .int .i64 k ∧ ∀ j : Nat, j < k → hxT[j]? ≠ some n) (fun i => 16 - (intOf i).toNat)
      case atStart => exact ⟨0, by omega, rfl, fun j hj => by omega⟩
      case round =>
        obtain ⟨k, hk, rfl, hJ⟩ := hrel
        have HJ := hid hJ
        clear hJ
        have hk16 : k = 16 ∨ k = 0 ∨ k = 1 ∨ k = 2 ∨ k = 3 ∨ k = 4 ∨ k = 5 ∨ k = 6 ∨ k = 7 ∨ k = 8 ∨ k = 9 ∨ k = 10 ∨ k = 11 ∨ k = 12 ∨ k = 13 ∨ k = 14 ∨ k = 15 := by omega
        clear hk
        rcases hk16 with rfl | rfl | rfl | rfl | rfl | rfl | rfl | rfl | rfl | rfl | rfl | rfl | rfl | rfl | rfl | rfl | rfl
        · go_wp2_with fail
          go_ret
          refine ⟨ret_int ?_, rfl⟩
          have a0 := HJ.out 0 (by omega)
          have a1 := HJ.out 1 (by omega)
          have a2 := HJ.out 2 (by omega)
          have a3 := HJ.out 3 (by omega)
          have a4 := HJ.out 4 (by omega)
          have a5 := HJ.out 5 (by omega)
          have a6 := HJ.out 6 (by omega)
          have a7 := HJ.out 7 (by omega)
          have a8 := HJ.out 8 (by omega)
          have a9 := HJ.out 9 (by omega)
          have a10 := HJ.out 10 (by omega)
          have a11 := HJ.out 11 (by omega)
          have a12 := HJ.out 12 (by omega)
          have a13 := HJ.out 13 (by omega)
          have a14 := HJ.out 14 (by omega)
          have a15 := HJ.out 15 (by omega)
          simp [hxT] at a0 a1 a2 a3 a4 a5 a6 a7 a8 a9 a10 a11 a12 a13 a14 a15
          rw [HV.out]
          (repeat' split) <;> omega
        · have hx : (((⟨#[48, 49, 50, 51, 52, 53, 54, 55, 56, 57, 65, 66, 67, 68, 69, 70]⟩ : ByteArray)[0]'(by decide)).toNat : Int) = 48 := rfl
          by_cases hb : (48 : Int) = n
          · have HB := hid (show n - 48 = 0 by omega)
            go_wp2_with fail
            all_goals go_ret
            all_goals exact ⟨ret_int (by rw [HV.out]; (repeat' split) <;> omega), rfl⟩
          · have HB := hid hb
            have hb2 : ((48 : Int) == n) = false := by simpa using hb
            go_wp2_with fail
            go_round
            case rel => exact ⟨1, by omega, by first | rfl | go_num, fun j hj => if h : j < 0 then HJ.out j h else by
              obtain rfl : j = 0 := by omega
              simp only [hxT]
              exact fun e => HB.out (Option.some.inj e)⟩
            case measure => simp [intOf]
        · have hx : (((⟨#[48, 49, 50, 51, 52, 53, 54, 55, 56, 57, 65, 66, 67, 68, 69, 70]⟩ : ByteArray)[1]'(by decide)).toNat : Int) = 49 := rfl
          by_cases hb : (49 : Int) = n
          · have HB := hid (show n - 49 = 0 by omega)
            go_wp2_with fail
            all_goals go_ret
            all_goals exact ⟨ret_int (by rw [HV.out]; (repeat' split) <;> omega), rfl⟩
          · have HB := hid hb
            have hb2 : ((49 : Int) == n) = false := by simpa using hb
            go_wp2_with fail
            go_round
            case rel => exact ⟨2, by omega, by first | rfl | go_num, fun j hj => if h : j < 1 then HJ.out j h else by
              obtain rfl : j = 1 := by omega
              simp only [hxT]
              exact fun e => HB.out (Option.some.inj e)⟩
            case measure => simp [intOf]
        · have hx : (((⟨#[48, 49, 50, 51, 52, 53, 54, 55, 56, 57, 65, 66, 67, 68, 69, 70]⟩ : ByteArray)[2]'(by decide)).toNat : Int) = 50 := rfl
          by_cases hb : (50 : Int) = n
          · have HB := hid (show n - 50 = 0 by omega)
            go_wp2_with fail
            all_goals go_ret
            all_goals exact ⟨ret_int (by rw [HV.out]; (repeat' split) <;> omega), rfl⟩
          · have HB := hid hb
            have hb2 : ((50 : Int) == n) = false := by simpa using hb
            go_wp2_with fail
            go_round
            case rel => exact ⟨3, by omega, by first | rfl | go_num, fun j hj => if h : j < 2 then HJ.out j h else by
              obtain rfl : j = 2 := by omega
              simp only [hxT]
              exact fun e => HB.out (Option.some.inj e)⟩
            case measure => simp [intOf]
        · have hx : (((⟨#[48, 49, 50, 51, 52, 53, 54, 55, 56, 57, 65, 66, 67, 68, 69, 70]⟩ : ByteArray)[3]'(by decide)).toNat : Int) = 51 := rfl
          by_cases hb : (51 : Int) = n
          · have HB := hid (show n - 51 = 0 by omega)
            go_wp2_with fail
            all_goals go_ret
            all_goals exact ⟨ret_int (by rw [HV.out]; (repeat' split) <;> omega), rfl⟩
          · have HB := hid hb
            have hb2 : ((51 : Int) == n) = false := by simpa using hb
            go_wp2_with fail
            go_round
            case rel => exact ⟨4, by omega, by first | rfl | go_num, fun j hj => if h : j < 3 then HJ.out j h else by
              obtain rfl : j = 3 := by omega
              simp only [hxT]
              exact fun e => HB.out (Option.some.inj e)⟩
            case measure => simp [intOf]
        · have hx : (((⟨#[48, 49, 50, 51, 52, 53, 54, 55, 56, 57, 65, 66, 67, 68, 69, 70]⟩ : ByteArray)[4]'(by decide)).toNat : Int) = 52 := rfl
          by_cases hb : (52 : Int) = n
          · have HB := hid (show n - 52 = 0 by omega)
            go_wp2_with fail
            all_goals go_ret
            all_goals exact ⟨ret_int (by rw [HV.out]; (repeat' split) <;> omega), rfl⟩
          · have HB := hid hb
            have hb2 : ((52 : Int) == n) = false := by simpa using hb
            go_wp2_with fail
            go_round
            case rel => exact ⟨5, by omega, by first | rfl | go_num, fun j hj => if h : j < 4 then HJ.out j h else by
              obtain rfl : j = 4 := by omega
              simp only [hxT]
              exact fun e => HB.out (Option.some.inj e)⟩
            case measure => simp [intOf]
        · have hx : (((⟨#[48, 49, 50, 51, 52, 53, 54, 55, 56, 57, 65, 66, 67, 68, 69, 70]⟩ : ByteArray)[5]'(by decide)).toNat : Int) = 53 := rfl
          by_cases hb : (53 : Int) = n
          · have HB := hid (show n - 53 = 0 by omega)
            go_wp2_with fail
            all_goals go_ret
            all_goals exact ⟨ret_int (by rw [HV.out]; (repeat' split) <;> omega), rfl⟩
          · have HB := hid hb
            have hb2 : ((53 : Int) == n) = false := by simpa using hb
            go_wp2_with fail
            go_round
            case rel => exact ⟨6, by omega, by first | rfl | go_num, fun j hj => if h : j < 5 then HJ.out j h else by
              obtain rfl : j = 5 := by omega
              simp only [hxT]
              exact fun e => HB.out (Option.some.inj e)⟩
            case measure => simp [intOf]
        · have hx : (((⟨#[48, 49, 50, 51, 52, 53, 54, 55, 56, 57, 65, 66, 67, 68, 69, 70]⟩ : ByteArray)[6]'(by decide)).toNat : Int) = 54 := rfl
          by_cases hb : (54 : Int) = n
          · have HB := hid (show n - 54 = 0 by omega)
            go_wp2_with fail
            all_goals go_ret
            all_goals exact ⟨ret_int (by rw [HV.out]; (repeat' split) <;> omega), rfl⟩
          · have HB := hid hb
            have hb2 : ((54 : Int) == n) = false := by simpa using hb
            go_wp2_with fail
            go_round
            case rel => exact ⟨7, by omega, by first | rfl | go_num, fun j hj => if h : j < 6 then HJ.out j h else by
              obtain rfl : j = 6 := by omega
              simp only [hxT]
              exact fun e => HB.out (Option.some.inj e)⟩
            case measure => simp [intOf]
        · have hx : (((⟨#[48, 49, 50, 51, 52, 53, 54, 55, 56, 57, 65, 66, 67, 68, 69, 70]⟩ : ByteArray)[7]'(by decide)).toNat : Int) = 55 := rfl
          by_cases hb : (55 : Int) = n
          · have HB := hid (show n - 55 = 0 by omega)
            go_wp2_with fail
            all_goals go_ret
            all_goals exact ⟨ret_int (by rw [HV.out]; (repeat' split) <;> omega), rfl⟩
          · have HB := hid hb
            have hb2 : ((55 : Int) == n) = false := by simpa using hb
            go_wp2_with fail
            go_round
            case rel => exact ⟨8, by omega, by first | rfl | go_num, fun j hj => if h : j < 7 then HJ.out j h else by
              obtain rfl : j = 7 := by omega
              simp only [hxT]
              exact fun e => HB.out (Option.some.inj e)⟩
            case measure => simp [intOf]
        · have hx : (((⟨#[48, 49, 50, 51, 52, 53, 54, 55, 56, 57, 65, 66, 67, 68, 69, 70]⟩ : ByteArray)[8]'(by decide)).toNat : Int) = 56 := rfl
          by_cases hb : (56 : Int) = n
          · have HB := hid (show n - 56 = 0 by omega)
            go_wp2_with fail
            all_goals go_ret
            all_goals exact ⟨ret_int (by rw [HV.out]; (repeat' split) <;> omega), rfl⟩
          · have HB := hid hb
            have hb2 : ((56 : Int) == n) = false := by simpa using hb
            go_wp2_with fail
            go_round
            case rel => exact ⟨9, by omega, by first | rfl | go_num, fun j hj => if h : j < 8 then HJ.out j h else by
              obtain rfl : j = 8 := by omega
              simp only [hxT]
              exact fun e => HB.out (Option.some.inj e)⟩
            case measure => simp [intOf]
        · have hx : (((⟨#[48, 49, 50, 51, 52, 53, 54, 55, 56, 57, 65, 66, 67, 68, 69, 70]⟩ : ByteArray)[9]'(by decide)).toNat : Int) = 57 := rfl
          by_cases hb : (57 : Int) = n
          · have HB := hid (show n - 57 = 0 by omega)
            go_wp2_with fail
            all_goals go_ret
            all_goals exact ⟨ret_int (by rw [HV.out]; (repeat' split) <;> omega), rfl⟩
          · have HB := hid hb
            have hb2 : ((57 : Int) == n) = false := by simpa using hb
            go_wp2_with fail
            go_round
            case rel => exact ⟨10, by omega, by first | rfl | go_num, fun j hj => if h : j < 9 then HJ.out j h else by
              obtain rfl : j = 9 := by omega
              simp only [hxT]
              exact fun e => HB.out (Option.some.inj e)⟩
            case measure => simp [intOf]
        · have hx : (((⟨#[48, 49, 50, 51, 52, 53, 54, 55, 56, 57, 65, 66, 67, 68, 69, 70]⟩ : ByteArray)[10]'(by decide)).toNat : Int) = 65 := rfl
          by_cases hb : (65 : Int) = n
          · have HB := hid (show n - 65 = 0 by omega)
            go_wp2_with fail
            all_goals go_ret
            all_goals exact ⟨ret_int (by rw [HV.out]; (repeat' split) <;> omega), rfl⟩
          · have HB := hid hb
            have hb2 : ((65 : Int) == n) = false := by simpa using hb
            go_wp2_with fail
            go_round
            case rel => exact ⟨11, by omega, by first | rfl | go_num, fun j hj => if h : j < 10 then HJ.out j h else by
              obtain rfl : j = 10 := by omega
              simp only [hxT]
              exact fun e => HB.out (Option.some.inj e)⟩
            case measure => simp [intOf]
        · have hx : (((⟨#[48, 49, 50, 51, 52, 53, 54, 55, 56, 57, 65, 66, 67, 68, 69, 70]⟩ : ByteArray)[11]'(by decide)).toNat : Int) = 66 := rfl
          by_cases hb : (66 : Int) = n
          · have HB := hid (show n - 66 = 0 by omega)
            go_wp2_with fail
            all_goals go_ret
            all_goals exact ⟨ret_int (by rw [HV.out]; (repeat' split) <;> omega), rfl⟩
          · have HB := hid hb
            have hb2 : ((66 : Int) == n) = false := by simpa using hb
            go_wp2_with fail
            go_round
            case rel => exact ⟨12, by omega, by first | rfl | go_num, fun j hj => if h : j < 11 then HJ.out j h else by
              obtain rfl : j = 11 := by omega
              simp only [hxT]
              exact fun e => HB.out (Option.some.inj e)⟩
            case measure => simp [intOf]
        · have hx : (((⟨#[48, 49, 50, 51, 52, 53, 54, 55, 56, 57, 65, 66, 67, 68, 69, 70]⟩ : ByteArray)[12]'(by decide)).toNat : Int) = 67 := rfl
          by_cases hb : (67 : Int) = n
          · have HB := hid (show n - 67 = 0 by omega)
            go_wp2_with fail
            all_goals go_ret
            all_goals exact ⟨ret_int (by rw [HV.out]; (repeat' split) <;> omega), rfl⟩
          · have HB := hid hb
            have hb2 : ((67 : Int) == n) = false := by simpa using hb
            go_wp2_with fail
            go_round
            case rel => exact ⟨13, by omega, by first | rfl | go_num, fun j hj => if h : j < 12 then HJ.out j h else by
              obtain rfl : j = 12 := by omega
              simp only [hxT]
              exact fun e => HB.out (Option.some.inj e)⟩
            case measure => simp [intOf]
        · have hx : (((⟨#[48, 49, 50, 51, 52, 53, 54, 55, 56, 57, 65, 66, 67, 68, 69, 70]⟩ : ByteArray)[13]'(by decide)).toNat : Int) = 68 := rfl
          by_cases hb : (68 : Int) = n
          · have HB := hid (show n - 68 = 0 by omega)
            go_wp2_with fail
            all_goals go_ret
            all_goals exact ⟨ret_int (by rw [HV.out]; (repeat' split) <;> omega), rfl⟩
          · have HB := hid hb
            have hb2 : ((68 : Int) == n) = false := by simpa using hb
            go_wp2_with fail
            go_round
            case rel => exact ⟨14, by omega, by first | rfl | go_num, fun j hj => if h : j < 13 then HJ.out j h else by
              obtain rfl : j = 13 := by omega
              simp only [hxT]
              exact fun e => HB.out (Option.some.inj e)⟩
            case measure => simp [intOf]
        · have hx : (((⟨#[48, 49, 50, 51, 52, 53, 54, 55, 56, 57, 65, 66, 67, 68, 69, 70]⟩ : ByteArray)[14]'(by decide)).toNat : Int) = 69 := rfl
          by_cases hb : (69 : Int) = n
          · have HB := hid (show n - 69 = 0 by omega)
            go_wp2_with fail
            all_goals go_ret
            all_goals exact ⟨ret_int (by rw [HV.out]; (repeat' split) <;> omega), rfl⟩
          · have HB := hid hb
            have hb2 : ((69 : Int) == n) = false := by simpa using hb
            go_wp2_with fail
            go_round
            case rel => exact ⟨15, by omega, by first | rfl | go_num, fun j hj => if h : j < 14 then HJ.out j h else by
              obtain rfl : j = 14 := by omega
              simp only [hxT]
              exact fun e => HB.out (Option.some.inj e)⟩
            case measure => simp [intOf]
        · have hx : (((⟨#[48, 49, 50, 51, 52, 53, 54, 55, 56, 57, 65, 66, 67, 68, 69, 70]⟩ : ByteArray)[15]'(by decide)).toNat : Int) = 70 := rfl
          by_cases hb : (70 : Int) = n
          · have HB := hid (show n - 70 = 0 by omega)
            go_wp2_with fail
            all_goals go_ret
            all_goals exact ⟨ret_int (by rw [HV.out]; (repeat' split) <;> omega), rfl⟩
          · have HB := hid hb
            have hb2 : ((70 : Int) == n) = false := by simpa using hb
            go_wp2_with fail
            go_round
            case rel => exact ⟨16, by omega, by first | rfl | go_num, fun j hj => if h : j < 15 then HJ.out j h else by
              obtain rfl : j = 15 := by omega
              simp only [hxT]
              exact fun e => HB.out (Option.some.inj e)⟩
            case measure => simp [intOf]
  · skip
    go_wp2_with fail
    go_loop [3] (fun i => ∃ k : Nat, k ≤ 16 ∧ i = .int .i64 k ∧ ∀ j : Nat, j < k → hxT[j]? ≠ some n) (fun i => 16 - (intOf i).toNat)
    case atStart => exact ⟨0, by omega, rfl, fun j hj => by omega⟩
    case round =>
      obtain ⟨k, hk, rfl, hJ⟩ := hrel
      have HJ := hid hJ
      clear hJ
      have hk16 : k = 16 ∨ k = 0 ∨ k = 1 ∨ k = 2 ∨ k = 3 ∨ k = 4 ∨ k = 5 ∨ k = 6 ∨ k = 7 ∨ k = 8 ∨ k = 9 ∨ k = 10 ∨ k = 11 ∨ k = 12 ∨ k = 13 ∨ k = 14 ∨ k = 15 := by omega
      clear hk
      rcases hk16 with rfl | rfl | rfl | rfl | rfl | rfl | rfl | rfl | rfl | rfl | rfl | rfl | rfl | rfl | rfl | rfl | rfl
      · go_wp2_with fail
        go_ret
        refine ⟨ret_int ?_, rfl⟩
        have a0 := HJ.out 0 (by omega)
        have a1 := HJ.out 1 (by omega)
        have a2 := HJ.out 2 (by omega)
        have a3 := HJ.out 3 (by omega)
        have a4 := HJ.out 4 (by omega)
        have a5 := HJ.out 5 (by omega)
        have a6 := HJ.out 6 (by omega)
        have a7 := HJ.out 7 (by omega)
        have a8 := HJ.out 8 (by omega)
        have a9 := HJ.out 9 (by omega)
        have a10 := HJ.out 10 (by omega)
        have a11 := HJ.out 11 (by omega)
        have a12 := HJ.out 12 (by omega)
        have a13 := HJ.out 13 (by omega)
        have a14 := HJ.out 14 (by omega)
        have a15 := HJ.out 15 (by omega)
        simp [hxT] at a0 a1 a2 a3 a4 a5 a6 a7 a8 a9 a10 a11 a12 a13 a14 a15
        rw [HV.out]
        (repeat' split) <;> omega
      · have hx : (((⟨#[48, 49, 50, 51, 52, 53, 54, 55, 56, 57, 65, 66, 67, 68, 69, 70]⟩ : ByteArray)[0]'(by decide)).toNat : Int) = 48 := rfl
        by_cases hb : (48 : Int) = n
        · have HB := hid (show n - 48 = 0 by omega)
          go_wp2_with fail
          all_goals go_ret
          all_goals exact ⟨ret_int (by rw [HV.out]; (repeat' split) <;> omega), rfl⟩
        · have HB := hid hb
          have hb2 : ((48 : Int) == n) = false := by simpa using hb
          go_wp2_with fail
          go_round
          case rel => exact ⟨1, by omega, by first | rfl | go_num, fun j hj => if h : j < 0 then HJ.out j h else by
            obtain rfl : j = 0 := by omega
            simp only [hxT]
            exact fun e => HB.out (Option.some.inj e)⟩
          case measure => simp [intOf]
      · have hx : (((⟨#[48, 49, 50, 51, 52, 53, 54, 55, 56, 57, 65, 66, 67, 68, 69, 70]⟩ : ByteArray)[1]'(by decide)).toNat : Int) = 49 := rfl
        by_cases hb : (49 : Int) = n
        · have HB := hid (show n - 49 = 0 by omega)
          go_wp2_with fail
          all_goals go_ret
          all_goals exact ⟨ret_int (by rw [HV.out]; (repeat' split) <;> omega), rfl⟩
        · have HB := hid hb
          have hb2 : ((49 : Int) == n) = false := by simpa using hb
          go_wp2_with fail
          go_round
          case rel => exact ⟨2, by omega, by first | rfl | go_num, fun j hj => if h : j < 1 then HJ.out j h else by
            obtain rfl : j = 1 := by omega
            simp only [hxT]
            exact fun e => HB.out (Option.some.inj e)⟩
          case measure => simp [intOf]
      · have hx : (((⟨#[48, 49, 50, 51, 52, 53, 54, 55, 56, 57, 65, 66, 67, 68, 69, 70]⟩ : ByteArray)[2]'(by decide)).toNat : Int) = 50 := rfl
        by_cases hb : (50 : Int) = n
        · have HB := hid (show n - 50 = 0 by omega)
          go_wp2_with fail
          all_goals go_ret
          all_goals exact ⟨ret_int (by rw [HV.out]; (repeat' split) <;> omega), rfl⟩
        · have HB := hid hb
          have hb2 : ((50 : Int) == n) = false := by simpa using hb
          go_wp2_with fail
          go_round
          case rel => exact ⟨3, by omega, by first | rfl | go_num, fun j hj => if h : j < 2 then HJ.out j h else by
            obtain rfl : j = 2 := by omega
            simp only [hxT]
            exact fun e => HB.out (Option.some.inj e)⟩
          case measure => simp [intOf]
      · have hx : (((⟨#[48, 49, 50, 51, 52, 53, 54, 55, 56, 57, 65, 66, 67, 68, 69, 70]⟩ : ByteArray)[3]'(by decide)).toNat : Int) = 51 := rfl
        by_cases hb : (51 : Int) = n
        · have HB := hid (show n - 51 = 0 by omega)
          go_wp2_with fail
          all_goals go_ret
          all_goals exact ⟨ret_int (by rw [HV.out]; (repeat' split) <;> omega), rfl⟩
        · have HB := hid hb
          have hb2 : ((51 : Int) == n) = false := by simpa using hb
          go_wp2_with fail
          go_round
          case rel => exact ⟨4, by omega, by first | rfl | go_num, fun j hj => if h : j < 3 then HJ.out j h else by
            obtain rfl : j = 3 := by omega
            simp only [hxT]
            exact fun e => HB.out (Option.some.inj e)⟩
          case measure => simp [intOf]
      · have hx : (((⟨#[48, 49, 50, 51, 52, 53, 54, 55, 56, 57, 65, 66, 67, 68, 69, 70]⟩ : ByteArray)[4]'(by decide)).toNat : Int) = 52 := rfl
        by_cases hb : (52 : Int) = n
        · have HB := hid (show n - 52 = 0 by omega)
          go_wp2_with fail
          all_goals go_ret
          all_goals exact ⟨ret_int (by rw [HV.out]; (repeat' split) <;> omega), rfl⟩
        · have HB := hid hb
          have hb2 : ((52 : Int) == n) = false := by simpa using hb
          go_wp2_with fail
          go_round
          case rel => exact ⟨5, by omega, by first | rfl | go_num, fun j hj => if h : j < 4 then HJ.out j h else by
            obtain rfl : j = 4 := by omega
            simp only [hxT]
            exact fun e => HB.out (Option.some.inj e)⟩
          case measure => simp [intOf]
      · have hx : (((⟨#[48, 49, 50, 51, 52, 53, 54, 55, 56, 57, 65, 66, 67, 68, 69, 70]⟩ : ByteArray)[5]'(by decide)).toNat : Int) = 53 := rfl
        by_cases hb : (53 : Int) = n
        · have HB := hid (show n - 53 = 0 by omega)
          go_wp2_with fail
          all_goals go_ret
          all_goals exact ⟨ret_int (by rw [HV.out]; (repeat' split) <;> omega), rfl⟩
        · have HB := hid hb
          have hb2 : ((53 : Int) == n) = false := by simpa using hb
          go_wp2_with fail
          go_round
          case rel => exact ⟨6, by omega, by first | rfl | go_num, fun j hj => if h : j < 5 then HJ.out j h else by
            obtain rfl : j = 5 := by omega
            simp only [hxT]
            exact fun e => HB.out (Option.some.inj e)⟩
          case measure => simp [intOf]
      · have hx : (((⟨#[48, 49, 50, 51, 52, 53, 54, 55, 56, 57, 65, 66, 67, 68, 69, 70]⟩ : ByteArray)[6]'(by decide)).toNat : Int) = 54 := rfl
        by_cases hb : (54 : Int) = n
        · have HB := hid (show n - 54 = 0 by omega)
          go_wp2_with fail
          all_goals go_ret
          all_goals exact ⟨ret_int (by rw [HV.out]; (repeat' split) <;> omega), rfl⟩
        · have HB := hid hb
          have hb2 : ((54 : Int) == n) = false := by simpa using hb
          go_wp2_with fail
          go_round
          case rel => exact ⟨7, by omega, by first | rfl | go_num, fun j hj => if h : j < 6 then HJ.out j h else by
            obtain rfl : j = 6 := by omega
            simp only [hxT]
            exact fun e => HB.out (Option.some.inj e)⟩
          case measure => simp [intOf]
      · have hx : (((⟨#[48, 49, 50, 51, 52, 53, 54, 55, 56, 57, 65, 66, 67, 68, 69, 70]⟩ : ByteArray)[7]'(by decide)).toNat : Int) = 55 := rfl
        by_cases hb : (55 : Int) = n
        · have HB := hid (show n - 55 = 0 by omega)
          go_wp2_with fail
          all_goals go_ret
          all_goals exact ⟨ret_int (by rw [HV.out]; (repeat' split) <;> omega), rfl⟩
        · have HB := hid hb
          have hb2 : ((55 : Int) == n) = false := by simpa using hb
          go_wp2_with fail
          go_round
          case rel => exact ⟨8, by omega, by first | rfl | go_num, fun j hj => if h : j < 7 then HJ.out j h else by
            obtain rfl : j = 7 := by omega
            simp only [hxT]
            exact fun e => HB.out (Option.some.inj e)⟩
          case measure => simp [intOf]
      · have hx : (((⟨#[48, 49, 50, 51, 52, 53, 54, 55, 56, 57, 65, 66, 67, 68, 69, 70]⟩ : ByteArray)[8]'(by decide)).toNat : Int) = 56 := rfl
        by_cases hb : (56 : Int) = n
        · have HB := hid (show n - 56 = 0 by omega)
          go_wp2_with fail
          all_goals go_ret
          all_goals exact ⟨ret_int (by rw [HV.out]; (repeat' split) <;> omega), rfl⟩
        · have HB := hid hb
          have hb2 : ((56 : Int) == n) = false := by simpa using hb
          go_wp2_with fail
          go_round
          case rel => exact ⟨9, by omega, by first | rfl | go_num, fun j hj => if h : j < 8 then HJ.out j h else by
            obtain rfl : j = 8 := by omega
            simp only [hxT]
            exact fun e => HB.out (Option.some.inj e)⟩
          case measure => simp [intOf]
      · have hx : (((⟨#[48, 49, 50, 51, 52, 53, 54, 55, 56, 57, 65, 66, 67, 68, 69, 70]⟩ : ByteArray)[9]'(by decide)).toNat : Int) = 57 := rfl
        by_cases hb : (57 : Int) = n
        · have HB := hid (show n - 57 = 0 by omega)
          go_wp2_with fail
          all_goals go_ret
          all_goals exact ⟨ret_int (by rw [HV.out]; (repeat' split) <;> omega), rfl⟩
        · have HB := hid hb
          have hb2 : ((57 : Int) == n) = false := by simpa using hb
          go_wp2_with fail
          go_round
          case rel => exact ⟨10, by omega, by first | rfl | go_num, fun j hj => if h : j < 9 then HJ.out j h else by
            obtain rfl : j = 9 := by omega
            simp only [hxT]
            exact fun e => HB.out (Option.some.inj e)⟩
          case measure => simp [intOf]
      · have hx : (((⟨#[48, 49, 50, 51, 52, 53, 54, 55, 56, 57, 65, 66, 67, 68, 69, 70]⟩ : ByteArray)[10]'(by decide)).toNat : Int) = 65 := rfl
        by_cases hb : (65 : Int) = n
        · have HB := hid (show n - 65 = 0 by omega)
          go_wp2_with fail
          all_goals go_ret
          all_goals exact ⟨ret_int (by rw [HV.out]; (repeat' split) <;> omega), rfl⟩
        · have HB := hid hb
          have hb2 : ((65 : Int) == n) = false := by simpa using hb
          go_wp2_with fail
          go_round
          case rel => exact ⟨11, by omega, by first | rfl | go_num, fun j hj => if h : j < 10 then HJ.out j h else by
            obtain rfl : j = 10 := by omega
            simp only [hxT]
            exact fun e => HB.out (Option.some.inj e)⟩
          case measure => simp [intOf]
      · have hx : (((⟨#[48, 49, 50, 51, 52, 53, 54, 55, 56, 57, 65, 66, 67, 68, 69, 70]⟩ : ByteArray)[11]'(by decide)).toNat : Int) = 66 := rfl
        by_cases hb : (66 : Int) = n
        · have HB := hid (show n - 66 = 0 by omega)
          go_wp2_with fail
          all_goals go_ret
          all_goals exact ⟨ret_int (by rw [HV.out]; (repeat' split) <;> omega), rfl⟩
        · have HB := hid hb
          have hb2 : ((66 : Int) == n) = false := by simpa using hb
          go_wp2_with fail
          go_round
          case rel => exact ⟨12, by omega, by first | rfl | go_num, fun j hj => if h : j < 11 then HJ.out j h else by
            obtain rfl : j = 11 := by omega
            simp only [hxT]
            exact fun e => HB.out (Option.some.inj e)⟩
          case measure => simp [intOf]
      · have hx : (((⟨#[48, 49, 50, 51, 52, 53, 54, 55, 56, 57, 65, 66, 67, 68, 69, 70]⟩ : ByteArray)[12]'(by decide)).toNat : Int) = 67 := rfl
        by_cases hb : (67 : Int) = n
        · have HB := hid (show n - 67 = 0 by omega)
          go_wp2_with fail
          all_goals go_ret
          all_goals exact ⟨ret_int (by rw [HV.out]; (repeat' split) <;> omega), rfl⟩
        · have HB := hid hb
          have hb2 : ((67 : Int) == n) = false := by simpa using hb
          go_wp2_with fail
          go_round
          case rel => exact ⟨13, by omega, by first | rfl | go_num, fun j hj => if h : j < 12 then HJ.out j h else by
            obtain rfl : j = 12 := by omega
            simp only [hxT]
            exact fun e => HB.out (Option.some.inj e)⟩
          case measure => simp [intOf]
      · have hx : (((⟨#[48, 49, 50, 51, 52, 53, 54, 55, 56, 57, 65, 66, 67, 68, 69, 70]⟩ : ByteArray)[13]'(by decide)).toNat : Int) = 68 := rfl
        by_cases hb : (68 : Int) = n
        · have HB := hid (show n - 68 = 0 by omega)
          go_wp2_with fail
          all_goals go_ret
          all_goals exact ⟨ret_int (by rw [HV.out]; (repeat' split) <;> omega), rfl⟩
        · have HB := hid hb
          have hb2 : ((68 : Int) == n) = false := by simpa using hb
          go_wp2_with fail
          go_round
          case rel => exact ⟨14, by omega, by first | rfl | go_num, fun j hj => if h : j < 13 then HJ.out j h else by
            obtain rfl : j = 13 := by omega
            simp only [hxT]
            exact fun e => HB.out (Option.some.inj e)⟩
          case measure => simp [intOf]
      · have hx : (((⟨#[48, 49, 50, 51, 52, 53, 54, 55, 56, 57, 65, 66, 67, 68, 69, 70]⟩ : ByteArray)[14]'(by decide)).toNat : Int) = 69 := rfl
        by_cases hb : (69 : Int) = n
        · have HB := hid (show n - 69 = 0 by omega)
          go_wp2_with fail
          all_goals go_ret
          all_goals exact ⟨ret_int (by rw [HV.out]; (repeat' split) <;> omega), rfl⟩
        · have HB := hid hb
          have hb2 : ((69 : Int) == n) = false := by simpa using hb
          go_wp2_with fail
          go_round
          case rel => exact ⟨15, by omega, by first | rfl | go_num, fun j hj => if h : j < 14 then HJ.out j h else by
            obtain rfl : j = 14 := by omega
            simp only [hxT]
            exact fun e => HB.out (Option.some.inj e)⟩
          case measure => simp [intOf]
      · have hx : (((⟨#[48, 49, 50, 51, 52, 53, 54, 55, 56, 57, 65, 66, 67, 68, 69, 70]⟩ : ByteArray)[15]'(by decide)).toNat : Int) = 70 := rfl
        by_cases hb : (70 : Int) = n
        · have HB := hid (show n - 70 = 0 by omega)
          go_wp2_with fail
          all_goals go_ret
          all_goals exact ⟨ret_int (by rw [HV.out]; (repeat' split) <;> omega), rfl⟩
        · have HB := hid hb
          have hb2 : ((70 : Int) == n) = false := by simpa using hb
          go_wp2_with fail
          go_round
          case rel => exact ⟨16, by omega, by first | rfl | go_num, fun j hj => if h : j < 15 then HJ.out j h else by
            obtain rfl : j = 15 := by omega
            simp only [hxT]
            exact fun e => HB.out (Option.some.inj e)⟩
          case measure => simp [intOf]
end Go.Proofs.YtggojafapieliabDoor
