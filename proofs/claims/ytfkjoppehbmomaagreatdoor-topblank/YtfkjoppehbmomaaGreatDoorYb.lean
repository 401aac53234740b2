/-
  Joined: Rg, Ya, Yb.
-/
import Derived.Test.YtfkjoppehbmomaaGreatDoorRa
import Derived.Test.YtfkjoppehbmomaaGreatDoorKb
import Derived.Test.YtfkjoppehbmomaaGreatDoorRe
import Derived.Deep.QuietTactic
import Derived.BigQuiet
import Derived.Deep.RegionWith
import Derived.BigRegion

/-
  Reading: the digits of the document's answer.
-/
namespace Go.Proofs.YtfkjoppehbmomaaGreatDoor
open Go.RowKit
set_option maxRecDepth 100000

def hxT : List Int := [48, 49, 50, 51, 52, 53, 54, 55, 56, 57, 65, 66, 67, 68, 69, 70]
set_option maxHeartbeats 2000000 in
theorem rHex (c : UInt8) (w : World) :
    Calls Tryz.prog 16 #[.int .u8 (c.toNat : Int)] w fun e w' => e = .returned (.int .i64 (hexV c)) ∧ w' = w := by
  have hc := c.toNat_lt
  generalize hn : (c.toNat : Int) = n
  have h0 : 0 ≤ n := by omega
  have h1 : n < 256 := by omega
  have HV := hid (show hexV c = if 48 ≤ n ∧ n ≤ 57 then n - 48 else if 65 ≤ n ∧ n ≤ 70 then n - 55 else if 97 ≤ n ∧ n ≤ 102 then n - 87 else -1 by
    unfold hexV; subst hn; (repeat' split) <;> omega)
  clear hn hc
  go_enter Tryz.func16, Tryz.ntmps16
  by_cases a1 : 97 ≤ n
  · by_cases a2 : n ≤ 102
    · obtain ⟨m, rfl⟩ : ∃ m : Int, n = m + 32 := ⟨n - 32, by omega⟩
      go_wp2_with fail
      go_loop [3] (fun i => ∃ k : Nat, k ≤ 16 ∧ i = .int .i64 k ∧ ∀ j : Nat, j < k → hxT[j]? ≠ some m) (fun i => 16 - (intOf i).toNat)
      case atStart => exact ⟨0, by omega, rfl, fun j hj => by omega⟩
      case round =>
        obtain ⟨k, hk, rfl, hJ⟩ := hrel
        have HJ := hid hJ
        clear hJ
        have hk16 : k = 16 ∨ k = 0 ∨ k = 1 ∨ k = 2 ∨ k = 3 ∨ k = 4 ∨ k = 5 ∨ k = 6 ∨ k = 7 ∨ k = 8 ∨ k = 9 ∨ k = 10 ∨ k = 11 ∨ k = 12 ∨ k = 13 ∨ k = 14 ∨ k = 15 := by omega
        clear hk
        rcases hk16 with rfl | rfl | rfl | rfl | rfl | rfl | rfl | rfl | rfl | rfl | rfl | rfl | rfl | rfl | rfl | rfl | rfl
        · go_wp2_with fail
          go_ret
          refine ⟨ret_int ?_, rfl⟩
          have a0 := HJ.out 0 (by omega)
          have a1 := HJ.out 1 (by omega)
          have a2 := HJ.out 2 (by omega)
          have a3 := HJ.out 3 (by omega)
          have a4 := HJ.out 4 (by omega)
          have a5 := HJ.out 5 (by omega)
          have a6 := HJ.out 6 (by omega)
          have a7 := HJ.out 7 (by omega)
          have a8 := HJ.out 8 (by omega)
          have a9 := HJ.out 9 (by omega)
          have a10 := HJ.out 10 (by omega)
          have a11 := HJ.out 11 (by omega)
          have a12 := HJ.out 12 (by omega)
          have a13 := HJ.out 13 (by omega)
          have a14 := HJ.out 14 (by omega)
          have a15 := HJ.out 15 (by omega)
          simp [hxT] at a0 a1 a2 a3 a4 a5 a6 a7 a8 a9 a10 a11 a12 a13 a14 a15
          rw [HV.out]
          (repeat' split) <;> omega
        · have hx : (((⟨#[48, 49, 50, 51, 52, 53, 54, 55, 56, 57, 65, 66, 67, 68, 69, 70]⟩ : ByteArray)[0]'(by decide)).toNat : Int) = 48 := rfl
          by_cases hb : (48 : Int) = m
          · have HB := hid (show m - 48 = 0 by omega)
            go_wp2_with fail
            all_goals go_ret
            all_goals exact ⟨ret_int (by rw [HV.out]; (repeat' split) <;> omega), rfl⟩
          · have HB := hid hb
            have hb2 : ((48 : Int) == m) = false := by simpa using hb
            go_wp2_with fail
            go_round
            case rel => exact ⟨1, by omega, by first | rfl | go_num, fun j hj => if h : j < 0 then HJ.out j h else by
              obtain rfl : j = 0 := by omega
              simp only [hxT]
              exact fun e => HB.out (Option.some.inj e)⟩
            case measure => simp [intOf]
        · have hx : (((⟨#[48, 49, 50, 51, 52, 53, 54, 55, 56, 57, 65, 66, 67, 68, 69, 70]⟩ : ByteArray)[1]'(by decide)).toNat : Int) = 49 := rfl
          by_cases hb : (49 : Int) = m
          · have HB := hid (show m - 49 = 0 by omega)
            go_wp2_with fail
            all_goals go_ret
            all_goals exact ⟨ret_int (by rw [HV.out]; (repeat' split) <;> omega), rfl⟩
          · have HB := hid hb
            have hb2 : ((49 : Int) == m) = false := by simpa using hb
            go_wp2_with fail
            go_round
            case rel => exact ⟨2, by omega, by first | rfl | go_num, fun j hj => if h : j < 1 then HJ.out j h else by
              obtain rfl : j = 1 := by omega
              simp only [hxT]
              exact fun e => HB.out (Option.some.inj e)⟩
            case measure => simp [intOf]
        · have hx : (((⟨#[48, 49, 50, 51, 52, 53, 54, 55, 56, 57, 65, 66, 67, 68, 69, 70]⟩ : ByteArray)[2]'(by decide)).toNat : Int) = 50 := rfl
          by_cases hb : (50 : Int) = m
          · have HB := hid (show m - 50 = 0 by omega)
            go_wp2_with fail
            all_goals go_ret
            all_goals exact ⟨ret_int (by rw [HV.out]; (repeat' split) <;> omega), rfl⟩
          · have HB := hid hb
            have hb2 : ((50 : Int) == m) = false := by simpa using hb
            go_wp2_with fail
            go_round
            case rel => exact ⟨3, by omega, by first | rfl | go_num, fun j hj => if h : j < 2 then HJ.out j h else by
              obtain rfl : j = 2 := by omega
              simp only [hxT]
              exact fun e => HB.out (Option.some.inj e)⟩
            case measure => simp [intOf]
        · have hx : (((⟨#[48, 49, 50, 51, 52, 53, 54, 55, 56, 57, 65, 66, 67, 68, 69, 70]⟩ : ByteArray)[3]'(by decide)).toNat : Int) = 51 := rfl
          by_cases hb : (51 : Int) = m
          · have HB := hid (show m - 51 = 0 by omega)
            go_wp2_with fail
            all_goals go_ret
            all_goals exact ⟨ret_int (by rw [HV.out]; (repeat' split) <;> omega), rfl⟩
          · have HB := hid hb
            have hb2 : ((51 : Int) == m) = false := by simpa using hb
            go_wp2_with fail
            go_round
            case rel => exact ⟨4, by omega, by first | rfl | go_num, fun j hj => if h : j < 3 then HJ.out j h else by
              obtain rfl : j = 3 := by omega
              simp only [hxT]
              exact fun e => HB.out (Option.some.inj e)⟩
            case measure => simp [intOf]
        · have hx : (((⟨#[48, 49, 50, 51, 52, 53, 54, 55, 56, 57, 65, 66, 67, 68, 69, 70]⟩ : ByteArray)[4]'(by decide)).toNat : Int) = 52 := rfl
          by_cases hb : (52 : Int) = m
          · have HB := hid (show m - 52 = 0 by omega)
            go_wp2_with fail
            all_goals go_ret
            all_goals exact ⟨ret_int (by rw [HV.out]; (repeat' split) <;> omega), rfl⟩
          · have HB := hid hb
            have hb2 : ((52 : Int) == m) = false := by simpa using hb
            go_wp2_with fail
            go_round
            case rel => exact ⟨5, by omega, by first | rfl | go_num, fun j hj => if h : j < 4 then HJ.out j h else by
              obtain rfl : j = 4 := by omega
              simp only [hxT]
              exact fun e => HB.out (Option.some.inj e)⟩
            case measure => simp [intOf]
        · have hx : (((⟨#[48, 49, 50, 51, 52, 53, 54, 55, 56, 57, 65, 66, 67, 68, 69, 70]⟩ : ByteArray)[5]'(by decide)).toNat : Int) = 53 := rfl
          by_cases hb : (53 : Int) = m
          · have HB := hid (show m - 53 = 0 by omega)
            go_wp2_with fail
            all_goals go_ret
            all_goals exact ⟨ret_int (by rw [HV.out]; (repeat' split) <;> omega), rfl⟩
          · have HB := hid hb
            have hb2 : ((53 : Int) == m) = false := by simpa using hb
            go_wp2_with fail
            go_round
            case rel => exact ⟨6, by omega, by first | rfl | go_num, fun j hj => if h : j < 5 then HJ.out j h else by
              obtain rfl : j = 5 := by omega
              simp only [hxT]
              exact fun e => HB.out (Option.some.inj e)⟩
            case measure => simp [intOf]
        · have hx : (((⟨#[48, 49, 50, 51, 52, 53, 54, 55, 56, 57, 65, 66, 67, 68, 69, 70]⟩ : ByteArray)[6]'(by decide)).toNat : Int) = 54 := rfl
          by_cases hb : (54 : Int) = m
          · have HB := hid (show m - 54 = 0 by omega)
            go_wp2_with fail
            all_goals go_ret
            all_goals exact ⟨ret_int (by rw [HV.out]; (repeat' split) <;> omega), rfl⟩
          · have HB := hid hb
            have hb2 : ((54 : Int) == m) = false := by simpa using hb
            go_wp2_with fail
            go_round
            case rel => exact ⟨7, by omega, by first | rfl | go_num, fun j hj => if h : j < 6 then HJ.out j h else by
              obtain rfl : j = 6 := by omega
              simp only [hxT]
              exact fun e => HB.out (Option.some.inj e)⟩
            case measure => simp [intOf]
        · have hx : (((⟨#[48, 49, 50, 51, 52, 53, 54, 55, 56, 57, 65, 66, 67, 68, 69, 70]⟩ : ByteArray)[7]'(by decide)).toNat : Int) = 55 := rfl
          by_cases hb : (55 : Int) = m
          · have HB := hid (show m - 55 = 0 by omega)
            go_wp2_with fail
            all_goals go_ret
            all_goals exact ⟨ret_int (by rw [HV.out]; (repeat' split) <;> omega), rfl⟩
          · have HB := hid hb
            have hb2 : ((55 : Int) == m) = false := by simpa using hb
            go_wp2_with fail
            go_round
            case rel => exact ⟨8, by omega, by first | rfl | go_num, fun j hj => if h : j < 7 then HJ.out j h else by
              obtain rfl : j = 7 := by omega
              simp only [hxT]
              exact fun e => HB.out (Option.some.inj e)⟩
            case measure => simp [intOf]
        · have hx : (((⟨#[48, 49, 50, 51, 52, 53, 54, 55, 56, 57, 65, 66, 67, 68, 69, 70]⟩ : ByteArray)[8]'(by decide)).toNat : Int) = 56 := rfl
          by_cases hb : (56 : Int) = m
          · have HB := hid (show m - 56 = 0 by omega)
            go_wp2_with fail
            all_goals go_ret
            all_goals exact ⟨ret_int (by rw [HV.out]; (repeat' split) <;> omega), rfl⟩
          · have HB := hid hb
            have hb2 : ((56 : Int) == m) = false := by simpa using hb
            go_wp2_with fail
            go_round
            case rel => exact ⟨9, by omega, by first | rfl | go_num, fun j hj => if h : j < 8 then HJ.out j h else by
              obtain rfl : j = 8 := by omega
              simp only [hxT]
              exact fun e => HB.out (Option.some.inj e)⟩
            case measure => simp [intOf]
        · have hx : (((⟨#[48, 49, 50, 51, 52, 53, 54, 55, 56, 57, 65, 66, 67, 68, 69, 70]⟩ : ByteArray)[9]'(by decide)).toNat : Int) = 57 := rfl
          by_cases hb : (57 : Int) = m
          · have HB := hid (show m - 57 = 0 by omega)
            go_wp2_with fail
            all_goals go_ret
            all_goals exact ⟨ret_int (by rw [HV.out]; (repeat' split) <;> omega), rfl⟩
          · have HB := hid hb
            have hb2 : ((57 : Int) == m) = false := by simpa using hb
            go_wp2_with fail
            go_round
            case rel => exact ⟨10, by omega, by first | rfl | go_num, fun j hj => if h : j < 9 then HJ.out j h else by
              obtain rfl : j = 9 := by omega
              simp only [hxT]
              exact fun e => HB.out (Option.some.inj e)⟩
            case measure => simp [intOf]
        · have hx : (((⟨#[48, 49, 50, 51, 52, 53, 54, 55, 56, 57, 65, 66, 67, 68, 69, 70]⟩ : ByteArray)[10]'(by decide)).toNat : Int) = 65 := rfl
          by_cases hb : (65 : Int) = m
          · have HB := hid (show m - 65 = 0 by omega)
            go_wp2_with fail
            all_goals go_ret
            all_goals exact ⟨ret_int (by rw [HV.out]; (repeat' split) <;> omega), rfl⟩
          · have HB := hid hb
            have hb2 : ((65 : Int) == m) = false := by simpa using hb
            go_wp2_with fail
            go_round
            case rel => exact ⟨11, by omega, by first | rfl | go_num, fun j hj => if h : j < 10 then HJ.out j h else by
              obtain rfl : j = 10 := by omega
              simp only [hxT]
              exact fun e => HB.out (Option.some.inj e)⟩
            case measure => simp [intOf]
        · have hx : (((⟨#[48, 49, 50, 51, 52, 53, 54, 55, 56, 57, 65, 66, 67, 68, 69, 70]⟩ : ByteArray)[11]'(by decide)).toNat : Int) = 66 := rfl
          by_cases hb : (66 : Int) = m
          · have HB := hid (show m - 66 = 0 by omega)
            go_wp2_with fail
            all_goals go_ret
            all_goals exact ⟨ret_int (by rw [HV.out]; (repeat' split) <;> omega), rfl⟩
          · have HB := hid hb
            have hb2 : ((66 : Int) == m) = false := by simpa using hb
            go_wp2_with fail
            go_round
            case rel => exact ⟨12, by omega, by first | rfl | go_num, fun j hj => if h : j < 11 then HJ.out j h else by
              obtain rfl : j = 11 := by omega
              simp only [hxT]
              exact fun e => HB.out (Option.some.inj e)⟩
            case measure => simp [intOf]
        · have hx : (((⟨#[48, 49, 50, 51, 52, 53, 54, 55, 56, 57, 65, 66, 67, 68, 69, 70]⟩ : ByteArray)[12]'(by decide)).toNat : Int) = 67 := rfl
          by_cases hb : (67 : Int) = m
          · have HB := hid (show m - 67 = 0 by omega)
            go_wp2_with fail
            all_goals go_ret
            all_goals exact ⟨ret_int (by rw [HV.out]; (repeat' split) <;> omega), rfl⟩
          · have HB := hid hb
            have hb2 : ((67 : Int) == m) = false := by simpa using hb
            go_wp2_with fail
            go_round
            case rel => exact ⟨13, by omega, by first | rfl | go_num, fun j hj => if h : j < 12 then HJ.out j h else by
              obtain rfl : j = 12 := by omega
              simp only [hxT]
              exact fun e => HB.out (Option.some.inj e)⟩
            case measure => simp [intOf]
        · have hx : (((⟨#[48, 49, 50, 51, 52, 53, 54, 55, 56, 57, 65, 66, 67, 68, 69, 70]⟩ : ByteArray)[13]'(by decide)).toNat : Int) = 68 := rfl
          by_cases hb : (68 : Int) = m
          · have HB := hid (show m - 68 = 0 by omega)
            go_wp2_with fail
            all_goals go_ret
            all_goals exact ⟨ret_int (by rw [HV.out]; (repeat' split) <;> omega), rfl⟩
          · have HB := hid hb
            have hb2 : ((68 : Int) == m) = false := by simpa using hb
            go_wp2_with fail
            go_round
            case rel => exact ⟨14, by omega, by first | rfl | go_num, fun j hj => if h : j < 13 then HJ.out j h else by
              obtain rfl : j = 13 := by omega
              simp only [hxT]
              exact fun e => HB.out (Option.some.inj e)⟩
            case measure => simp [intOf]
        · have hx : (((⟨#[48, 49, 50, 51, 52, 53, 54, 55, 56, 57, 65, 66, 67, 68, 69, 70]⟩ : ByteArray)[14]'(by decide)).toNat : Int) = 69 := rfl
          by_cases hb : (69 : Int) = m
          · have HB := hid (show m - 69 = 0 by omega)
            go_wp2_with fail
            all_goals go_ret
            all_goals exact ⟨ret_int (by rw [HV.out]; (repeat' split) <;> omega), rfl⟩
          · have HB := hid hb
            have hb2 : ((69 : Int) == m) = false := by simpa using hb
            go_wp2_with fail
            go_round
            case rel => exact ⟨15, by omega, by first | rfl | go_num, fun j hj => if h : j < 14 then HJ.out j h else by
              obtain rfl : j = 14 := by omega
              simp only [hxT]
              exact fun e => HB.out (Option.some.inj e)⟩
            case measure => simp [intOf]
        · have hx : (((⟨#[48, 49, 50, 51, 52, 53, 54, 55, 56, 57, 65, 66, 67, 68, 69, 70]⟩ : ByteArray)[15]'(by decide)).toNat : Int) = 70 := rfl
          by_cases hb : (70 : Int) = m
          · have HB := hid (show m - 70 = 0 by omega)
            go_wp2_with fail
            all_goals go_ret
            all_goals exact ⟨ret_int (by rw [HV.out]; (repeat' split) <;> omega), rfl⟩
          · have HB := hid hb
            have hb2 : ((70 : Int) == m) = false := by simpa using hb
            go_wp2_with fail
            go_round
            case rel => exact ⟨16, by omega, by first | rfl | go_num, fun j hj => if h : j < 15 then HJ.out j h else by
              obtain rfl : j = 15 := by omega
              simp only [hxT]
              exact fun e => HB.out (Option.some.inj e)⟩
            case measure => simp [intOf]
    · skip
      go_wp2_with fail
      go_loop [3] (fun i => ∃ k : Nat, k ≤ 16 ∧ i = .int .i64 k ∧ ∀ j : Nat, j < k → hxT[j]? ≠ some n) (fun i => 16 - (intOf i).toNat)
      case atStart => exact ⟨0, by omega, rfl, fun j hj => by omega⟩
      case round =>
        obtain ⟨k, hk, rfl, hJ⟩ := hrel
        have HJ := hid hJ
        clear hJ
        have hk16 : k = 16 ∨ k = 0 ∨ k = 1 ∨ k = 2 ∨ k = 3 ∨ k = 4 ∨ k = 5 ∨ k = 6 ∨ k = 7 ∨ k = 8 ∨ k = 9 ∨ k = 10 ∨ k = 11 ∨ k = 12 ∨ k = 13 ∨ k = 14 ∨ k = 15 := by omega
        clear hk
        rcases hk16 with rfl | rfl | rfl | rfl | rfl | rfl | rfl | rfl | rfl | rfl | rfl | rfl | rfl | rfl | rfl | rfl | rfl
        · go_wp2_with fail
          go_ret
          refine ⟨ret_int ?_, rfl⟩
          have a0 := HJ.out 0 (by omega)
          have a1 := HJ.out 1 (by omega)
          have a2 := HJ.out 2 (by omega)
          have a3 := HJ.out 3 (by omega)
          have a4 := HJ.out 4 (by omega)
          have a5 := HJ.out 5 (by omega)
          have a6 := HJ.out 6 (by omega)
          have a7 := HJ.out 7 (by omega)
          have a8 := HJ.out 8 (by omega)
          have a9 := HJ.out 9 (by omega)
          have a10 := HJ.out 10 (by omega)
          have a11 := HJ.out 11 (by omega)
          have a12 := HJ.out 12 (by omega)
          have a13 := HJ.out 13 (by omega)
          have a14 := HJ.out 14 (by omega)
          have a15 := HJ.out 15 (by omega)
          simp [hxT] at a0 a1 a2 a3 a4 a5 a6 a7 a8 a9 a10 a11 a12 a13 a14 a15
          rw [HV.out]
          (repeat' split) <;> omega
        · have hx : (((⟨#[48, 49, 50, 51, 52, 53, 54, 55, 56, 57, 65, 66, 67, 68, 69, 70]⟩ : ByteArray)[0]'(by decide)).toNat : Int) = 48 := rfl
          by_cases hb : (48 : Int) = n
          · have HB := hid (show n - 48 = 0 by omega)
            go_wp2_with fail
            all_goals go_ret
            all_goals exact ⟨ret_int (by rw [HV.out]; (repeat' split) <;> omega), rfl⟩
          · have HB := hid hb
            have hb2 : ((48 : Int) == n) = false := by simpa using hb
            go_wp2_with fail
            go_round
            case rel => exact ⟨1, by omega, by first | rfl | go_num, fun j hj => if h : j < 0 then HJ.out j h else by
              obtain rfl : j = 0 := by omega
              simp only [hxT]
              exact fun e => HB.out (Option.some.inj e)⟩
            case measure => simp [intOf]
        · have hx : (((⟨#[48, 49, 50, 51, 52, 53, 54, 55, 56, 57, 65, 66, 67, 68, 69, 70]⟩ : ByteArray)[1]'(by decide)).toNat : Int) = 49 := rfl
          by_cases hb : (49 : Int) = n
          · have HB := hid (show n - 49 = 0 by omega)
            go_wp2_with fail
            all_goals go_ret
            all_goals exact ⟨ret_int (by rw [HV.out]; (repeat' split) <;> omega), rfl⟩
          · have HB := hid hb
            have hb2 : ((49 : Int) == n) = false := by simpa using hb
            go_wp2_with fail
            go_round
            case rel => exact ⟨2, by omega, by first | rfl | go_num, fun j hj => if h : j < 1 then HJ.out j h else by
              obtain rfl : j = 1 := by omega
              simp only [hxT]
              exact fun e => HB.out (Option.some.inj e)⟩
            case measure => simp [intOf]
        · have hx : (((⟨#[48, 49, 50, 51, 52, 53, 54, 55, 56, 57, 65, 66, 67, 68, 69, 70]⟩ : ByteArray)[2]'(by decide)).toNat : Int) = 50 := rfl
          by_cases hb : (50 : Int) = n
          · have HB := hid (show n - 50 = 0 by omega)
            go_wp2_with fail
            all_goals go_ret
            all_goals exact ⟨ret_int (by rw [HV.out]; (repeat' split) <;> omega), rfl⟩
          · have HB := hid hb
            have hb2 : ((50 : Int) == n) = false := by simpa using hb
            go_wp2_with fail
            go_round
            case rel => exact ⟨3, by omega, by first | rfl | go_num, fun j hj => if h : j < 2 then HJ.out j h else by
              obtain rfl : j = 2 := by omega
              simp only [hxT]
              exact fun e => HB.out (Option.some.inj e)⟩
            case measure => simp [intOf]
        · have hx : (((⟨#[48, 49, 50, 51, 52, 53, 54, 55, 56, 57, 65, 66, 67, 68, 69, 70]⟩ : ByteArray)[3]'(by decide)).toNat : Int) = 51 := rfl
          by_cases hb : (51 : Int) = n
          · have HB := hid (show n - 51 = 0 by omega)
            go_wp2_with fail
            all_goals go_ret
            all_goals exact ⟨ret_int (by rw [HV.out]; (repeat' split) <;> omega), rfl⟩
          · have HB := hid hb
            have hb2 : ((51 : Int) == n) = false := by simpa using hb
            go_wp2_with fail
            go_round
            case rel => exact ⟨4, by omega, by first | rfl | go_num, fun j hj => if h : j < 3 then HJ.out j h else by
              obtain rfl : j = 3 := by omega
              simp only [hxT]
              exact fun e => HB.out (Option.some.inj e)⟩
            case measure => simp [intOf]
        · have hx : (((⟨#[48, 49, 50, 51, 52, 53, 54, 55, 56, 57, 65, 66, 67, 68, 69, 70]⟩ : ByteArray)[4]'(by decide)).toNat : Int) = 52 := rfl
          by_cases hb : (52 : Int) = n
          · have HB := hid (show n - 52 = 0 by omega)
            go_wp2_with fail
            all_goals go_ret
            all_goals exact ⟨ret_int (by rw [HV.out]; (repeat' split) <;> omega), rfl⟩
          · have HB := hid hb
            have hb2 : ((52 : Int) == n) = false := by simpa using hb
            go_wp2_with fail
            go_round
            case rel => exact ⟨5, by omega, by first | rfl | go_num, fun j hj => if h : j < 4 then HJ.out j h else by
              obtain rfl : j = 4 := by omega
              simp only [hxT]
              exact fun e => HB.out (Option.some.inj e)⟩
            case measure => simp [intOf]
        · have hx : (((⟨#[48, 49, 50, 51, 52, 53, 54, 55, 56, 57, 65, 66, 67, 68, 69, 70]⟩ : ByteArray)[5]'(by decide)).toNat : Int) = 53 := rfl
          by_cases hb : (53 : Int) = n
          · have HB := hid (show n - 53 = 0 by omega)
            go_wp2_with fail
            all_goals go_ret
            all_goals exact ⟨ret_int (by rw [HV.out]; (repeat' split) <;> omega), rfl⟩
          · have HB := hid hb
            have hb2 : ((53 : Int) == n) = false := by simpa using hb
            go_wp2_with fail
            go_round
            case rel => exact ⟨6, by omega, by first | rfl | go_num, fun j hj => if h : j < 5 then HJ.out j h else by
              obtain rfl : j = 5 := by omega
              simp only [hxT]
              exact fun e => HB.out (Option.some.inj e)⟩
            case measure => simp [intOf]
        · have hx : (((⟨#[48, 49, 50, 51, 52, 53, 54, 55, 56, 57, 65, 66, 67, 68, 69, 70]⟩ : ByteArray)[6]'(by decide)).toNat : Int) = 54 := rfl
          by_cases hb : (54 : Int) = n
          · have HB := hid (show n - 54 = 0 by omega)
            go_wp2_with fail
            all_goals go_ret
            all_goals exact ⟨ret_int (by rw [HV.out]; (repeat' split) <;> omega), rfl⟩
          · have HB := hid hb
            have hb2 : ((54 : Int) == n) = false := by simpa using hb
            go_wp2_with fail
            go_round
            case rel => exact ⟨7, by omega, by first | rfl | go_num, fun j hj => if h : j < 6 then HJ.out j h else by
              obtain rfl : j = 6 := by omega
              simp only [hxT]
              exact fun e => HB.out (Option.some.inj e)⟩
            case measure => simp [intOf]
        · have hx : (((⟨#[48, 49, 50, 51, 52, 53, 54, 55, 56, 57, 65, 66, 67, 68, 69, 70]⟩ : ByteArray)[7]'(by decide)).toNat : Int) = 55 := rfl
          by_cases hb : (55 : Int) = n
          · have HB := hid (show n - 55 = 0 by omega)
            go_wp2_with fail
            all_goals go_ret
            all_goals exact ⟨ret_int (by rw [HV.out]; (repeat' split) <;> omega), rfl⟩
          · have HB := hid hb
            have hb2 : ((55 : Int) == n) = false := by simpa using hb
            go_wp2_with fail
            go_round
            case rel => exact ⟨8, by omega, by first | rfl | go_num, fun j hj => if h : j < 7 then HJ.out j h else by
              obtain rfl : j = 7 := by omega
              simp only [hxT]
              exact fun e => HB.out (Option.some.inj e)⟩
            case measure => simp [intOf]
        · have hx : (((⟨#[48, 49, 50, 51, 52, 53, 54, 55, 56, 57, 65, 66, 67, 68, 69, 70]⟩ : ByteArray)[8]'(by decide)).toNat : Int) = 56 := rfl
          by_cases hb : (56 : Int) = n
          · have HB := hid (show n - 56 = 0 by omega)
            go_wp2_with fail
            all_goals go_ret
            all_goals exact ⟨ret_int (by rw [HV.out]; (repeat' split) <;> omega), rfl⟩
          · have HB := hid hb
            have hb2 : ((56 : Int) == n) = false := by simpa using hb
            go_wp2_with fail
            go_round
            case rel => exact ⟨9, by omega, by first | rfl | go_num, fun j hj => if h : j < 8 then HJ.out j h else by
              obtain rfl : j = 8 := by omega
              simp only [hxT]
              exact fun e => HB.out (Option.some.inj e)⟩
            case measure => simp [intOf]
        · have hx : (((⟨#[48, 49, 50, 51, 52, 53, 54, 55, 56, 57, 65, 66, 67, 68, 69, 70]⟩ : ByteArray)[9]'(by decide)).toNat : Int) = 57 := rfl
          by_cases hb : (57 : Int) = n
          · have HB := hid (show n - 57 = 0 by omega)
            go_wp2_with fail
            all_goals go_ret
            all_goals exact ⟨ret_int (by rw [HV.out]; (repeat' split) <;> omega), rfl⟩
          · have HB := hid hb
            have hb2 : ((57 : Int) == n) = false := by simpa using hb
            go_wp2_with fail
            go_round
            case rel => exact ⟨10, by omega, by first | rfl | go_num, fun j hj => if h : j < 9 then HJ.out j h else by
              obtain rfl : j = 9 := by omega
              simp only [hxT]
              exact fun e => HB.out (Option.some.inj e)⟩
            case measure => simp [intOf]
        · have hx : (((⟨#[48, 49, 50, 51, 52, 53, 54, 55, 56, 57, 65, 66, 67, 68, 69, 70]⟩ : ByteArray)[10]'(by decide)).toNat : Int) = 65 := rfl
          by_cases hb : (65 : Int) = n
          · have HB := hid (show n - 65 = 0 by omega)
            go_wp2_with fail
            all_goals go_ret
            all_goals exact ⟨ret_int (by rw [HV.out]; (repeat' split) <;> omega), rfl⟩
          · have HB := hid hb
            have hb2 : ((65 : Int) == n) = false := by simpa using hb
            go_wp2_with fail
            go_round
            case rel => exact ⟨11, by omega, by first | rfl | go_num, fun j hj => if h : j < 10 then HJ.out j h else by
              obtain rfl : j = 10 := by omega
              simp only [hxT]
              exact fun e => HB.out (Option.some.inj e)⟩
            case measure => simp [intOf]
        · have hx : (((⟨#[48, 49, 50, 51, 52, 53, 54, 55, 56, 57, 65, 66, 67, 68, 69, 70]⟩ : ByteArray)[11]'(by decide)).toNat : Int) = 66 := rfl
          by_cases hb : (66 : Int) = n
          · have HB := hid (show n - 66 = 0 by omega)
            go_wp2_with fail
            all_goals go_ret
            all_goals exact ⟨ret_int (by rw [HV.out]; (repeat' split) <;> omega), rfl⟩
          · have HB := hid hb
            have hb2 : ((66 : Int) == n) = false := by simpa using hb
            go_wp2_with fail
            go_round
            case rel => exact ⟨12, by omega, by first | rfl | go_num, fun j hj => if h : j < 11 then HJ.out j h else by
              obtain rfl : j = 11 := by omega
              simp only [hxT]
              exact fun e => HB.out (Option.some.inj e)⟩
            case measure => simp [intOf]
        · have hx : (((⟨#[48, 49, 50, 51, 52, 53, 54, 55, 56, 57, 65, 66, 67, 68, 69, 70]⟩ : ByteArray)[12]'(by decide)).toNat : Int) = 67 := rfl
          by_cases hb : (67 : Int) = n
          · have HB := hid (show n - 67 = 0 by omega)
            go_wp2_with fail
            all_goals go_ret
            all_goals exact ⟨ret_int (by rw [HV.out]; (repeat' split) <;> omega), rfl⟩
          · have HB := hid hb
            have hb2 : ((67 : Int) == n) = false := by simpa using hb
            go_wp2_with fail
            go_round
            case rel => exact ⟨13, by omega, by first | rfl | go_num, fun j hj => if h : j < 12 then HJ.out j h else by
              obtain rfl : j = 12 := by omega
              simp only [hxT]
              exact fun e => HB.out (Option.some.inj e)⟩
            case measure => simp [intOf]
        · have hx : (((⟨#[48, 49, 50, 51, 52, 53, 54, 55, 56, 57, 65, 66, 67, 68, 69, 70]⟩ : ByteArray)[13]'(by decide)).toNat : Int) = 68 := rfl
          by_cases hb : (68 : Int) = n
          · have HB := hid (show n - 68 = 0 by omega)
            go_wp2_with fail
            all_goals go_ret
            all_goals exact ⟨ret_int (by rw [HV.out]; (repeat' split) <;> omega), rfl⟩
          · have HB := hid hb
            have hb2 : ((68 : Int) == n) = false := by simpa using hb
            go_wp2_with fail
            go_round
            case rel => exact ⟨14, by omega, by first | rfl | go_num, fun j hj => if h : j < 13 then HJ.out j h else by
              obtain rfl : j = 13 := by omega
              simp only [hxT]
              exact fun e => HB.out (Option.some.inj e)⟩
            case measure => simp [intOf]
        · have hx : (((⟨#[48, 49, 50, 51, 52, 53, 54, 55, 56, 57, 65, 66, 67, 68, 69, 70]⟩ : ByteArray)[14]'(by decide)).toNat : Int) = 69 := rfl
          by_cases hb : (69 : Int) = n
          · have HB := hid (show n - 69 = 0 by omega)
            go_wp2_with fail
            all_goals go_ret
            all_goals exact ⟨ret_int (by rw [HV.out]; (repeat' split) <;> omega), rfl⟩
          · have HB := hid hb
            have hb2 : ((69 : Int) == n) = false := by simpa using hb
            go_wp2_with fail
            go_round
            case rel => exact ⟨15, by omega, by first | rfl | go_num, fun j hj => if h : j < 14 then HJ.out j h else by
              obtain rfl : j = 14 := by omega
              simp only [hxT]
              exact fun e => HB.out (Option.some.inj e)⟩
            case measure => simp [intOf]
        · have hx : (((⟨#[48, 49, 50, 51, 52, 53, 54, 55, 56, 57, 65, 66, 67, 68, 69, 70]⟩ : ByteArray)[15]'(by decide)).toNat : Int) = 70 := rfl
          by_cases hb : (70 : Int) = n
          · have HB := hid (show n - 70 = 0 by omega)
            go_wp2_with fail
            all_goals go_ret
            all_goals exact ⟨ret_int (by rw [HV.out]; (repeat' split) <;> omega), rfl⟩
          · have HB := hid hb
            have hb2 : ((70 : Int) == n) = false := by simpa using hb
            go_wp2_with fail
            go_round
            case rel => exact ⟨16, by omega, by first | rfl | go_num, fun j hj => if h : j < 15 then HJ.out j h else by
              obtain rfl : j = 15 := by omega
              simp only [hxT]
              exact fun e => HB.out (Option.some.inj e)⟩
            case measure => simp [intOf]
  · skip
    go_wp2_with fail
    go_loop [3] (fun i => ∃ k : Nat, k ≤ 16 ∧ i = .int .i64 k ∧ ∀ j : Nat, j < k → hxT[j]? ≠ some n) (fun i => 16 - (intOf i).toNat)
    case atStart => exact ⟨0, by omega, rfl, fun j hj => by omega⟩
    case round =>
      obtain ⟨k, hk, rfl, hJ⟩ := hrel
      have HJ := hid hJ
      clear hJ
      have hk16 : k = 16 ∨ k = 0 ∨ k = 1 ∨ k = 2 ∨ k = 3 ∨ k = 4 ∨ k = 5 ∨ k = 6 ∨ k = 7 ∨ k = 8 ∨ k = 9 ∨ k = 10 ∨ k = 11 ∨ k = 12 ∨ k = 13 ∨ k = 14 ∨ k = 15 := by omega
      clear hk
      rcases hk16 with rfl | rfl | rfl | rfl | rfl | rfl | rfl | rfl | rfl | rfl | rfl | rfl | rfl | rfl | rfl | rfl | rfl
      · go_wp2_with fail
        go_ret
        refine ⟨ret_int ?_, rfl⟩
        have a0 := HJ.out 0 (by omega)
        have a1 := HJ.out 1 (by omega)
        have a2 := HJ.out 2 (by omega)
        have a3 := HJ.out 3 (by omega)
        have a4 := HJ.out 4 (by omega)
        have a5 := HJ.out 5 (by omega)
        have a6 := HJ.out 6 (by omega)
        have a7 := HJ.out 7 (by omega)
        have a8 := HJ.out 8 (by omega)
        have a9 := HJ.out 9 (by omega)
        have a10 := HJ.out 10 (by omega)
        have a11 := HJ.out 11 (by omega)
        have a12 := HJ.out 12 (by omega)
        have a13 := HJ.out 13 (by omega)
        have a14 := HJ.out 14 (by omega)
        have a15 := HJ.out 15 (by omega)
        simp [hxT] at a0 a1 a2 a3 a4 a5 a6 a7 a8 a9 a10 a11 a12 a13 a14 a15
        rw [HV.out]
        (repeat' split) <;> omega
      · have hx : (((⟨#[48, 49, 50, 51, 52, 53, 54, 55, 56, 57, 65, 66, 67, 68, 69, 70]⟩ : ByteArray)[0]'(by decide)).toNat : Int) = 48 := rfl
        by_cases hb : (48 : Int) = n
        · have HB := hid (show n - 48 = 0 by omega)
          go_wp2_with fail
          all_goals go_ret
          all_goals exact ⟨ret_int (by rw [HV.out]; (repeat' split) <;> omega), rfl⟩
        · have HB := hid hb
          have hb2 : ((48 : Int) == n) = false := by simpa using hb
          go_wp2_with fail
          go_round
          case rel => exact ⟨1, by omega, by first | rfl | go_num, fun j hj => if h : j < 0 then HJ.out j h else by
            obtain rfl : j = 0 := by omega
            simp only [hxT]
            exact fun e => HB.out (Option.some.inj e)⟩
          case measure => simp [intOf]
      · have hx : (((⟨#[48, 49, 50, 51, 52, 53, 54, 55, 56, 57, 65, 66, 67, 68, 69, 70]⟩ : ByteArray)[1]'(by decide)).toNat : Int) = 49 := rfl
        by_cases hb : (49 : Int) = n
        · have HB := hid (show n - 49 = 0 by omega)
          go_wp2_with fail
          all_goals go_ret
          all_goals exact ⟨ret_int (by rw [HV.out]; (repeat' split) <;> omega), rfl⟩
        · have HB := hid hb
          have hb2 : ((49 : Int) == n) = false := by simpa using hb
          go_wp2_with fail
          go_round
          case rel => exact ⟨2, by omega, by first | rfl | go_num, fun j hj => if h : j < 1 then HJ.out j h else by
            obtain rfl : j = 1 := by omega
            simp only [hxT]
            exact fun e => HB.out (Option.some.inj e)⟩
          case measure => simp [intOf]
      · have hx : (((⟨#[48, 49, 50, 51, 52, 53, 54, 55, 56, 57, 65, 66, 67, 68, 69, 70]⟩ : ByteArray)[2]'(by decide)).toNat : Int) = 50 := rfl
        by_cases hb : (50 : Int) = n
        · have HB := hid (show n - 50 = 0 by omega)
          go_wp2_with fail
          all_goals go_ret
          all_goals exact ⟨ret_int (by rw [HV.out]; (repeat' split) <;> omega), rfl⟩
        · have HB := hid hb
          have hb2 : ((50 : Int) == n) = false := by simpa using hb
          go_wp2_with fail
          go_round
          case rel => exact ⟨3, by omega, by first | rfl | go_num, fun j hj => if h : j < 2 then HJ.out j h else by
            obtain rfl : j = 2 := by omega
            simp only [hxT]
            exact fun e => HB.out (Option.some.inj e)⟩
          case measure => simp [intOf]
      · have hx : (((⟨#[48, 49, 50, 51, 52, 53, 54, 55, 56, 57, 65, 66, 67, 68, 69, 70]⟩ : ByteArray)[3]'(by decide)).toNat : Int) = 51 := rfl
        by_cases hb : (51 : Int) = n
        · have HB := hid (show n - 51 = 0 by omega)
          go_wp2_with fail
          all_goals go_ret
          all_goals exact ⟨ret_int (by rw [HV.out]; (repeat' split) <;> omega), rfl⟩
        · have HB := hid hb
          have hb2 : ((51 : Int) == n) = false := by simpa using hb
          go_wp2_with fail
          go_round
          case rel => exact ⟨4, by omega, by first | rfl | go_num, fun j hj => if h : j < 3 then HJ.out j h else by
            obtain rfl : j = 3 := by omega
            simp only [hxT]
            exact fun e => HB.out (Option.some.inj e)⟩
          case measure => simp [intOf]
      · have hx : (((⟨#[48, 49, 50, 51, 52, 53, 54, 55, 56, 57, 65, 66, 67, 68, 69, 70]⟩ : ByteArray)[4]'(by decide)).toNat : Int) = 52 := rfl
        by_cases hb : (52 : Int) = n
        · have HB := hid (show n - 52 = 0 by omega)
          go_wp2_with fail
          all_goals go_ret
          all_goals exact ⟨ret_int (by rw [HV.out]; (repeat' split) <;> omega), rfl⟩
        · have HB := hid hb
          have hb2 : ((52 : Int) == n) = false := by simpa using hb
          go_wp2_with fail
          go_round
          case rel => exact ⟨5, by omega, by first | rfl | go_num, fun j hj => if h : j < 4 then HJ.out j h else by
            obtain rfl : j = 4 := by omega
            simp only [hxT]
            exact fun e => HB.out (Option.some.inj e)⟩
          case measure => simp [intOf]
      · have hx : (((⟨#[48, 49, 50, 51, 52, 53, 54, 55, 56, 57, 65, 66, 67, 68, 69, 70]⟩ : ByteArray)[5]'(by decide)).toNat : Int) = 53 := rfl
        by_cases hb : (53 : Int) = n
        · have HB := hid (show n - 53 = 0 by omega)
          go_wp2_with fail
          all_goals go_ret
          all_goals exact ⟨ret_int (by rw [HV.out]; (repeat' split) <;> omega), rfl⟩
        · have HB := hid hb
          have hb2 : ((53 : Int) == n) = false := by simpa using hb
          go_wp2_with fail
          go_round
          case rel => exact ⟨6, by omega, by first | rfl | go_num, fun j hj => if h : j < 5 then HJ.out j h else by
            obtain rfl : j = 5 := by omega
            simp only [hxT]
            exact fun e => HB.out (Option.some.inj e)⟩
          case measure => simp [intOf]
      · have hx : (((⟨#[48, 49, 50, 51, 52, 53, 54, 55, 56, 57, 65, 66, 67, 68, 69, 70]⟩ : ByteArray)[6]'(by decide)).toNat : Int) = 54 := rfl
        by_cases hb : (54 : Int) = n
        · have HB := hid (show n - 54 = 0 by omega)
          go_wp2_with fail
          all_goals go_ret
          all_goals exact ⟨ret_int (by rw [HV.out]; (repeat' split) <;> omega), rfl⟩
        · have HB := hid hb
          have hb2 : ((54 : Int) == n) = false := by simpa using hb
          go_wp2_with fail
          go_round
          case rel => exact ⟨7, by omega, by first | rfl | go_num, fun j hj => if h : j < 6 then HJ.out j h else by
            obtain rfl : j = 6 := by omega
            simp only [hxT]
            exact fun e => HB.out (Option.some.inj e)⟩
          case measure => simp [intOf]
      · have hx : (((⟨#[48, 49, 50, 51, 52, 53, 54, 55, 56, 57, 65, 66, 67, 68, 69, 70]⟩ : ByteArray)[7]'(by decide)).toNat : Int) = 55 := rfl
        by_cases hb : (55 : Int) = n
        · have HB := hid (show n - 55 = 0 by omega)
          go_wp2_with fail
          all_goals go_ret
          all_goals exact ⟨ret_int (by rw [HV.out]; (repeat' split) <;> omega), rfl⟩
        · have HB := hid hb
          have hb2 : ((55 : Int) == n) = false := by simpa using hb
          go_wp2_with fail
          go_round
          case rel => exact ⟨8, by omega, by first | rfl | go_num, fun j hj => if h : j < 7 then HJ.out j h else by
            obtain rfl : j = 7 := by omega
            simp only [hxT]
            exact fun e => HB.out (Option.some.inj e)⟩
          case measure => simp [intOf]
      · have hx : (((⟨#[48, 49, 50, 51, 52, 53, 54, 55, 56, 57, 65, 66, 67, 68, 69, 70]⟩ : ByteArray)[8]'(by decide)).toNat : Int) = 56 := rfl
        by_cases hb : (56 : Int) = n
        · have HB := hid (show n - 56 = 0 by omega)
          go_wp2_with fail
          all_goals go_ret
          all_goals exact ⟨ret_int (by rw [HV.out]; (repeat' split) <;> omega), rfl⟩
        · have HB := hid hb
          have hb2 : ((56 : Int) == n) = false := by simpa using hb
          go_wp2_with fail
          go_round
          case rel => exact ⟨9, by omega, by first | rfl | go_num, fun j hj => if h : j < 8 then HJ.out j h else by
            obtain rfl : j = 8 := by omega
            simp only [hxT]
            exact fun e => HB.out (Option.some.inj e)⟩
          case measure => simp [intOf]
      · have hx : (((⟨#[48, 49, 50, 51, 52, 53, 54, 55, 56, 57, 65, 66, 67, 68, 69, 70]⟩ : ByteArray)[9]'(by decide)).toNat : Int) = 57 := rfl
        by_cases hb : (57 : Int) = n
        · have HB := hid (show n - 57 = 0 by omega)
          go_wp2_with fail
          all_goals go_ret
          all_goals exact ⟨ret_int (by rw [HV.out]; (repeat' split) <;> omega), rfl⟩
        · have HB := hid hb
          have hb2 : ((57 : Int) == n) = false := by simpa using hb
          go_wp2_with fail
          go_round
          case rel => exact ⟨10, by omega, by first | rfl | go_num, fun j hj => if h : j < 9 then HJ.out j h else by
            obtain rfl : j = 9 := by omega
            simp only [hxT]
            exact fun e => HB.out (Option.some.inj e)⟩
          case measure => simp [intOf]
      · have hx : (((⟨#[48, 49, 50, 51, 52, 53, 54, 55, 56, 57, 65, 66, 67, 68, 69, 70]⟩ : ByteArray)[10]'(by decide)).toNat : Int) = 65 := rfl
        by_cases hb : (65 : Int) = n
        · have HB := hid (show n - 65 = 0 by omega)
          go_wp2_with fail
          all_goals go_ret
          all_goals exact ⟨ret_int (by rw [HV.out]; (repeat' split) <;> omega), rfl⟩
        · have HB := hid hb
          have hb2 : ((65 : Int) == n) = false := by simpa using hb
          go_wp2_with fail
          go_round
          case rel => exact ⟨11, by omega, by first | rfl | go_num, fun j hj => if h : j < 10 then HJ.out j h else by
            obtain rfl : j = 10 := by omega
            simp only [hxT]
            exact fun e => HB.out (Option.some.inj e)⟩
          case measure => simp [intOf]
      · have hx : (((⟨#[48, 49, 50, 51, 52, 53, 54, 55, 56, 57, 65, 66, 67, 68, 69, 70]⟩ : ByteArray)[11]'(by decide)).toNat : Int) = 66 := rfl
        by_cases hb : (66 : Int) = n
        · have HB := hid (show n - 66 = 0 by omega)
          go_wp2_with fail
          all_goals go_ret
          all_goals exact ⟨ret_int (by rw [HV.out]; (repeat' split) <;> omega), rfl⟩
        · have HB := hid hb
          have hb2 : ((66 : Int) == n) = false := by simpa using hb
          go_wp2_with fail
          go_round
          case rel => exact ⟨12, by omega, by first | rfl | go_num, fun j hj => if h : j < 11 then HJ.out j h else by
            obtain rfl : j = 11 := by omega
            simp only [hxT]
            exact fun e => HB.out (Option.some.inj e)⟩
          case measure => simp [intOf]
      · have hx : (((⟨#[48, 49, 50, 51, 52, 53, 54, 55, 56, 57, 65, 66, 67, 68, 69, 70]⟩ : ByteArray)[12]'(by decide)).toNat : Int) = 67 := rfl
        by_cases hb : (67 : Int) = n
        · have HB := hid (show n - 67 = 0 by omega)
          go_wp2_with fail
          all_goals go_ret
          all_goals exact ⟨ret_int (by rw [HV.out]; (repeat' split) <;> omega), rfl⟩
        · have HB := hid hb
          have hb2 : ((67 : Int) == n) = false := by simpa using hb
          go_wp2_with fail
          go_round
          case rel => exact ⟨13, by omega, by first | rfl | go_num, fun j hj => if h : j < 12 then HJ.out j h else by
            obtain rfl : j = 12 := by omega
            simp only [hxT]
            exact fun e => HB.out (Option.some.inj e)⟩
          case measure => simp [intOf]
      · have hx : (((⟨#[48, 49, 50, 51, 52, 53, 54, 55, 56, 57, 65, 66, 67, 68, 69, 70]⟩ : ByteArray)[13]'(by decide)).toNat : Int) = 68 := rfl
        by_cases hb : (68 : Int) = n
        · have HB := hid (show n - 68 = 0 by omega)
          go_wp2_with fail
          all_goals go_ret
          all_goals exact ⟨ret_int (by rw [HV.out]; (repeat' split) <;> omega), rfl⟩
        · have HB := hid hb
          have hb2 : ((68 : Int) == n) = false := by simpa using hb
          go_wp2_with fail
          go_round
          case rel => exact ⟨14, by omega, by first | rfl | go_num, fun j hj => if h : j < 13 then HJ.out j h else by
            obtain rfl : j = 13 := by omega
            simp only [hxT]
            exact fun e => HB.out (Option.some.inj e)⟩
          case measure => simp [intOf]
      · have hx : (((⟨#[48, 49, 50, 51, 52, 53, 54, 55, 56, 57, 65, 66, 67, 68, 69, 70]⟩ : ByteArray)[14]'(by decide)).toNat : Int) = 69 := rfl
        by_cases hb : (69 : Int) = n
        · have HB := hid (show n - 69 = 0 by omega)
          go_wp2_with fail
          all_goals go_ret
          all_goals exact ⟨ret_int (by rw [HV.out]; (repeat' split) <;> omega), rfl⟩
        · have HB := hid hb
          have hb2 : ((69 : Int) == n) = false := by simpa using hb
          go_wp2_with fail
          go_round
          case rel => exact ⟨15, by omega, by first | rfl | go_num, fun j hj => if h : j < 14 then HJ.out j h else by
            obtain rfl : j = 14 := by omega
            simp only [hxT]
            exact fun e => HB.out (Option.some.inj e)⟩
          case measure => simp [intOf]
      · have hx : (((⟨#[48, 49, 50, 51, 52, 53, 54, 55, 56, 57, 65, 66, 67, 68, 69, 70]⟩ : ByteArray)[15]'(by decide)).toNat : Int) = 70 := rfl
        by_cases hb : (70 : Int) = n
        · have HB := hid (show n - 70 = 0 by omega)
          go_wp2_with fail
          all_goals go_ret
          all_goals exact ⟨ret_int (by rw [HV.out]; (repeat' split) <;> omega), rfl⟩
        · have HB := hid hb
          have hb2 : ((70 : Int) == n) = false := by simpa using hb
          go_wp2_with fail
          go_round
          case rel => exact ⟨16, by omega, by first | rfl | go_num, fun j hj => if h : j < 15 then HJ.out j h else by
            obtain rfl : j = 15 := by omega
            simp only [hxT]
            exact fun e => HB.out (Option.some.inj e)⟩
          case measure => simp [intOf]
end Go.Proofs.YtfkjoppehbmomaaGreatDoor

/-
  The program's reader: its small steps.
-/
namespace Go.Proofs.YtfkjoppehbmomaaGreatDoor
open Go.RowKit
set_option maxRecDepth 100000

/-- A reader in memory: its text, and how far it has come. -/
def RdAt (w : World) (P : Nat) (s : ByteArray) (k : Nat) : Prop := At w P 46 #[.string s, .int .i64 k]
/-- It has come that far; all else is as it was. -/
structure Moved (P : Nat) (w w' : World) (s : ByteArray) (k : Nat) : Prop where
  keep : KeepBut P w w'
  at_ : RdAt w' P s k
theorem RdAt.c0 {w : World} {P : Nat} {s : ByteArray} {k : Nat} (h : RdAt w P s k) : w.cell? ⟨P, 0, none⟩ = some (.string s) := At.cell h 0
theorem RdAt.c1 {w : World} {P : Nat} {s : ByteArray} {k : Nat} (h : RdAt w P s k) : w.cell? ⟨P, 1, none⟩ = some (.int .i64 k) := At.cell h 1
theorem RdAt.set {w : World} {P : Nat} {s : ByteArray} {k : Nat} (h : RdAt w P s k) (j : Nat) : RdAt (w.setCell ⟨P, 1, none⟩ (.int .i64 j)) P s j :=
  heap_setCell_same w P 1 _ _ (.int .i64 j) h
theorem RdAt.set' {w : World} {P : Nat} {s : ByteArray} {k : Nat} (h : RdAt w P s k) {i : Int} {j : Nat} (e : i = j) : RdAt (w.setCell ⟨P, 1, none⟩ (.int .i64 i)) P s j := by
  subst e; exact h.set j
theorem RdAt.drewN {w : World} {P : Nat} {s : ByteArray} {k : Nat} (h : RdAt w P s k) (n : Nat) : RdAt (w.drewN n) P s k := by
  induction n with
  | zero => exact h
  | succ n ih => exact ih
theorem Moved.refl {P : Nat} {w : World} {s : ByteArray} {k : Nat} (h : RdAt w P s k) : Moved P w w s k := ⟨KeepBut.refl _ _, h⟩
theorem Moved.trans {P : Nat} {a b c : World} {s : ByteArray} {k j : Nat} (h : Moved P a b s k) (g : Moved P b c s j) : Moved P a c s j := ⟨h.keep.trans g.keep, g.at_⟩
theorem Moved.drewN {P : Nat} {a b : World} {s : ByteArray} {k : Nat} (h : Moved P a b s k) (n : Nat) : Moved P a (b.drewN n) s k := ⟨h.keep.drewN n, h.at_.drewN n⟩
theorem Moved.drew {P : Nat} {a b : World} {s : ByteArray} {k : Nat} (h : Moved P a b s k) : Moved P a b.drew s k := ⟨h.keep.drew, h.at_⟩
theorem Moved.set {P : Nat} {a b : World} {s : ByteArray} {k : Nat} (h : Moved P a b s k) {i : Int} {j : Nat} (e : i = j) : Moved P a (b.setCell ⟨P, 1, none⟩ (.int .i64 i)) s j := ⟨h.keep.set 1 _, h.at_.set' e⟩
theorem place_in {s : ByteArray} {k : Nat} (h : k ≤ s.size) : place s (k : Int) = k := by unfold place; omega
theorem skipL_le : ∀ (l : List UInt8) (b : Bool), skipL l b ≤ l.length
  | [], _ => by simp [skipL]
  | c :: r, b => by
    unfold skipL
    split
    · simp
    · have := skipL_le r (c == 37 || (b && c != 10 && c != 13)); simp; omega
theorem skipP_le {s : ByteArray} {k : Nat} (h : k ≤ s.size) : k ≤ skipP s k ∧ skipP s k ≤ s.size := by
  unfold skipP
  have := skipL_le (s.data.toList.drop k) false
  simp at this
  omega
theorem pSkipN (s : ByteArray) (k : Nat) (w : World) (hk : k ≤ s.size) (hs : s.size ≤ 100000) :
    Calls Tryz.prog 11 #[.string s, .int .i64 k] w fun e w' => e = .returned (.int .i64 (skipP s k : Nat)) ∧ w' = w := by
  have q := pSkip s k w (by unfold maxLen; omega)
  rw [place_in hk] at q; exact q
theorem pWordN (s : ByteArray) (k : Nat) (w : World) (hk : k ≤ s.size) (hs : s.size ≤ 100000) :
    Calls Tryz.prog 13 #[.string s, .int .i64 k] w fun e w' => e = .returned (.string (wordP s k)) ∧ w' = w := by
  have q := pWord s k w (by unfold maxLen; omega)
  rw [place_in hk] at q; exact q
/-- What skipping tells: 5 at the end. -/
def skipE (s : ByteArray) (k : Nat) : Int := if skipP s k = s.size then 5 else 0
set_option maxHeartbeats 1000000 in
theorem yAhead (P : Nat) (s p : ByteArray) (k : Nat) (w : World) (hR : RdAt w P s k) (hk : k ≤ s.size) :
    Calls Tryz.prog 34 #[.pointer (some ⟨P, 0, none⟩), .string p] w fun e w' => e = .returned (.bool (Lib.hasPrefix (s.data.toList.drop k) p.data.toList)) ∧ Moved P w w' s k := by
  have c0 := hR.c0
  have c1 := hR.c1
  have hk0 : (0 : Int) ≤ k := by omega
  have hk1 : (k : Int) ≤ s.size := by omega
  have HX := hid (fun (w : World) => Tryz.strings_HasPrefix (s.extract k s.size) p w)
  go_enter Tryz.func34, Tryz.ntmps34
  go_wp2
  go_quiet ((go_at_call 65; exact Calls.quiet_of_same (HX.out _)))
  go_wp2
  go_ret
  refine ⟨ret_bool ?_, (Moved.refl hR).drewN _⟩
  have e : (s.extract k s.size).data.toList = s.data.toList.drop k := by
    rw [ByteArray.data_extract, Array.toList_extract, List.extract_eq_take_drop, List.take_of_length_le (by simp)]
  rw [e]
set_option maxHeartbeats 1000000 in
theorem ySkip (P : Nat) (s : ByteArray) (k : Nat) (w : World) (hR : RdAt w P s k) (hk : k ≤ s.size) (hs : s.size ≤ 100000) :
    Calls Tryz.prog 33 #[.pointer (some ⟨P, 0, none⟩)] w fun e w' => e = .returned (errN (skipE s k)) ∧ Moved P w w' s (skipP s k) := by
  have c0 := hR.c0
  have c1 := hR.c1
  have f1 := At.free hR 1
  have hkl := skipP_le hk
  have HP := hid (fun (w : World) => pSkipN s k w hk hs)
  have HE := hid (show skipE s k = if skipP s k = s.size then 5 else 0 from rfl)
  generalize skipP s k = j at *
  by_cases hj : j = s.size
  · have HE5 := hid (show skipE s k = 5 by rw [HE.out, if_pos hj])
    have hj' : ((j : Int) == (s.size : Int)) = true := by rw [hj]; simp
    go_enter Tryz.func33, Tryz.ntmps33
    go_wp2
    go_region_with (go_at_call 11; refine (HP.out _).mono ?_; rintro e w1 ⟨rfl, rfl⟩)
    all_goals
      go_wp2
      go_quiet (fail)
      go_wp2
      go_ret
      exact ⟨by rw [HE5.out]; rfl, by first | exact ((Moved.refl hR).set (by omega)).drewN _ | exact ((Moved.refl hR).set (by omega)).drew.drewN _⟩
  · have HE5 := hid (show skipE s k = 0 by rw [HE.out, if_neg hj])
    have hj' : ((j : Int) == (s.size : Int)) = false := by simpa using (show ¬ (j : Int) = s.size by omega)
    go_enter Tryz.func33, Tryz.ntmps33
    go_wp2
    go_region_with (go_at_call 11; refine (HP.out _).mono ?_; rintro e w1 ⟨rfl, rfl⟩)
    all_goals
      go_wp2
      go_quiet (fail)
      go_wp2
      go_ret
      exact ⟨by rw [HE5.out]; rfl, by first | exact ((Moved.refl hR).set (by omega)).drewN _ | exact ((Moved.refl hR).set (by omega)).drew.drewN _⟩
theorem wordL_le (l : List UInt8) : wordL l ≤ l.length := by
  unfold wordL; exact (List.takeWhile_sublist _).length_le
theorem wordP_size {s : ByteArray} {k : Nat} (h : k ≤ s.size) : (wordP s k).size = wordL (s.data.toList.drop k) ∧ k + (wordP s k).size ≤ s.size := by
  have := wordL_le (s.data.toList.drop k)
  simp at this
  unfold wordP
  rw [ByteArray.size_extract]
  omega
set_option maxHeartbeats 1000000 in
theorem yWord (P : Nat) (s : ByteArray) (k : Nat) (w : World) (hR : RdAt w P s k) (hk : k ≤ s.size) (hs : s.size ≤ 100000) :
    Calls Tryz.prog 66 #[.pointer (some ⟨P, 0, none⟩)] w fun e w' => e = .returned (.string (wordP s k)) ∧ Moved P w w' s (k + (wordP s k).size) := by
  have c0 := hR.c0
  have c1 := hR.c1
  have f1 := At.free hR 1
  have hz := (wordP_size hk).2
  have HP := hid (fun (w : World) => pWordN s k w hk hs)
  generalize wordP s k = ww at *
  go_enter Tryz.func66, Tryz.ntmps66
  go_wp2
  go_quiet ((go_at_call 13; exact Calls.quiet_of_same (HP.out _)))
  go_wp2
  go_ret
  exact ⟨rfl, ((Moved.refl hR).drewN _).set (by omega)⟩
set_option maxHeartbeats 1000000 in
theorem yTakeEnd (P : Nat) (s : ByteArray) (w : World) (hR : RdAt w P s s.size) :
    Calls Tryz.prog 69 #[.pointer (some ⟨P, 0, none⟩)] w fun e w' => e = .returned (.tuple #[.int .u8 0, .iface 44 (.int .i64 5)]) ∧ Moved P w w' s s.size := by
  have c0 := hR.c0
  have c1 := hR.c1
  go_enter Tryz.func69, Tryz.ntmps69
  go_wp2
  go_quiet (fail)
  go_wp2
  go_ret2
  exact ⟨rfl, (Moved.refl hR).drewN _⟩
set_option maxHeartbeats 1000000 in
theorem yTake (P : Nat) (s : ByteArray) (k : Nat) (w : World) (hR : RdAt w P s k) (hk : k < s.size) (hs : s.size ≤ 100000) :
    Calls Tryz.prog 69 #[.pointer (some ⟨P, 0, none⟩)] w fun e w' => e = .returned (.tuple #[.int .u8 (s[k].toNat : Int), .nilIface]) ∧ Moved P w w' s (k + 1) := by
  have c0 := hR.c0
  have c1 := hR.c1
  have f1 := At.free hR 1
  have hk0 : (0 : Int) ≤ k := by omega
  have hk1 : (k : Int) < s.size := by omega
  have hne : ((k : Int) == (s.size : Int)) = false := by simpa using (show ¬ (k : Int) = s.size by omega)
  go_enter Tryz.func69, Tryz.ntmps69
  go_wp2
  go_quiet (fail)
  go_wp2
  go_quiet (fail)
  go_wp2
  go_ret2
  exact ⟨rfl, ((Moved.refl hR).drewN _).set (by omega)⟩
end Go.Proofs.YtfkjoppehbmomaaGreatDoor

/-
  The program's reader: pairs of digits, ends, digits to the base 8.
-/
namespace Go.Proofs.YtfkjoppehbmomaaGreatDoor
open Go.RowKit
set_option maxRecDepth 100000

def pairL : List UInt8 → Option UInt8
  | x :: y :: _ => if hexV x < 0 ∨ hexV y < 0 then none else some (UInt8.ofNat (16 * (hexV x).toNat + (hexV y).toNat))
  | _ => none
theorem pairL_cons (x y : UInt8) (r : List UInt8) : pairL (x :: y :: r) = if hexV x < 0 ∨ hexV y < 0 then none else some (UInt8.ofNat (16 * (hexV x).toNat + (hexV y).toNat)) := rfl
theorem toList_at {t : ByteArray} (h : 1 < t.size) : ∃ r, t.data.toList = t[0] :: t[1] :: r := by
  refine ⟨t.data.toList.drop 2, ?_⟩
  rw [show t.data.toList = t.data.toList.drop 0 from rfl, List.drop_eq_getElem_cons (i := 0) (by simp; omega), List.drop_eq_getElem_cons (i := 1) (by simpa using h)]; rfl
theorem toList_one {t : ByteArray} (h : t.size = 1) : t.data.toList = [t[0]] := by
  rw [show t.data.toList = t.data.toList.drop 0 from rfl, List.drop_eq_getElem_cons (i := 0) (by simp; omega), List.drop_of_length_le (by simp; omega)]; rfl
theorem toList_none {t : ByteArray} (h : t.size = 0) : t.data.toList = [] := List.eq_nil_of_length_eq_zero (by simpa using h)
theorem pairL_no {t : ByteArray} (h : t.size < 2) : pairL t.data.toList = none := by
  by_cases h0 : t.size = 0
  · rw [toList_none h0]; rfl
  · rw [toList_one (by omega)]; rfl
theorem pHexK (c : UInt8) (n h : Int) (hn : n = (c.toNat : Int)) (hh : hexV c = h) (w : World) :
    Calls Tryz.prog 15 #[.int .u8 n] w fun e w' => e = .returned (.int .i64 h) ∧ w' = w := by
  subst hn; subst hh; exact pHex c w
def pairV : Option UInt8 → Value
  | none => .tuple #[.int .u8 0, .bool false]
  | some c => .tuple #[.int .u8 (c.toNat : Int), .bool true]
set_option maxHeartbeats 1000000 in
theorem yPair (t : ByteArray) (w : World) (ht : t.size ≤ 100000) :
    Calls Tryz.prog 67 #[.string t] w fun e w' => e = .returned (pairV (pairL t.data.toList)) ∧ w' = w := by
  by_cases h0 : t.size = 0
  · have HP := hid (pairL_no (t := t) (by omega))
    have h0' : (t.size : Int) = 0 := by omega
    go_enter Tryz.func67, Tryz.ntmps67
    go_wp2
    go_loop [4, 6] (fun n i => n = .int .i64 0 ∧ i = .int .i64 0) (fun _ _ => 0)
    case atStart => exact ⟨rfl, rfl⟩
    case round =>
      obtain ⟨rfl, rfl⟩ := hrel
      go_wp2
      go_ret2
      exact ⟨by rw [HP.out]; rfl, rfl⟩
  · have hx0 : 0 < t.size := by omega
    have hx0' : (0 : Int) < t.size := by omega
    have z0 : ((0 : Int) == (t.size : Int)) = false := by simpa using (show ¬ (0 : Int) = t.size by omega)
    have hr0 := hexV_rng t[0]
    obtain ⟨a, ha⟩ : ∃ a, hexV t[0] = a := ⟨_, rfl⟩
    have HA := hid ha
    rw [ha] at hr0
    clear ha
    by_cases ha0 : a < 0
    · have HP := hid (show pairL t.data.toList = none by
        by_cases h1 : 1 < t.size
        · obtain ⟨r, hr⟩ := toList_at h1
          rw [hr]; rw [pairL_cons, if_pos (.inl (by rw [HA.out]; exact ha0))]
        · exact pairL_no (by omega))
      go_enter Tryz.func67, Tryz.ntmps67
      go_wp2
      go_loop [4, 6] (fun n i => n = .int .i64 0 ∧ i = .int .i64 0) (fun _ _ => 0)
      case atStart => exact ⟨rfl, rfl⟩
      case round =>
        obtain ⟨rfl, rfl⟩ := hrel
        go_wp2_with (go_at_call 15; refine (pHexK t[0] _ a rfl HA.out _).mono ?_; rintro e w1 ⟨rfl, rfl⟩)
        go_ret2
        exact ⟨by rw [HP.out]; rfl, rfl⟩
    · by_cases h1 : t.size = 1
      · have HP := hid (pairL_no (t := t) (by omega))
        have h1' : (t.size : Int) = 1 := by omega
        go_enter Tryz.func67, Tryz.ntmps67
        go_wp2
        go_loop [4, 6] (fun n i => (n = .int .i64 0 ∧ i = .int .i64 0) ∨ (n = .int .i64 a ∧ i = .int .i64 1)) (fun _ i => 2 - (intOf i).toNat)
        case atStart => exact .inl ⟨rfl, rfl⟩
        case round =>
          rcases hrel with ⟨rfl, rfl⟩ | ⟨rfl, rfl⟩
          · go_wp2_with (go_at_call 15; refine (pHexK t[0] _ a rfl HA.out _).mono ?_; rintro e w1 ⟨rfl, rfl⟩)
            go_round
            case rel => exact .inr ⟨rfl, rfl⟩
            case measure => simp [intOf]
          · go_wp2
            go_ret2
            exact ⟨by rw [HP.out]; rfl, rfl⟩
      · have hx1 : 1 < t.size := by omega
        have hx1' : (1 : Int) < t.size := by omega
        have z1 : ((1 : Int) == (t.size : Int)) = false := by simpa using (show ¬ (1 : Int) = t.size by omega)
        have hr1 := hexV_rng t[1]
        obtain ⟨b, hb⟩ : ∃ b, hexV t[1] = b := ⟨_, rfl⟩
        have HB := hid hb
        rw [hb] at hr1
        clear hb
        obtain ⟨r, hr⟩ := toList_at hx1
        have HL := hid hr
        clear hr
        by_cases hb0 : b < 0
        · have HP := hid (show pairL t.data.toList = none by
            rw [HL.out]; rw [pairL_cons, if_pos (.inr (by rw [HB.out]; exact hb0))])
          go_enter Tryz.func67, Tryz.ntmps67
          go_wp2
          go_loop [4, 6] (fun n i => (n = .int .i64 0 ∧ i = .int .i64 0) ∨ (n = .int .i64 a ∧ i = .int .i64 1)) (fun _ i => 2 - (intOf i).toNat)
          case atStart => exact .inl ⟨rfl, rfl⟩
          case round =>
            rcases hrel with ⟨rfl, rfl⟩ | ⟨rfl, rfl⟩
            · go_wp2_with (go_at_call 15; refine (pHexK t[0] _ a rfl HA.out _).mono ?_; rintro e w1 ⟨rfl, rfl⟩)
              go_round
              case rel => exact .inr ⟨rfl, rfl⟩
              case measure => simp [intOf]
            · go_wp2_with (go_at_call 15; refine (pHexK t[1] _ b rfl HB.out _).mono ?_; rintro e w1 ⟨rfl, rfl⟩)
              go_ret2
              exact ⟨by rw [HP.out]; rfl, rfl⟩
        · have HP := hid (show pairL t.data.toList = some (UInt8.ofNat (16 * a.toNat + b.toNat)) by
            rw [HL.out]; rw [pairL_cons, HA.out, HB.out, if_neg (by omega)])
          have hq : ((UInt8.ofNat (16 * a.toNat + b.toNat)).toNat : Int) = 16 * a + b := by simp only [UInt8.toNat_ofNat']; omega
          go_enter Tryz.func67, Tryz.ntmps67
          go_wp2
          go_loop [4, 6] (fun n i => (n = .int .i64 0 ∧ i = .int .i64 0) ∨ (n = .int .i64 a ∧ i = .int .i64 1) ∨ (n = .int .i64 (16 * a + b) ∧ i = .int .i64 2)) (fun _ i => 2 - (intOf i).toNat)
          case atStart => exact .inl ⟨rfl, rfl⟩
          case round =>
            rcases hrel with ⟨rfl, rfl⟩ | ⟨rfl, rfl⟩ | ⟨rfl, rfl⟩
            · go_wp2_with (go_at_call 15; refine (pHexK t[0] _ a rfl HA.out _).mono ?_; rintro e w1 ⟨rfl, rfl⟩)
              go_round
              case rel => exact .inr (.inl ⟨rfl, rfl⟩)
              case measure => simp [intOf]
            · go_wp2_with (go_at_call 15; refine (pHexK t[1] _ b rfl HB.out _).mono ?_; rintro e w1 ⟨rfl, rfl⟩)
              go_round
              case rel => exact .inr (.inr ⟨by go_num, rfl⟩)
              case measure => simp [intOf]
            · go_wp2
              go_ret2
              refine ⟨?_, rfl⟩
              rw [HP.out]
              show _ = Ending.returned (.tuple #[.int .u8 ((UInt8.ofNat (16 * a.toNat + b.toNat)).toNat : Int), .bool true])
              rw [hq]
              rfl
theorem ySkipEnd (P : Nat) (s : ByteArray) (k : Nat) (w : World) (hR : RdAt w P s k) (hk : k ≤ s.size) (hs : s.size ≤ 100000) (h : skipP s k = s.size) :
    Calls Tryz.prog 33 #[.pointer (some ⟨P, 0, none⟩)] w fun e w' => e = .returned (.iface 44 (.int .i64 5)) ∧ Moved P w w' s s.size := by
  have q := ySkip P s k w hR hk hs
  rw [show skipE s k = 5 by unfold skipE; rw [if_pos h], h] at q; exact q
theorem ySkipOk (P : Nat) (s : ByteArray) (k : Nat) (w : World) (hR : RdAt w P s k) (hk : k ≤ s.size) (hs : s.size ≤ 100000) (h : ¬ skipP s k = s.size) :
    Calls Tryz.prog 33 #[.pointer (some ⟨P, 0, none⟩)] w fun e w' => e = .returned .nilIface ∧ Moved P w w' s (skipP s k) := by
  have q := ySkip P s k w hR hk hs
  rw [show skipE s k = 0 by unfold skipE; rw [if_neg h]] at q; exact q
theorem yAheadB (P : Nat) (s p : ByteArray) (k : Nat) (b : Bool) (w : World) (hR : RdAt w P s k) (hk : k ≤ s.size) (hb : Lib.hasPrefix (s.data.toList.drop k) p.data.toList = b) :
    Calls Tryz.prog 34 #[.pointer (some ⟨P, 0, none⟩), .string p] w fun e w' => e = .returned (.bool b) ∧ Moved P w w' s k := by
  subst hb; exact yAhead P s p k w hR hk
/-- How an end was looked for: an error's number, is it there, and how far it came. -/
def endsR (s p : ByteArray) (k : Nat) : Int × Bool × Nat :=
  if skipP s k = s.size then (5, false, s.size) else if Lib.hasPrefix (s.data.toList.drop (skipP s k)) p.data.toList then (0, true, skipP s k + p.size) else (0, false, skipP s k)
set_option maxHeartbeats 1000000 in
theorem yEnds (P : Nat) (s p : ByteArray) (k : Nat) (w : World) (hR : RdAt w P s k) (hk : k ≤ s.size) (hs : s.size ≤ 100000) (hp : p.size ≤ 100) :
    Calls Tryz.prog 71 #[.pointer (some ⟨P, 0, none⟩), .string p] w fun e w' => e = .returned (.tuple #[.bool (endsR s p k).2.1, errN (endsR s p k).1]) ∧ Moved P w w' s (endsR s p k).2.2 := by
  have hkl := skipP_le hk
  by_cases he : skipP s k = s.size
  · have HE := hid (show endsR s p k = (5, false, s.size) by unfold endsR; rw [if_pos he])
    go_enter Tryz.func71, Tryz.ntmps71
    go_wp2_with (go_at_call 33; refine (ySkipEnd P s k _ hR hk hs he).mono ?_; rintro e w1 ⟨rfl, hm⟩)
    go_ret2
    rw [HE.out]
    exact ⟨rfl, hm⟩
  · have HNE := hid he
    clear he
    cases hb : Lib.hasPrefix (s.data.toList.drop (skipP s k)) p.data.toList
    · have HE := hid (show endsR s p k = (0, false, skipP s k) by unfold endsR; rw [if_neg HNE.out, hb]; rfl)
      have HB := hid hb
      go_enter Tryz.func71, Tryz.ntmps71
      go_wp2_with (first
        | (go_at_call 33; refine (ySkipOk P s k _ hR hk hs HNE.out).mono ?_; rintro e w1 ⟨rfl, hm⟩)
        | (go_at_call 34; refine (yAheadB P s p (skipP s k) false _ hm.at_ hkl.2 HB.out).mono ?_; rintro e w2 ⟨rfl, hm2⟩))
      go_ret2
      rw [HE.out]
      exact ⟨rfl, hm.trans hm2⟩
    · have HE := hid (show endsR s p k = (0, true, skipP s k + p.size) by unfold endsR; rw [if_neg HNE.out, hb]; rfl)
      have HB := hid hb
      go_enter Tryz.func71, Tryz.ntmps71
      go_wp2_with (first
        | (go_at_call 33; refine (ySkipOk P s k _ hR hk hs HNE.out).mono ?_; rintro e w1 ⟨rfl, hm⟩)
        | (go_at_call 34; refine (yAheadB P s p (skipP s k) true _ hm.at_ hkl.2 HB.out).mono ?_; rintro e w2 ⟨rfl, hm2⟩; have c1 := hm2.at_.c1; have f1 := At.free hm2.at_ 1))
      go_ret2
      rw [HE.out]
      exact ⟨rfl, (hm.trans hm2).set (j := skipP s k + p.size) (by omega)⟩
end Go.Proofs.YtfkjoppehbmomaaGreatDoor
