/-
  Contracts of the reading of numbers: are all bytes digits, digits written behind a number.
-/
import Derived.Test.YtfkjoppehbmomaaGreatDoorPt
import Derived.Test.YtfkjoppehbmomaaGreatDoorPp
import Derived.PlainAid
namespace Go.Proofs.YtfkjoppehbmomaaGreatDoor
open Go.RowKit
set_option maxRecDepth 100000

theorem all_stop (s : ByteArray) {k : Nat} (h : k < s.size) (ht : s.data.toList.take (k + 1) = s.data.toList.take k ++ [s[k]]) (hd : isD s[k] = false) : false = allD s.data.toList := by
  have h1 : allD (s.data.toList.take (k + 1)) = false := by rw [ht]; simp [allD, hd]
  cases h2 : allD s.data.toList
  · rfl
  · exfalso
    rw [show allD (s.data.toList.take (k + 1)) = true from List.all_eq_true.2 fun x hx => List.all_eq_true.1 h2 x (List.mem_of_mem_take hx)] at h1
    cases h1
theorem all_go (s : ByteArray) {k : Nat} (h : k < s.size) (ht : s.data.toList.take (k + 1) = s.data.toList.take k ++ [s[k]]) (ha : allD (s.data.toList.take k) = true) (hd : isD s[k] = true) : allD (s.data.toList.take (k + 1)) = true := by
  rw [ht]; unfold allD at *; rw [List.all_append, ha]; simp [hd]

set_option maxHeartbeats 400000 in
theorem allDigits_any (s : ByteArray) (w : World) (hs : s.size ≤ 1000000) :
    Calls Tryz.prog 101 #[.string s] w fun e w' => e = .returned (.bool (allD s.data.toList)) ∧ w' = w := by
  go_enter Tryz.func101, Tryz.ntmps101
  go_wp2
  go_loop [6] (fun i => ∃ k : Nat, k ≤ s.size ∧ i = .int .i64 k ∧ allD (s.data.toList.take k) = true) (fun i => s.size - (intOf i).toNat)
  case atStart => exact ⟨0, Nat.zero_le _, rfl, rfl⟩
  case round =>
    obtain ⟨k, hk, rfl, hd⟩ := hrel
    have HD := hid hd
    clear hd
    by_cases hlt : k < s.size
    · have HT := hid (take_snoc s k hlt)
      by_cases h1 : (s[k].toNat : Int) < 48
      · go_wp2
        go_ret
        exact ⟨ret_bool (all_stop s hlt HT.out (by simp [isD]; omega)), rfl⟩
      · by_cases h2 : (57 : Int) < (s[k].toNat : Int)
        · go_wp2
          go_ret
          exact ⟨ret_bool (all_stop s hlt HT.out (by simp [isD]; omega)), rfl⟩
        · go_wp2
          go_round
          case rel => exact ⟨k + 1, by omega, by go_num, all_go s hlt HT.out HD.out (by simp [isD]; omega)⟩
          case measure => simp [intOf]; omega
    · go_wp2
      go_ret
      exact ⟨ret_bool (by have := HD.out; rw [List.take_of_length_le (by simp; omega)] at this; exact this.symm), rfl⟩

theorem satD_big {m : Nat} (h : 1000000000 < m) (l : List UInt8) : satD m l = m := by
  cases l with
  | nil => rfl
  | cons c l => rw [satD, if_pos h]
theorem drop_cons (s : ByteArray) (k : Nat) (h : k < s.size) : s.data.toList.drop k = s[k] :: s.data.toList.drop (k + 1) := by
  rw [List.drop_eq_getElem_cons (by simpa using h)]; rfl
theorem digit_of (s : ByteArray) (hd : allD s.data.toList = true) (k : Nat) (h : k < s.size) : 48 ≤ s[k].toNat ∧ s[k].toNat ≤ 57 := by
  have := List.all_eq_true.1 hd s[k] (by
    have : s[k] = s.data.toList[k]'(by simpa using h) := rfl
    rw [this]; exact List.getElem_mem _)
  simpa [isD] using this
set_option maxHeartbeats 400000 in
theorem withDigits_any (n : Nat) (s : ByteArray) (w : World) (hn : n ≤ 10000000009) (hs : s.size ≤ 1000000) (hd : allD s.data.toList = true) :
    Calls Tryz.prog 102 #[.int .i64 n, .string s] w fun e w' => e = .returned (.int .i64 (satD n s.data.toList : Nat)) ∧ w' = w := by
  go_enter Tryz.func102, Tryz.ntmps102
  go_wp2
  go_loop [0, 8] (fun t i => ∃ k m : Nat, k ≤ s.size ∧ i = .int .i64 k ∧ t = .int .i64 m ∧ satD n s.data.toList = satD m (s.data.toList.drop k) ∧ m ≤ 10000000009) (fun _ i => s.size - (intOf i).toNat)
  case atStart => exact ⟨0, n, Nat.zero_le _, rfl, rfl, rfl, hn⟩
  case round =>
    obtain ⟨k, m, hk, rfl, rfl, he, hm⟩ := hrel
    have HE := hid he
    clear he
    by_cases hlt : k < s.size
    · have HT := hid (drop_cons s k hlt)
      obtain ⟨c1, c2⟩ := digit_of s hd k hlt
      by_cases hbig : 1000000000 < m
      · have hbig' : (1000000000 : Int) < m := by omega
        go_wp2
        go_ret
        exact ⟨ret_int (by rw [HE.out, satD_big hbig]), rfl⟩
      · have hbig' : ¬ (1000000000 : Int) < m := by omega
        have c1' : (48 : Int) ≤ s[k].toNat := by omega
        have c2' : (s[k].toNat : Int) ≤ 57 := by omega
        go_wp2
        go_round
        case rel =>
          refine ⟨k + 1, 10 * m + (s[k].toNat - 48), by omega, by go_num, by congr 1; omega, ?_, by omega⟩
          rw [HE.out, HT.out, satD, if_neg hbig]
        case measure => simp [intOf]; omega
    · go_wp2
      go_ret
      exact ⟨ret_int (by rw [HE.out, List.drop_of_length_le (by simp; omega)]; rfl), rfl⟩
end Go.Proofs.YtfkjoppehbmomaaGreatDoor
