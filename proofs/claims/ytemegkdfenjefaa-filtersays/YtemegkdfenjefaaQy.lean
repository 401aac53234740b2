/-
  Filters of the document's answer: one of them takes apart.
-/
import Derived.Test.YtemegkdfenjefaaQx
import Derived.Test.YtemegkdfenjefaaQt
namespace Go.Proofs.Ytemegkdfenjefaa
open Go.RowKit
set_option maxRecDepth 100000

set_option maxHeartbeats 400000 in
theorem rTakenHex (s : ByteArray) (w : World) (hs : s.size ≤ 100000) :
    Calls Try.prog 17 #[.string ⟨#[65, 83, 67, 73, 73, 72, 101, 120, 68, 101, 99, 111, 100, 101]⟩, .string s] w fun e w' => e = .returned (outT (hexT s.data.toList)) ∧ Below w.heap.size w w' := by
  go_enter Try.func17, Try.ntmps17
  go_wp2_with (go_at_call 26; refine (rUnhex s 0 _ (Nat.zero_le _) hs).mono ?_; rintro e w1 ⟨rfl, hb⟩)
  go_ret2
  exact ⟨rfl, hb⟩
set_option maxHeartbeats 400000 in
theorem rTakenFive (s : ByteArray) (w : World) (hs : s.size ≤ 100000) :
    Calls Try.prog 17 #[.string ⟨#[65, 83, 67, 73, 73, 56, 53, 68, 101, 99, 111, 100, 101]⟩, .string s] w fun e w' => e = .returned (outT (fiveTk s.data.toList [] [])) ∧ Below w.heap.size w w' := by
  have hne : ((⟨#[65, 83, 67, 73, 73, 56, 53, 68, 101, 99, 111, 100, 101]⟩ : ByteArray).toList == [65, 83, 67, 73, 73, 72, 101, 120, 68, 101, 99, 111, 100, 101]) = false := by rw [ByteArray.toList_eq]; rfl
  have HQ := hid (rTaken85 s w hs)
  unfold outT at HQ
  go_enter Try.func17, Try.ntmps17
  go_wp2_with (go_at_call 27; refine HQ.out.mono ?_; rintro e w1 ⟨rfl, hb⟩)
  go_ret2
  exact ⟨rfl, hb⟩
theorem add_ext (pre : List UInt8) (s : ByteArray) (i j : Nat) (ys : List UInt8) (hy : (s.extract i j).data.toList = ys) (hp : pre.length ≤ 1000000) (hl : ys.length ≤ 1000000) (w : World) :
    (Op.stringOp .add ⟨pre.toArray⟩ (s.extract i j)).run Try.prog w = .ok (.string ⟨(pre ++ ys).toArray⟩) w := by
  have e : s.extract i j = ⟨ys.toArray⟩ := by rw [← hy]
  rw [e]; exact add_big hp hl rfl w
set_option maxHeartbeats 2000000 in
theorem rTakenRuns (s : ByteArray) (w : World) (hs : s.size ≤ 100000) :
    Calls Try.prog 17 #[.string ⟨#[82, 117, 110, 76, 101, 110, 103, 116, 104, 68, 101, 99, 111, 100, 101]⟩, .string s] w fun e w' => e = .returned (outT (runsTk s.data.toList [])) ∧ Below w.heap.size w w' := by
  have hne : ((⟨#[82, 117, 110, 76, 101, 110, 103, 116, 104, 68, 101, 99, 111, 100, 101]⟩ : ByteArray).toList == [65, 83, 67, 73, 73, 72, 101, 120, 68, 101, 99, 111, 100, 101]) = false := by rw [ByteArray.toList_eq]; rfl
  have hne2 : ((⟨#[82, 117, 110, 76, 101, 110, 103, 116, 104, 68, 101, 99, 111, 100, 101]⟩ : ByteArray).toList == [65, 83, 67, 73, 73, 56, 53, 68, 101, 99, 111, 100, 101]) = false := by rw [ByteArray.toList_eq]; rfl
  generalize hR : runsTk s.data.toList [] = R
  have HR0 := hid hR
  clear hR
  go_enter Try.func17, Try.ntmps17
  go_wp2
  go_loopw [9, 10] (fun tv i wr => ∃ (k : Nat) (pre : List UInt8), tv = .string ⟨pre.toArray⟩ ∧ i = .int .i64 k ∧ k ≤ s.size ∧ pre.length ≤ 20000 ∧ runsTk (s.data.toList.drop k) pre = R ∧ Below w.heap.size w wr) (fun _ i _ => s.size - (intOf i).toNat)
  case atStart => exact ⟨0, [], rfl, rfl, by omega, by simp, HR0.out, Below.refl _ _⟩
  case round =>
    clear HR0
    obtain ⟨k, pre, rfl, rfl, hk, hpl, hR, hb⟩ := hrel
    have hbs := hb.size
    have HR := hid hR
    clear hR
    by_cases hlt : (k : Int) < s.size
    · have hlt' : k < s.size := by omega
      have HC := hid (show runsTk (s[k] :: s.data.toList.drop (k + 1)) pre = R by rw [← cons_at s k hlt']; exact HR.out)
      rw [runsTk_cons] at HC
      have hrl : (s.data.toList.drop (k + 1)).length = s.size - (k + 1) := by simp
      rw [hrl] at HC
      have HRL := hid hrl
      have hc := s[k].toNat_lt
      clear HR hrl
      by_cases h128 : (s[k].toNat : Int) = 128
      · have HRN := hid (show (0, pre) = R by
          have h1 := HC.out
          rw [if_pos (by omega)] at h1; exact h1)
        clear HC
        go_wp2
        go_ret2
        rw [← HRN.out]
        exact ⟨rfl, hb⟩
      · have h128' : ((s[k].toNat : Int) == 128) = false := by simpa using h128
        by_cases hlo : (s[k].toNat : Int) < 128
        · by_cases hlen : (s.size : Int) < (k : Int) + 1 + s[k].toNat + 1
          · have HRN := hid (show (5, []) = R by
              have h1 := HC.out
              rw [if_neg (by omega), if_pos (by omega), if_pos (by omega)] at h1; exact h1)
            clear HC
            go_wp2
            go_ret2
            rw [← HRN.out]
            exact ⟨rfl, hb⟩
          · have ha := fun (w : World) => add_ext pre s (k + 1) (k + 1 + s[k].toNat + 1) ((s.data.toList.drop (k + 1)).take (s[k].toNat + 1)) (by rw [ext_list]; congr 1; omega) (by omega) (by rw [List.length_take]; omega) w
            have HTL := hid (show ((s.data.toList.drop (k + 1)).take (s[k].toNat + 1)).length = s[k].toNat + 1 by rw [List.length_take, HRL.out]; omega)
            have HRN := hid (show (if 20000 < (pre ++ (s.data.toList.drop (k + 1)).take (s[k].toNat + 1)).length then (2, []) else runsTk (s.data.toList.drop (k + 1 + (s[k].toNat + 1))) (pre ++ (s.data.toList.drop (k + 1)).take (s[k].toNat + 1))) = R by
              have h1 := HC.out
              rw [if_neg (by omega), if_pos (by omega), if_neg (by omega), List.drop_drop] at h1; exact h1)
            clear HC
            generalize hys : (s.data.toList.drop (k + 1)).take (s[k].toNat + 1) = ys at *
            clear hys
            go_wp2
            · have h1 := HRN.out
              rw [if_pos (by rw [List.length_append]; omega)] at h1
              go_ret2
              rw [← h1]
              exact ⟨rfl, hb⟩
            · have h1 := HRN.out
              rw [if_neg (by rw [List.length_append]; omega)] at h1
              go_roundw
              case rel => exact ⟨k + 1 + (s[k].toNat + 1), pre ++ ys, rfl, by go_num, by omega, by rw [List.length_append]; omega, h1, hb⟩
              case measure => simp [intOf]; omega
        · by_cases hlen : (k : Int) + 1 = s.size
          · have HRN := hid (show (5, []) = R by
              have h1 := HC.out
              rw [if_neg (by omega), if_neg (by omega), if_pos (by omega)] at h1; exact h1)
            clear HC
            go_wp2
            go_ret2
            rw [← HRN.out]
            exact ⟨rfl, hb⟩
          · have hk1 : k + 1 < s.size := by omega
            have hk1' : (k : Int) + 1 < s.size := by omega
            have hk0' : (0 : Int) ≤ (k : Int) + 1 := by omega
            have hlen' : (((k : Int) + 1) == (s.size : Int)) = false := by simpa using hlen
            have HRN := hid (show (if 20000 < pre.length + (257 - s[k].toNat) then (2, []) else runsTk (s.data.toList.drop (k + 2)) (pre ++ List.replicate (257 - s[k].toNat) s[k + 1])) = R by
              have h1 := HC.out
              rw [if_neg (by omega), if_neg (by omega), if_neg (by omega), List.drop_drop, cons_at s (k + 1) hk1] at h1
              rw [List.length_append, List.length_replicate] at h1
              exact h1)
            clear HC
            go_wp2
            go_loopw [12, 13] (fun bv i wq => ∃ j : Nat, i = .int .i64 j ∧ j ≤ 257 - s[k].toNat ∧ Own8 wq w.heap.size bv (List.replicate j s[k + 1]) ∧ Below w.heap.size w wq) (fun _ i _ => 257 - s[k].toNat - (intOf i).toNat)
            case atStart => exact ⟨0, rfl, Nat.zero_le _, Own8.nil _ _, hb⟩
            case round =>
              clear hb hbs
              obtain ⟨j, rfl, hj, hown, hb⟩ := hrel
              have hbs := hb.size
              by_cases hjm : (j : Int) < 257 - (s[k].toNat : Int)
              · have hcj := (s[k + 1]).toNat_lt
                go_wp2_with (at_builtin; refine wpApp8 rfl (.tmp 76) (.tmp 80) rfl w.heap.size _ _ rfl hown _ [s[k + 1]] 1 1 rfl rfl rfl (by simp; omega) hbs ?_)
                intro v4 w4 hown4 hk4
                go_wp2
                go_roundw
                case rel =>
                  refine ⟨j + 1, by go_num, by omega, ?_, hb.trans hk4.below⟩
                  rw [List.replicate_succ']; exact hown4
                case measure => simp [intOf]; omega
              · obtain rfl : j = 257 - s[k].toNat := by omega
                have hcv := own8_conv hown
                have HRL2 := hid (show (List.replicate (257 - s[k].toNat) s[k + 1]).length = 257 - s[k].toNat from List.length_replicate)
                have ha := add_big (x := pre) (y := List.replicate (257 - s[k].toNat) s[k + 1]) (z := pre ++ List.replicate (257 - s[k].toNat) s[k + 1]) (by omega) (by rw [HRL2.out]; omega) rfl
                generalize hrr : List.replicate (257 - s[k].toNat) s[k + 1] = rr at *
                clear hrr
                go_wp2
                · have h2 : (20000 : Int) < (pre.length : Int) + rr.length := by assumption
                  have h1 := HRN.out
                  rw [if_pos (by have := HRL2.out; omega)] at h1
                  go_ret2
                  rw [← h1]
                  exact ⟨rfl, hb⟩
                · have h2 : (pre.length : Int) + rr.length ≤ 20000 := by assumption
                  have h1 := HRN.out
                  rw [if_neg (by have := HRL2.out; omega)] at h1
                  go_roundw
                  case rel => exact ⟨k + 2, pre ++ rr, rfl, by go_num, by omega, by rw [List.length_append]; omega, h1, hb⟩
                  case measure => simp [intOf]; omega
    · have hke : k = s.size := by omega
      go_wp2
      go_ret2
      have h1 := HR.out
      rw [drop_all s k (by omega), runsTk_nil] at h1
      subst h1
      exact ⟨rfl, hb⟩
end Go.Proofs.Ytemegkdfenjefaa
