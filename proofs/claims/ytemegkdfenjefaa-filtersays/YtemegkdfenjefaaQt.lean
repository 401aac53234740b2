/-
  Filters of the document's answer: runs are made.
-/
import Derived.Test.YtemegkdfenjefaaQs
namespace Go.Proofs.Ytemegkdfenjefaa
open Go.RowKit
set_option maxRecDepth 100000

theorem take_at (s : ByteArray) (k j : Nat) (h : k + j < s.size) : (s.data.toList.drop k).take (j + 1) = (s.data.toList.drop k).take j ++ [s[k + j]] := by
  rw [List.take_succ_eq_append_getElem (by simp; omega), List.getElem_drop]; rfl
theorem rAlikeN (s : ByteArray) (p r : Nat) (pi : Int) (w : World) (hpi : pi = p) (hp : p < s.size) (hs : s.size ≤ 100000) (hr : eqRun s[p] (s.data.toList.drop p) = r) :
    Calls Try.prog 22 #[.string s, .int .i64 pi] w fun e w' => e = .returned (.int .i64 (r : Nat)) ∧ Below w.heap.size w w' := by
  subst hpi; subst hr; exact rAlike s p w hp hs
set_option maxHeartbeats 2000000 in
theorem rMadeRuns (s : ByteArray) (w : World) (hs : s.size ≤ 100000) :
    Calls Try.prog 15 #[.string ⟨#[82, 117, 110, 76, 101, 110, 103, 116, 104, 68, 101, 99, 111, 100, 101]⟩, .string s] w fun e w' => e = .returned (.string ⟨(runsM s.data.toList).toArray⟩) ∧ Below w.heap.size w w' := by
  have hfl := runsM_len _ s.data.toList (Nat.le_refl _)
  rw [ba_len] at hfl
  have HFL := hid hfl
  clear hfl
  have hne : ((⟨#[82, 117, 110, 76, 101, 110, 103, 116, 104, 68, 101, 99, 111, 100, 101]⟩ : ByteArray).toList == [65, 83, 67, 73, 73, 72, 101, 120, 68, 101, 99, 111, 100, 101]) = false := by rw [ByteArray.toList_eq]; rfl
  have hne2 : ((⟨#[82, 117, 110, 76, 101, 110, 103, 116, 104, 68, 101, 99, 111, 100, 101]⟩ : ByteArray).toList == [65, 83, 67, 73, 73, 56, 53, 68, 101, 99, 111, 100, 101]) = false := by rw [ByteArray.toList_eq]; rfl
  go_enter Try.func15, Try.ntmps15
  go_wp2
  go_loopw [5, 13] (fun bv i wr => ∃ (k : Nat) (pre : List UInt8), i = .int .i64 k ∧ k ≤ s.size ∧ pre ++ runsM (s.data.toList.drop k) = runsM s.data.toList ∧ Own8 wr w.heap.size bv pre ∧ Below w.heap.size w wr) (fun _ i _ => s.size - (intOf i).toNat)
  case atStart => exact ⟨0, [], rfl, by omega, rfl, Own8.nil _ _, Below.refl _ _⟩
  case round =>
    obtain ⟨k, pre, rfl, hk, hpre, hown, hb⟩ := hrel
    have hbs := hb.size
    have hpl : pre.length ≤ 200004 := by
      have h1 := congrArg List.length hpre
      have h2 := HFL.out
      rw [List.length_append] at h1; omega
    have HPRE := hid hpre
    clear hpre
    by_cases hlt : (k : Int) < s.size
    · have hlt' : k < s.size := by omega
      have hc256 := s[k].toNat_lt
      have HC := hid (cons_at s k hlt')
      have HSN := hid (sameN_at s k hlt')
      have hsl := sameN_le (s.data.toList.drop k)
      have hrl : (s.data.toList.drop k).length = s.size - k := by simp
      rw [hrl] at hsl
      generalize hr : eqRun s[k] (s.data.toList.drop k) = r at *
      have HR := hid hr
      clear hr
      by_cases h2 : (2 : Int) ≤ r
      · have HM := hid (show runsM (s.data.toList.drop k) = UInt8.ofNat (257 - min r 128) :: s[k] :: runsM (s.data.toList.drop (k + min r 128)) by
          have q := @runsM_same s[k] (s.data.toList.drop (k + 1)) (by rw [← HC.out, HSN.out]; omega)
          rw [← HC.out, HSN.out, List.drop_drop] at q; exact q)
        have hmb : min r 128 ≤ s.size - k := by have := HSN.out; omega
        have hq : ((UInt8.ofNat (257 - min r 128)).toNat : Int) = 257 - min (r : Int) 128 := by simp only [UInt8.toNat_ofNat']; omega
        go_wp2_with (first
          | (go_at_call 22; go_must (refine (rAlikeN s k r _ _ rfl hlt' hs HR.out).mono ?_); rintro e w1 ⟨rfl, hb1⟩)
          | (at_builtin; refine wpApp8 rfl (.tmp 111) (.tmp 118) rfl w.heap.size _ pre rfl (hown.later hb1) _ [UInt8.ofNat (257 - min r 128), s[k]] 2 2 rfl rfl ?cc (by omega) (Nat.le_trans hbs hb1.size) ?_))
        case cc => exact two8 (by omega) rfl
        intro v2 w2 hown2 hk2
        go_wp2
        go_roundw
        case rel =>
          refine ⟨k + min r 128, pre ++ [UInt8.ofNat (257 - min r 128), s[k]], by go_num, by omega, ?_, hown2, (hb.trans (hb1.mono hbs)).trans hk2.below⟩
          have h3 := HPRE.out
          rw [HM.out] at h3
          rw [← h3]; simp
        case measure => simp [intOf]; omega
      · have hr1 : r = 1 := by have := HR.out; rw [eqRun_self s k hlt'] at this; omega
        have HAP := hid (show runsM (s.data.toList.drop k) = UInt8.ofNat (apN (s.data.toList.drop k) - 1) :: ((s.data.toList.drop k).take (apN (s.data.toList.drop k)) ++ runsM (s.data.toList.drop (k + apN (s.data.toList.drop k)))) by
          have q := @runsM_apart s[k] (s.data.toList.drop (k + 1)) (by rw [← HC.out, HSN.out]; omega)
          rw [← HC.out, List.drop_drop] at q; exact q)
        have HA1 := hid (apart_one s k hlt' (by rw [HR.out]; exact hr1))
        have HAN := hid (show apN (s.data.toList.drop k) = min (apartN (s.data.toList.drop k)) 128 from rfl)
        go_wp2_with (go_at_call 22; go_must (refine (rAlikeN s k r _ _ rfl hlt' hs HR.out).mono ?_); rintro e w1 ⟨rfl, hb1⟩)
        go_loopw [14] (fun i wr => ∃ m : Nat, i = .int .i64 m ∧ 1 ≤ m ∧ m ≤ 128 ∧ k + m ≤ s.size ∧ apartN (s.data.toList.drop k) = m + apartN (s.data.toList.drop (k + m)) ∧ Own8 wr w.heap.size u5 pre ∧ Below w.heap.size w wr) (fun i _ => 128 - (intOf i).toNat)
        case atStart => exact ⟨1, rfl, by omega, by omega, by omega, HA1.out, hown.later hb1, hb.trans (hb1.mono hbs)⟩
        case round =>
          clear hown hb hbs hb1
          obtain ⟨m, rfl, hm1, hm128, hkm, hA, hown, hb⟩ := hrel
          have hbs := hb.size
          have HA := hid hA
          clear hA HA1
          by_cases hin : (k : Int) + m < s.size
          · have hin' : k + m < s.size := by omega
            generalize hr2 : eqRun s[k + m] (s.data.toList.drop (k + m)) = r2 at *
            have HR2 := hid hr2
            have HONE := hid (fun (h : r2 = 1) => apart_one s (k + m) hin' (by rw [hr2]; exact h))
            have HZERO := hid (fun (h : r2 ≠ 1) => apart_zero s (k + m) hin' (by rw [hr2]; exact h))
            clear hr2
            by_cases h128 : (m : Int) < 128
            · by_cases hr21 : r2 = 1
              · have hr21' : (r2 : Int) = 1 := by omega
                have HONE2 := hid (HONE.out hr21)
                go_wp2_with (go_at_call 22; go_must (refine (rAlikeN s (k + m) r2 _ _ (by omega) hin' hs HR2.out).mono ?_); rintro e w2 ⟨rfl, hb2⟩)
                go_roundw
                case rel =>
                  refine ⟨m + 1, by go_num, by omega, by omega, by omega, ?_, hown.later hb2, hb.trans (hb2.mono hbs)⟩
                  have h1 := HA.out
                  rw [HONE2.out] at h1
                  rw [show k + (m + 1) = k + m + 1 by omega]; omega
                case measure => simp [intOf]; omega
              · have hr21' : ((r2 : Int) == 1) = false := by simpa using (show ¬ (r2 : Int) = 1 by omega)
                have HAPM := hid (show apN (s.data.toList.drop k) = m by
                  have h1 := HA.out
                  rw [HZERO.out hr21] at h1
                  rw [HAN.out]; omega)
                have hq : ((UInt8.ofNat (m - 1)).toNat : Int) = (m : Int) - 1 := by simp only [UInt8.toNat_ofNat']; omega
                go_wp2_with (first
                  | (go_at_call 22; go_must (refine (rAlikeN s (k + m) r2 _ _ (by omega) hin' hs HR2.out).mono ?_); rintro e w2 ⟨rfl, hb2⟩)
                  | (at_builtin; refine wpApp8 rfl (.tmp 143) (.tmp 147) rfl w.heap.size _ pre rfl (hown.later hb2) _ [UInt8.ofNat (m - 1)] 1 1 rfl rfl ?cc (by omega) (Nat.le_trans hbs hb2.size) ?_))
                case cc => first | exact one8 hq | (unfold byteV; rw [hq])
                intro v3 w3 hown3 hk3
                go_wp2
                go_loopw [5, 15] (fun bv i wq => ∃ j : Nat, i = .int .i64 j ∧ j ≤ m ∧ Own8 wq w.heap.size bv (pre ++ UInt8.ofNat (m - 1) :: (s.data.toList.drop k).take j) ∧ Below w.heap.size w wq) (fun _ i _ => m - (intOf i).toNat)
                case atStart => exact ⟨0, rfl, Nat.zero_le _, by simpa using hown3, (hb.trans (hb2.mono hbs)).trans hk3.below⟩
                case round =>
                  clear hown hb hown3 hk3 hbs
                  obtain ⟨j, rfl, hj, hown, hb⟩ := hrel
                  have hbs := hb.size
                  by_cases hjm : (j : Int) < m
                  · have hkj : (k : Int) + j < s.size := by omega
                    have hkj0 : (0 : Int) ≤ (k : Int) + j := by omega
                    have HTK := hid (take_at s k j (by omega))
                    have HTL := hid (show ((s.data.toList.drop k).take j).length ≤ j from List.length_take_le _ _)
                    have hcj := (s[k + j]'(by omega)).toNat_lt
                    go_wp2_with (at_builtin; refine wpApp8 rfl (.tmp 154) (.tmp 160) rfl w.heap.size _ _ rfl hown _ [s[k + j]'(by omega)] 1 1 rfl rfl rfl (by have := HTL.out; rw [List.length_append, List.length_cons]; omega) hbs ?_)
                    intro v4 w4 hown4 hk4
                    go_wp2
                    go_roundw
                    case rel =>
                      refine ⟨j + 1, by go_num, by omega, ?_, hb.trans hk4.below⟩
                      rw [HTK.out]; simpa using hown4
                    case measure => simp [intOf]; omega
                  · obtain rfl : j = m := by omega
                    go_wp2
                    go_roundw
                    case rel =>
                      refine ⟨k + j, pre ++ UInt8.ofNat (j - 1) :: (s.data.toList.drop k).take j, by go_num, by omega, ?_, hown, hb⟩
                      have h1 := HPRE.out
                      rw [HAP.out, HAPM.out] at h1
                      rw [← h1]; simp
                    case measure => simp [intOf]; omega
            · have HAPM := hid (show apN (s.data.toList.drop k) = m by
                have h1 := HA.out
                rw [HAN.out]; omega)
              have hq : ((UInt8.ofNat (m - 1)).toNat : Int) = (m : Int) - 1 := by simp only [UInt8.toNat_ofNat']; omega
              go_wp2_with (first
                | (at_builtin; refine wpApp8 rfl (.tmp 143) (.tmp 147) rfl w.heap.size _ pre rfl hown _ [UInt8.ofNat (m - 1)] 1 1 rfl rfl ?cc (by omega) hbs ?_))
              case cc => first | exact one8 hq | (unfold byteV; rw [hq])
              intro v3 w3 hown3 hk3
              go_wp2
              go_loopw [5, 15] (fun bv i wq => ∃ j : Nat, i = .int .i64 j ∧ j ≤ m ∧ Own8 wq w.heap.size bv (pre ++ UInt8.ofNat (m - 1) :: (s.data.toList.drop k).take j) ∧ Below w.heap.size w wq) (fun _ i _ => m - (intOf i).toNat)
              case atStart => exact ⟨0, rfl, Nat.zero_le _, by simpa using hown3, hb.trans hk3.below⟩
              case round =>
                clear hown hb hown3 hk3 hbs
                obtain ⟨j, rfl, hj, hown, hb⟩ := hrel
                have hbs := hb.size
                by_cases hjm : (j : Int) < m
                · have hkj : (k : Int) + j < s.size := by omega
                  have hkj0 : (0 : Int) ≤ (k : Int) + j := by omega
                  have HTK := hid (take_at s k j (by omega))
                  have HTL := hid (show ((s.data.toList.drop k).take j).length ≤ j from List.length_take_le _ _)
                  have hcj := (s[k + j]'(by omega)).toNat_lt
                  go_wp2_with (at_builtin; refine wpApp8 rfl (.tmp 154) (.tmp 160) rfl w.heap.size _ _ rfl hown _ [s[k + j]'(by omega)] 1 1 rfl rfl rfl (by have := HTL.out; rw [List.length_append, List.length_cons]; omega) hbs ?_)
                  intro v4 w4 hown4 hk4
                  go_wp2
                  go_roundw
                  case rel =>
                    refine ⟨j + 1, by go_num, by omega, ?_, hb.trans hk4.below⟩
                    rw [HTK.out]; simpa using hown4
                  case measure => simp [intOf]; omega
                · obtain rfl : j = m := by omega
                  go_wp2
                  go_roundw
                  case rel =>
                    refine ⟨k + j, pre ++ UInt8.ofNat (j - 1) :: (s.data.toList.drop k).take j, by go_num, by omega, ?_, hown, hb⟩
                    have h1 := HPRE.out
                    rw [HAP.out, HAPM.out] at h1
                    rw [← h1]; simp
                  case measure => simp [intOf]; omega
          · have HAPM := hid (show apN (s.data.toList.drop k) = m by
              have h1 := HA.out
              rw [drop_all s (k + m) (by omega)] at h1
              simp only [apartN] at h1
              rw [HAN.out]; omega)
            by_cases h128 : (m : Int) < 128
            all_goals
              have hq : ((UInt8.ofNat (m - 1)).toNat : Int) = (m : Int) - 1 := by simp only [UInt8.toNat_ofNat']; omega
              go_wp2_with (first
                | (at_builtin; refine wpApp8 rfl (.tmp 143) (.tmp 147) rfl w.heap.size _ pre rfl hown _ [UInt8.ofNat (m - 1)] 1 1 rfl rfl ?cc (by omega) hbs ?_))
              case cc => first | exact one8 hq | (unfold byteV; rw [hq])
              intro v3 w3 hown3 hk3
              go_wp2
              go_loopw [5, 15] (fun bv i wq => ∃ j : Nat, i = .int .i64 j ∧ j ≤ m ∧ Own8 wq w.heap.size bv (pre ++ UInt8.ofNat (m - 1) :: (s.data.toList.drop k).take j) ∧ Below w.heap.size w wq) (fun _ i _ => m - (intOf i).toNat)
              case atStart => exact ⟨0, rfl, Nat.zero_le _, by simpa using hown3, hb.trans hk3.below⟩
              case round =>
                clear hown hb hown3 hk3 hbs
                obtain ⟨j, rfl, hj, hown, hb⟩ := hrel
                have hbs := hb.size
                by_cases hjm : (j : Int) < m
                · have hkj : (k : Int) + j < s.size := by omega
                  have hkj0 : (0 : Int) ≤ (k : Int) + j := by omega
                  have HTK := hid (take_at s k j (by omega))
                  have HTL := hid (show ((s.data.toList.drop k).take j).length ≤ j from List.length_take_le _ _)
                  have hcj := (s[k + j]'(by omega)).toNat_lt
                  go_wp2_with (at_builtin; refine wpApp8 rfl (.tmp 154) (.tmp 160) rfl w.heap.size _ _ rfl hown _ [s[k + j]'(by omega)] 1 1 rfl rfl rfl (by have := HTL.out; rw [List.length_append, List.length_cons]; omega) hbs ?_)
                  intro v4 w4 hown4 hk4
                  go_wp2
                  go_roundw
                  case rel =>
                    refine ⟨j + 1, by go_num, by omega, ?_, hb.trans hk4.below⟩
                    rw [HTK.out]; simpa using hown4
                  case measure => simp [intOf]; omega
                · obtain rfl : j = m := by omega
                  go_wp2
                  go_roundw
                  case rel =>
                    refine ⟨k + j, pre ++ UInt8.ofNat (j - 1) :: (s.data.toList.drop k).take j, by go_num, by omega, ?_, hown, hb⟩
                    have h1 := HPRE.out
                    rw [HAP.out, HAPM.out] at h1
                    rw [← h1]; simp
                  case measure => simp [intOf]; omega
    · have hke : k = s.size := by omega
      have HF := hid (show pre ++ [128] = runsM s.data.toList by have h1 := HPRE.out; rw [drop_all s k (by omega)] at h1; exact h1)
      go_wp2_with (at_builtin; refine wpApp8 rfl (.tmp 165) (.tmp 166) rfl w.heap.size _ pre rfl hown _ [128] 1 1 rfl rfl rfl (by omega) hbs ?_)
      intro v1 w1 hown1 hk1
      have hcv := own8_conv hown1
      go_wp2
      go_ret
      exact ⟨by rw [← HF.out]; rfl, hb.trans hk1.below⟩
end Go.Proofs.Ytemegkdfenjefaa
