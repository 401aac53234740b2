/-
  Filters of the document's answer: what is made to the base 85.
-/
import Derived.Test.YtemegkdfenjefaaQq
namespace Go.Proofs.Ytemegkdfenjefaa
open Go.RowKit
set_option maxRecDepth 100000

theorem add_big {x y z : List UInt8} (hx : x.length ≤ 1000000) (hy : y.length ≤ 1000000) (hz : z = x ++ y) (w : World) : (Op.stringOp .add ⟨x.toArray⟩ ⟨y.toArray⟩).run Try.prog w = .ok (.string ⟨z.toArray⟩) w := by
  rw [hz]; exact run_string_add_lists w x y (by omega) (by omega)
set_option maxHeartbeats 2000000 in
theorem rMadeFive (s : ByteArray) (w : World) (hs : s.size ≤ 100000) :
    Calls Try.prog 15 #[.string ⟨#[65, 83, 67, 73, 73, 56, 53, 68, 101, 99, 111, 100, 101]⟩, .string s] w fun e w' => e = .returned (.string ⟨(fiveMk s.data.toList).toArray⟩) ∧ Below w.heap.size w w' := by
  have hfl := fiveMk_len s.data.toList
  rw [ba_len] at hfl
  have HFL := hid hfl
  clear hfl
  have hne : ((⟨#[65, 83, 67, 73, 73, 56, 53, 68, 101, 99, 111, 100, 101]⟩ : ByteArray).toList == [65, 83, 67, 73, 73, 72, 101, 120, 68, 101, 99, 111, 100, 101]) = false := by rw [ByteArray.toList_eq]; rfl
  go_enter Try.func15, Try.ntmps15
  go_wp2
  go_loopw [5, 7] (fun bv i wr => ∃ (k : Nat) (pre : List UInt8), i = .int .i64 k ∧ k ≤ s.size + 3 ∧ pre ++ fiveMk (s.data.toList.drop k) = fiveMk s.data.toList ∧ Own8 wr w.heap.size bv pre ∧ Below w.heap.size w wr) (fun _ i _ => s.size + 3 - (intOf i).toNat)
  case atStart => exact ⟨0, [], rfl, by omega, rfl, Own8.nil _ _, Below.refl _ _⟩
  case round =>
    obtain ⟨k, pre, rfl, hk, hpre, hown, hb⟩ := hrel
    have hbs := hb.size
    have hpl : pre.length ≤ 200004 := by
      have h1 := congrArg List.length hpre
      have h2 := HFL.out
      rw [List.length_append] at h1; omega
    have HPRE := hid hpre
    clear hpre
    by_cases hlt : (k : Int) < s.size
    · go_wp2
      go_loop [8, 9, 10] (fun n c j => ∃ m : Nat, m ≤ 4 ∧ j = .int .i64 m ∧ n = .int .i64 (pnAt s k m : Nat) ∧ c = .int .i64 (min m (s.size - k) : Nat)) (fun _ _ j => 4 - (intOf j).toNat)
      case atStart => exact ⟨0, by omega, rfl, rfl, by simp⟩
      case round =>
        obtain ⟨m, hm, rfl, rfl, rfl⟩ := hrel
        by_cases hm4 : (m : Int) < 4
        · have hpb : (pnAt s k m : Int) < 16777216 := by have := pn_3 (s.data.toList.drop k) m (by omega); unfold pnAt; omega
          by_cases hin : (k : Int) + m < s.size
          · have HN := hid (pnAt_in s k m (by omega))
            have hc := (s[k + m]'(by omega)).toNat_lt
            have hge : (0 : Int) ≤ (k : Int) + m := by omega
            generalize pnAt s k m = p at *
            go_wp2
            go_round
            case rel => exact ⟨m + 1, by omega, by go_num, by rw [HN.out]; go_num, by congr 1; omega⟩
            case measure => simp [intOf]; omega
          · have HN := hid (pnAt_out s k m (by omega))
            generalize pnAt s k m = p at *
            go_wp2
            go_round
            case rel => exact ⟨m + 1, by omega, by go_num, by rw [HN.out]; go_num, by congr 1; omega⟩
            case measure => simp [intOf]; omega
        · obtain rfl : m = 4 := by omega
          have hn := num4_lt (s.data.toList.drop k)
          have HP4 := hid (show pnAt s k 4 = num4 (s.data.toList.drop k) from pn_4 _)
          rw [HP4.out]
          have HG : ∃ (c : Nat) (G : List UInt8), c = min 4 (s.size - k) ∧ G ++ fiveMk (s.data.toList.drop (k + 4)) = fiveMk (s.data.toList.drop k) ∧ (¬ (num4 (s.data.toList.drop k) = 0 ∧ c = 4) → G = sgn5 (num4 (s.data.toList.drop k)) (c + 1)) ∧ (num4 (s.data.toList.drop k) = 0 ∧ c = 4 → G = [122]) := by
            by_cases h4 : k + 4 ≤ s.size
            · refine ⟨4, five4 (num4 (s.data.toList.drop k)), by omega, (fiveMk_at s k h4).symm, fun h => ?_, fun h => ?_⟩
              · unfold five4; rw [if_neg (by omega)]
              · unfold five4; rw [if_pos h.1]
            · refine ⟨s.size - k, sgn5 (num4 (s.data.toList.drop k)) (s.size - k + 1), by omega, ?_, fun _ => rfl, fun h => by omega⟩
              rw [fiveMk_last s k (by omega) (by omega), drop_all s (k + 4) (by omega)]; rfl
          obtain ⟨c, G, hc, hG, hG1, hG2⟩ := HG
          rw [← hc]
          have HG0 := hid hG
          have HG1 := hid hG1
          have HG2 := hid hG2
          have hc4 : c ≤ 4 := by omega
          have hc1 : 1 ≤ c := by omega
          clear hG hG1 hG2 hc HP4
          generalize num4 (s.data.toList.drop k) = n at *
          have HSM : Small32 n := ⟨by omega⟩
          clear hn
          by_cases hz : n = 0 ∧ c = 4
          · obtain ⟨rfl, rfl⟩ := hz
            have HGE := hid (HG2.out ⟨rfl, rfl⟩)
            go_wp2_with (at_builtin; refine wpApp8 rfl (.tmp 78) (.tmp 79) rfl w.heap.size _ pre rfl hown _ [122] 1 1 rfl rfl rfl (by omega) hbs ?_)
            intro v1 w1 hown1 hk1
            go_wp2
            go_roundw
            case rel =>
              refine ⟨k + 4, pre ++ [122], by go_num, by omega, ?_, hown1, hb.trans hk1.below⟩
              rw [← HGE.out, List.append_assoc, HG0.out]; exact HPRE.out
            case measure => simp [intOf]; omega
          · have HGE := hid (HG1.out hz)
            have hzz : ((n : Int) == 0) = false ∨ (((n : Int) == 0) = true ∧ ((c : Int) == 4) = false) := by
              by_cases e : n = 0
              · exact .inr ⟨by simpa using e, by simpa using (show ¬ (c : Int) = 4 by omega)⟩
              · exact .inl (by simpa using e)
            clear hz HG1 HG2
            rcases hzz with hzz | ⟨hzz, hz4⟩
            all_goals
              go_wp2
              go_loopw [5, 11, 12] (fun bv wv jv wr => ∃ m : Nat, m ≤ c + 1 ∧ jv = .int .i64 m ∧ wv = .int .i64 (worth5 m : Nat) ∧ Own8 wr w.heap.size bv (pre ++ sgn5 n m) ∧ Below w.heap.size w wr) (fun _ _ jv _ => c + 1 - (intOf jv).toNat)
              case atStart => exact ⟨0, by omega, rfl, rfl, by simpa [sgn5] using hown, hb⟩
              case round =>
                clear hown hb hbs
                obtain ⟨m, hm, rfl, rfl, hown, hb⟩ := hrel
                have hbs := hb.size
                by_cases hmc : (m : Int) ≤ c
                · obtain ⟨hw0, hw1⟩ := worth5_pos m (by omega)
                  have HWS := hid (worth5_step m (by omega))
                  have HWD := hid (worth5_dig n m (by omega))
                  have HSS := hid (sgn5_succ n m)
                  have HSL := hid (sgn5_len n m)
                  have hdl := dig5_lt n m
                  generalize worth5 m = ww at *
                  have hw0' : (0 : Int) < ww := by omega
                  have hww : (ww : Int) ≤ 52200625 := by omega
                  have hq : ((n : Int) / (ww : Int)) % 85 = (dig5 n m : Int) := by have := HWD.out; rw [← this]; simp
                  have hdv : (n : Int).tdiv (ww : Int) = (n : Int) / (ww : Int) := td_nonneg (by omega)
                  have hnn : (0 : Int) ≤ (n : Int) / (ww : Int) := Int.ediv_nonneg (by omega) (by omega)
                  have hnw : (n : Int) / (ww : Int) ≤ n := Int.ediv_le_self _ (by omega)
                  generalize (n : Int) / (ww : Int) = q at *
                  have hqr : ((UInt8.ofNat (33 + dig5 n m)).toNat : Int) = 33 + q % 85 := by simp only [UInt8.toNat_ofNat']; omega
                  go_wp2_with (at_builtin; refine wpApp8 rfl (.tmp 86) (.tmp 93) rfl w.heap.size _ _ rfl hown _ [UInt8.ofNat (33 + dig5 n m)] 1 1 rfl rfl ?cc (by rw [List.length_append, HSL.out]; omega) hbs ?_)
                  case cc =>
                    refine one8 ?_
                    rw [hqr]
                    have hlt := HSM.lt
                    have h1 : wrap64 q = q := by unfold wrap64; omega
                    rw [h1, tm_nonneg hnn]
                    have h2 : wrap64 (33 + q % 85) = 33 + q % 85 := by unfold wrap64; omega
                    rw [h2]; omega
                  intro v1 w1 hown1 hk1
                  go_wp2
                  go_roundw
                  case rel =>
                    refine ⟨m + 1, by omega, by go_num, by rw [← HWS.out]; go_num, ?_, hb.trans hk1.below⟩
                    rw [HSS.out]; simpa using hown1
                  case measure => simp [intOf]; omega
                · obtain rfl : m = c + 1 := by omega
                  go_wp2
                  go_roundw
                  case rel =>
                    refine ⟨k + 4, pre ++ sgn5 n (c + 1), by go_num, by omega, ?_, hown, hb⟩
                    rw [← HGE.out, List.append_assoc, HG0.out]; exact HPRE.out
                  case measure => simp [intOf]; omega
    · have hd := drop_all s k (by omega)
      have HF := hid (show pre ++ [126, 62] = fiveMk s.data.toList by have h1 := HPRE.out; rw [hd] at h1; exact h1)
      have hcv := own8_conv hown
      have ha := add_big (x := pre) (y := [126, 62]) (z := pre ++ [126, 62]) (by omega) (by simp) rfl
      clear hd
      go_wp2
      go_ret
      exact ⟨by rw [← HF.out]; rfl, hb⟩
end Go.Proofs.Ytemegkdfenjefaa
