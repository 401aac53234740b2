/-
  Filters of the program: runs are made, and taken apart.
-/
import Derived.Test.YtemegkdfenjefaaQg
namespace Go.Proofs.Ytemegkdfenjefaa
open Go.RowKit
set_option maxRecDepth 100000

theorem two8 {x y : Int} {c d : UInt8} (h : (c.toNat : Int) = x) (k : (d.toNat : Int) = y) : #[Value.int .u8 x, Value.int .u8 y] = ([c, d].map byteV).toArray := by subst h; subst k; rfl
theorem cons_of {t : ByteArray} (h : 0 < t.size) : ∃ r, t.data.toList = t[0] :: r := by
  refine ⟨t.data.toList.drop 1, ?_⟩
  rw [show t.data.toList = t.data.toList.drop 0 from rfl, List.drop_eq_getElem_cons (i := 0) (by simpa using h)]; rfl
theorem ba_ne {t : ByteArray} (h : 0 < t.size) : (t.toList == []) = false := by
  rw [ByteArray.toList_eq]
  obtain ⟨r, hr⟩ := cons_of h
  rw [hr]; rfl
theorem ba_nil {t : ByteArray} (h : t.size = 0) : t.data.toList = [] := List.eq_nil_of_length_eq_zero (by rw [ba_len]; exact h)
theorem ba_nilB {t : ByteArray} (h : t.size = 0) : (t.toList == []) = true := by
  rw [ByteArray.toList_eq, ba_nil h]; rfl
set_option maxHeartbeats 1000000 in
theorem pMakeRuns (s : ByteArray) (w : World) (hs : s.size ≤ 100000) :
    Calls Try.prog 21 #[.string s] w fun e w' => ∃ v', e = .returned v' ∧ Own8 w' w.heap.size v' (runsM s.data.toList) ∧ Below w.heap.size w w' := by
  have hfl := runsM_len _ s.data.toList (Nat.le_refl _)
  rw [ba_len] at hfl
  have HFL := hid hfl
  clear hfl
  go_enter Try.func21, Try.ntmps21
  go_wp2
  go_loopw [0, 3] (fun sv bv wr => ∃ (t : ByteArray) (pre : List UInt8), sv = .string t ∧ t.size ≤ s.size ∧ pre ++ runsM t.data.toList = runsM s.data.toList ∧ Own8 wr w.heap.size bv pre ∧ Below w.heap.size w wr) (fun sv _ _ => strLen sv)
  case atStart => exact ⟨s, [], rfl, Nat.le_refl _, rfl, Own8.nil _ _, Below.refl _ _⟩
  case round =>
    obtain ⟨t, pre, rfl, ht, hpre, hown, hb⟩ := hrel
    have hbs := hb.size
    have hpl : pre.length ≤ 200004 := by
      have h1 := congrArg List.length hpre
      have h2 := HFL.out
      rw [List.length_append] at h1; omega
    have HPRE := hid hpre
    clear hpre
    by_cases h0 : 0 < t.size
    · have he := ba_ne h0
      obtain ⟨r, hr⟩ := cons_of h0
      have hsp := sameN_pos t[0] r
      have hsl := sameN_le (t[0] :: r)
      have hal := apN_le (t[0] :: r)
      have HSM := hid (fun (h : 1 < sameN (t[0] :: r)) => runsM_same h)
      have HAP := hid (fun (h : ¬ 1 < sameN (t[0] :: r)) => runsM_apart h)
      have HPO := hid (fun (h : ¬ 1 < sameN (t[0] :: r)) => apN_pos h)
      rw [← hr] at hsp hsl hal HSM HAP HPO
      rw [ba_len] at hsl hal
      have h0' : (0 : Int) < t.size := by omega
      have hc := t[0].toNat_lt
      clear hr
      by_cases h1 : (1 : Int) < (sameN t.data.toList : Nat)
      · have HM := hid (HSM.out (by omega))
        have HX := hid (ext_tail t (sameN t.data.toList))
        have HZ := hid (ext_size t (sameN t.data.toList) t.size (Nat.le_refl _))
        clear HSM HAP HPO hal
        generalize hn : sameN t.data.toList = n at *
        have HN := hid hn
        clear hn
        have hq : ((UInt8.ofNat (257 - n)).toNat : Int) = 257 - (n : Int) := by simp only [UInt8.toNat_ofNat']; omega
        go_wp2_with (first
          | (go_at_call 31; refine (pSame t _ h0 (by omega)).mono ?_; rintro e w1 ⟨rfl, hb1⟩; rw [HN.out])
          | (at_builtin; refine wpApp8 rfl (.tmp 11) (.tmp 17) rfl w.heap.size _ pre rfl (hown.later hb1) _ [UInt8.ofNat (257 - n), t[0]] 2 2 rfl rfl ?cc (by omega) (Nat.le_trans hbs hb1.size) ?_))
        case cc => exact two8 hq rfl
        intro v2 w2 hown2 hk2
        go_wp2
        go_roundw
        case rel =>
          refine ⟨_, pre ++ [UInt8.ofNat (257 - n), t[0]], rfl, ?_, ?_, hown2, (hb.trans (hb1.mono hbs)).trans hk2.below⟩
          · have := HZ.out; omega
          · rw [HX.out, List.append_assoc]
            have h2 := HPRE.out
            rw [HM.out] at h2
            exact h2
        case measure => have := HZ.out; simp only [strLen]; omega
      · have h1' : ¬ 1 < sameN t.data.toList := by omega
        have HM := hid (HAP.out h1')
        have hap := HPO.out h1'
        have HX := hid (ext_tail t (apN t.data.toList))
        have HZ := hid (ext_size t (apN t.data.toList) t.size (Nat.le_refl _))
        have HZ2 := hid (ext_size t 0 (apN t.data.toList) hal.1)
        clear HSM HAP HPO
        generalize hm : sameN t.data.toList = m at *
        have HN := hid hm
        clear hm
        generalize hn : apN t.data.toList = n at *
        have HA := hid hn
        clear hn
        have hq : ((UInt8.ofNat (n - 1)).toNat : Int) = (n : Int) - 1 := by simp only [UInt8.toNat_ofNat']; omega
        go_wp2_with (first
          | (go_at_call 31; refine (pSame t _ h0 (by omega)).mono ?_; rintro e w1 ⟨rfl, hb1⟩; rw [HN.out])
          | (go_at_call 32; refine (pApart t _ (by omega)).mono ?_; rintro e w2 ⟨rfl, hb2⟩; rw [HA.out])
          | (at_builtin; refine wpApp8 rfl (.tmp 21) (.tmp 25) rfl w.heap.size _ pre rfl ((hown.later hb1).later hb2) _ [UInt8.ofNat (n - 1)] 1 1 rfl rfl ?cc (by omega) (Nat.le_trans (Nat.le_trans hbs hb1.size) hb2.size) ?_))
        case cc => exact one8 hq
        intro v3 w3 hown3 hk3
        go_wp2_with (at_builtin; refine wpApp8s rfl (.tmp 27) (.tmp 30) rfl w.heap.size _ _ rfl hown3 _ rfl _ rfl (by rw [HZ2.out, List.length_append]; simp; omega) (Nat.le_trans (Nat.le_trans (Nat.le_trans hbs hb1.size) hb2.size) hk3.size) ?_)
        intro v4 w4 hown4 hk4
        go_wp2
        go_roundw
        case rel =>
          refine ⟨_, _, rfl, ?_, ?_, hown4, (((hb.trans (hb1.mono hbs)).trans (hb2.mono (Nat.le_trans hbs hb1.size))).trans hk3.below).trans hk4.below⟩
          · have := HZ.out; omega
          · rw [HX.out]
            have h2 := HPRE.out
            rw [HM.out] at h2
            rw [← h2]; simp
        case measure => have := HZ.out; simp only [strLen]; omega
    · have hz : t.size = 0 := by omega
      have he := ba_nilB hz
      have HF := hid (show runsM t.data.toList = [128] by rw [ba_nil hz]; rfl)
      go_wp2_with (at_builtin; refine wpApp8 rfl (.tmp 35) (.tmp 36) rfl w.heap.size _ pre rfl hown _ [128] 1 1 rfl rfl rfl (by omega) hbs ?_)
      intro v1 w1 hown1 hk1
      go_wp2
      go_ret
      refine ⟨_, rfl, ?_, hb.trans hk1.below⟩
      rw [← HPRE.out, HF.out]; exact hown1
set_option maxHeartbeats 400000 in
theorem pRun (n : Nat) (s : ByteArray) (B : Nat) (sv : Value) (xs : List UInt8) (w : World) (hn : n < 256) (h0 : 0 < s.size) (hs : s.size ≤ 100000) (hown : Own8 w B sv xs) (hB : B ≤ w.heap.size) (hl : xs.length ≤ 100000000) :
    Calls Try.prog 38 #[sv, .int .i64 n, .string s] w fun e w' => ∃ v', e = .returned v' ∧ Own8 w' B v' (xs ++ if n < 128 then s.data.toList else List.replicate (257 - n) s[0]) ∧ Kept8 B w w' := by
  by_cases h : n < 128
  · rw [if_pos h]
    have h' : (n : Int) < 128 := by omega
    go_enter Try.func38, Try.ntmps38
    go_wp2_with (at_builtin; refine wpApp8s rfl (.tmp 9) (.tmp 10) rfl B _ xs rfl hown _ rfl _ rfl (by omega) hB ?_; intro v1 w1 hown1 hk1)
    go_ret
    exact ⟨_, rfl, hown1, hk1⟩
  · rw [if_neg h]
    have h' : ¬ (n : Int) < 128 := by omega
    have h0' : (0 : Int) < s.size := by omega
    go_enter Try.func38, Try.ntmps38
    go_wp2
    go_loopw [0, 14] (fun t i wr => ∃ k : Nat, i = .int .i64 k ∧ k ≤ 257 - n ∧ Own8 wr B t (xs ++ List.replicate k s[0]) ∧ Kept8 B w wr) (fun _ i _ => 257 - n - (intOf i).toNat)
    case atStart => exact ⟨0, rfl, Nat.zero_le _, by simpa using hown, Kept8.refl _ _⟩
    case round =>
      clear hown
      obtain ⟨k, rfl, hk, hown, hb⟩ := hrel
      have hbs := hb.size
      by_cases hlt : (k : Int) < 257 - (n : Int)
      · go_wp2_with (at_builtin; refine wpApp8 rfl (.tmp 16) (.tmp 19) rfl B _ _ rfl hown _ [s[0]] 1 1 rfl rfl rfl (by simp; omega) (by omega) ?_)
        intro v2 w2 hown2 hk2
        go_wp2
        go_roundw
        case rel =>
          refine ⟨k + 1, by go_num, by omega, ?_, hb.trans hk2⟩
          rw [List.replicate_succ']
          simpa using hown2
        case measure => simp [intOf]; omega
      · obtain rfl : k = 257 - n := by omega
        go_wp2
        go_ret
        exact ⟨_, rfl, hown, hb⟩
end Go.Proofs.Ytemegkdfenjefaa
