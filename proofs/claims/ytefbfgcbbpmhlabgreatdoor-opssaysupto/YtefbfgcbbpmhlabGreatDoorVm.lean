/-
  Joined: Rf, Fs, Vm.
-/
import Derived.Test.YtefbfgcbbpmhlabGreatDoorFg
import Derived.Test.YtefbfgcbbpmhlabGreatDoorPr
import Derived.Test.YtefbfgcbbpmhlabGreatDoorYc

/-
  Contract: the document's reading of a number, for every text of at most a hundred bytes.
-/
namespace Go.Proofs.YtefbfgcbbpmhlabGreatDoor
open Go.RowKit
set_option maxRecDepth 100000

theorem ret2_ints {a b c d : Int} (h1 : a = c) (h2 : b = d) : Ending.returned (.tuple #[.int .i64 a, .int .i64 b]) = .returned (.tuple #[.int .i64 c, .int .i64 d]) := by rw [h1, h2]
theorem isD_of {c : UInt8} (h1 : (48 : Int) ≤ c.toNat) (h2 : (c.toNat : Int) ≤ 57) : isD c = true := by simp [isD]; omega
theorem isD_not {c : UInt8} (h : (c.toNat : Int) < 48 ∨ 57 < (c.toNat : Int)) : isD c = false := by simp [isD]; omega
theorem is46 {c : UInt8} (h : (c.toNat : Int) = 46) : c = 46 := by apply UInt8.toNat.inj; simp; omega
theorem prod_bd {a b : Nat} (ha : a ≤ 100) (hb : b ≤ 9) : a * b ≤ 900 := by have := Nat.mul_le_mul ha hb; omega
/-- What is handed back, by what the text is. -/
structure Outs (r : List UInt8) (neg : Bool) (N E : Int) : Prop where
  bad : goodF r = false → N = 0 ∧ E = 4
  big : goodF r = true → 1000000000 < magF r → N = 0 ∧ E = 1
  ok : goodF r = true → magF r ≤ 1000000000 → N = (if neg then -(magF r : Int) else magF r) ∧ E = 0
theorem outs_of {L r : List UInt8} {neg : Bool} (hb : bodyF L = r) (hn : negF L = neg) : Outs r neg (parseN L) (parseE L) := by
  subst hb hn
  exact ⟨fun h => (parseE_text h).symm, fun h h2 => (parseE_big h h2).symm, fun h h2 => (parseE_ok h h2).symm⟩

set_option maxHeartbeats 4000000 in
theorem readFix_minus (s : ByteArray) (r : List UInt8) (N E : Int) (w : World) (hs : s.size ≤ 100000) (h0 : 0 < s.size) (h45 : ((s[0].toNat : Int) == 45) = true)
    (hbyte : ∀ k, 1 ≤ k → (h : k < s.size) → r[k - 1]? = some s[k]) (hlen : 1 + r.length = s.size) (ho : Outs r true N E) :
    Calls Tryz.prog 191 #[.string s] w fun e w' => e = .returned (.tuple #[.int .i64 N, .int .i64 E]) ∧ w' = w := by
  go_enter Tryz.func191, Tryz.ntmps191
  go_wp2
  go_loop [4, 6, 7, 8, 9, 10] (fun at' wh pa wo di pt => ∃ k W P Wo D : Nat, at' = .int .i64 k ∧ wh = .int .i64 W ∧ pa = .int .i64 P ∧ wo = .int .i64 Wo ∧ di = .int .i64 D ∧ 1 ≤ k ∧ ((pt = .bool false ∧ Mode1 r (k - 1) W ∧ P = 0 ∧ Wo = 100 ∧ D = k - 1) ∨ (pt = .bool true ∧ Mode2 r (k - 1) W P Wo D))) (fun at' _ _ _ _ _ => s.size - (intOf at').toNat)
  case atStart => exact ⟨1, 0, 0, 100, 0, rfl, rfl, rfl, rfl, rfl, by omega, Or.inl ⟨rfl, mode1_start r, rfl, rfl, rfl⟩⟩
  case round =>
    obtain ⟨k, W, P, Wo, D, rfl, rfl, rfl, rfl, rfl, hko, hm⟩ := hrel
    rcases hm with ⟨rfl, hm, rfl, rfl, hD⟩ | ⟨rfl, hm⟩
    · obtain ⟨b1, b2⟩ := mode1_bd hm
      have HM := hid hm
      have HD := hid hD
      have hDl : D ≤ 100000 := by omega
      clear hm hD
      by_cases hlt : k < s.size
      · have HB := hid (hbyte k hko hlt)
        by_cases h46 : (s[k].toNat : Int) = 46
        · have HC := hid h46
          have t46 : ((s[k].toNat : Int) == 46) = true := by simp; omega
          clear hbyte h46
          go_wp2
          go_round
          case rel =>
            refine ⟨k + 1, W, 0, 100, D, by go_num, rfl, rfl, rfl, rfl, by omega, Or.inr ⟨rfl, ?_⟩⟩
            have hb := HB.out
            rw [is46 HC.out] at hb
            have := mode1_dot HM.out hb
            rwa [show k - 1 + 1 = k + 1 - 1 by omega, ← HD.out] at this
          case measure => simp [intOf]; omega
        · have t46 : ((s[k].toNat : Int) == 46) = false := by simp; omega
          have HC := hid h46
          clear h46 hbyte
          by_cases h48 : (s[k].toNat : Int) < 48
          · go_wp2
            go_ret2
            obtain ⟨q1, q2⟩ := ho.bad (mode1_bad HM.out HB.out (isD_not (Or.inl h48)) (fun e => HC.out (by rw [e]; rfl)))
            exact ⟨ret2_ints q1.symm q2.symm, rfl⟩
          by_cases h57 : (57 : Int) < (s[k].toNat : Int)
          · go_wp2
            go_ret2
            obtain ⟨q1, q2⟩ := ho.bad (mode1_bad HM.out HB.out (isD_not (Or.inr h57)) (fun e => HC.out (by rw [e]; rfl)))
            exact ⟨ret2_ints q1.symm q2.symm, rfl⟩
          have d1 : (48 : Int) ≤ (s[k].toNat : Int) := by omega
          have d2 : (s[k].toNat : Int) ≤ 57 := by omega
          have HS := hid (mode1_digit HM.out HB.out (isD_of d1 d2))
          by_cases hW : W < 10000000
          · have hW' : (W : Int) < 10000000 := by omega
            go_wp2
            go_round
            case rel =>
              refine ⟨k + 1, 10 * W + (s[k].toNat - 48), 0, 100, D + 1, by go_num, by congr 1; omega, rfl, rfl, by go_num, by omega, Or.inl ⟨rfl, ?_, rfl, rfl, by have := HD.out; omega⟩⟩
              have := HS.out
              rwa [if_pos hW, show k - 1 + 1 = k + 1 - 1 by omega] at this
            case measure => simp [intOf]; omega
          · have hW' : ¬ (W : Int) < 10000000 := by omega
            go_wp2
            go_round
            case rel =>
              refine ⟨k + 1, W, 0, 100, D + 1, by go_num, rfl, rfl, rfl, by go_num, by omega, Or.inl ⟨rfl, ?_, rfl, rfl, by have := HD.out; omega⟩⟩
              have := HS.out
              rwa [if_neg hW, show k - 1 + 1 = k + 1 - 1 by omega] at this
            case measure => simp [intOf]; omega
      · have ek : k - 1 = r.length := by omega
        have hend := mode1_end (by have := HM.out; rwa [ek] at this)
        clear hbyte
        have eD : D = r.length := by have := HD.out; omega
        rw [← eD] at hend
        have HEK := hid ek
        clear ek eD
        by_cases h0 : D = 0
        · have hz : ((D : Int) == 0) = true := by simp; omega
          go_wp2
          go_ret2
          obtain ⟨q1, q2⟩ := ho.bad (hend.1 h0)
          exact ⟨ret2_ints q1.symm q2.symm, rfl⟩
        · have hz : ((D : Int) == 0) = false := by simp; omega
          obtain ⟨hg, hle, hgt⟩ := hend.2 h0
          have HL := hid hle
          have HG := hid hgt
          clear hend hle hgt
          by_cases hbig : 1000000000 < 1000 * W + 0
          · have hbig' : (1000000000 : Int) < 1000 * (W : Int) := by omega
            go_wp2
            go_ret2
            obtain ⟨q1, q2⟩ := ho.big hg (HG.out hbig)
            exact ⟨ret2_ints q1.symm q2.symm, rfl⟩
          · have hbig' : ¬ (1000000000 : Int) < 1000 * (W : Int) := by omega
            go_wp2
            go_ret2
            have e := HL.out (by omega)
            obtain ⟨q1, q2⟩ := ho.ok hg (by omega)
            exact ⟨ret2_ints (by rw [q1, e]; simp) q2.symm, rfl⟩
    · obtain ⟨b1, b2, b3, b4, b5⟩ := mode2_bd hm
      have HM := hid hm
      clear hm
      by_cases hlt : k < s.size
      · have HB := hid (hbyte k hko hlt)
        by_cases h46 : (s[k].toNat : Int) = 46
        · have HC := hid h46
          have t46 : ((s[k].toNat : Int) == 46) = true := by simp; omega
          have h48 : (s[k].toNat : Int) < 48 := by omega
          clear hbyte h46
          go_wp2
          go_ret2
          obtain ⟨q1, q2⟩ := ho.bad (mode2_bad HM.out HB.out (isD_not (Or.inl h48)))
          exact ⟨ret2_ints q1.symm q2.symm, rfl⟩
        · have t46 : ((s[k].toNat : Int) == 46) = false := by simp; omega
          clear h46 hbyte
          by_cases h48 : (s[k].toNat : Int) < 48
          · go_wp2
            go_ret2
            obtain ⟨q1, q2⟩ := ho.bad (mode2_bad HM.out HB.out (isD_not (Or.inl h48)))
            exact ⟨ret2_ints q1.symm q2.symm, rfl⟩
          by_cases h57 : (57 : Int) < (s[k].toNat : Int)
          · go_wp2
            go_ret2
            obtain ⟨q1, q2⟩ := ho.bad (mode2_bad HM.out HB.out (isD_not (Or.inr h57)))
            exact ⟨ret2_ints q1.symm q2.symm, rfl⟩
          have d1 : (48 : Int) ≤ (s[k].toNat : Int) := by omega
          have d2 : (s[k].toNat : Int) ≤ 57 := by omega
          have HS := hid (mode2_digit HM.out HB.out (isD_of d1 d2))
          have hpn := prod_bd b3 (show s[k].toNat - 48 ≤ 9 by omega)
          have hpc : ((Wo * (s[k].toNat - 48) : Nat) : Int) = (Wo : Int) * ((s[k].toNat : Int) - 48) := by
            rw [Int.natCast_mul, Int.natCast_sub (by omega)]; rfl
          have hp1 : 0 ≤ (Wo : Int) * ((s[k].toNat : Int) - 48) := by rw [← hpc]; omega
          have hp2 : (Wo : Int) * ((s[k].toNat : Int) - 48) ≤ 900 := by rw [← hpc]; omega
          have HP := hid hpc
          clear hpc hpn
          go_wp2
          go_round
          case rel =>
            refine ⟨k + 1, W, P + Wo * (s[k].toNat - 48), Wo / 10, D + 1, by go_num, rfl, by congr 1; have := HP.out; omega, by congr 1, by go_num, by omega, Or.inr ⟨rfl, ?_⟩⟩
            have := HS.out
            rwa [show k - 1 + 1 = k + 1 - 1 by omega] at this
          case measure => simp [intOf]; omega
      · have ek : k - 1 = r.length := by omega
        have hend := mode2_end (by have := HM.out; rwa [ek] at this)
        clear hbyte ek
        by_cases h0 : D = 0
        · have hz : ((D : Int) == 0) = true := by simp; omega
          go_wp2
          go_ret2
          obtain ⟨q1, q2⟩ := ho.bad (hend.1 h0)
          exact ⟨ret2_ints q1.symm q2.symm, rfl⟩
        · have hz : ((D : Int) == 0) = false := by simp; omega
          obtain ⟨hg, hle, hgt⟩ := hend.2 h0
          have HL := hid hle
          have HG := hid hgt
          clear hend hle hgt
          by_cases hbig : 1000000000 < 1000 * W + P
          · have hbig' : (1000000000 : Int) < 1000 * (W : Int) + (P : Int) := by omega
            go_wp2
            go_ret2
            obtain ⟨q1, q2⟩ := ho.big hg (HG.out hbig)
            exact ⟨ret2_ints q1.symm q2.symm, rfl⟩
          · have hbig' : ¬ (1000000000 : Int) < 1000 * (W : Int) + (P : Int) := by omega
            go_wp2
            go_ret2
            have e := HL.out (by omega)
            obtain ⟨q1, q2⟩ := ho.ok hg (by omega)
            exact ⟨ret2_ints (by rw [q1, e]; simp) q2.symm, rfl⟩

set_option maxHeartbeats 4000000 in
theorem readFix_plus (s : ByteArray) (r : List UInt8) (N E : Int) (w : World) (hs : s.size ≤ 100000) (h0 : 0 < s.size) (h45 : ((s[0].toNat : Int) == 45) = false) (h43 : ((s[0].toNat : Int) == 43) = true)
    (hbyte : ∀ k, 1 ≤ k → (h : k < s.size) → r[k - 1]? = some s[k]) (hlen : 1 + r.length = s.size) (ho : Outs r false N E) :
    Calls Tryz.prog 191 #[.string s] w fun e w' => e = .returned (.tuple #[.int .i64 N, .int .i64 E]) ∧ w' = w := by
  go_enter Tryz.func191, Tryz.ntmps191
  go_wp2
  go_loop [4, 6, 7, 8, 9, 10] (fun at' wh pa wo di pt => ∃ k W P Wo D : Nat, at' = .int .i64 k ∧ wh = .int .i64 W ∧ pa = .int .i64 P ∧ wo = .int .i64 Wo ∧ di = .int .i64 D ∧ 1 ≤ k ∧ ((pt = .bool false ∧ Mode1 r (k - 1) W ∧ P = 0 ∧ Wo = 100 ∧ D = k - 1) ∨ (pt = .bool true ∧ Mode2 r (k - 1) W P Wo D))) (fun at' _ _ _ _ _ => s.size - (intOf at').toNat)
  case atStart => exact ⟨1, 0, 0, 100, 0, rfl, rfl, rfl, rfl, rfl, by omega, Or.inl ⟨rfl, mode1_start r, rfl, rfl, rfl⟩⟩
  case round =>
    obtain ⟨k, W, P, Wo, D, rfl, rfl, rfl, rfl, rfl, hko, hm⟩ := hrel
    rcases hm with ⟨rfl, hm, rfl, rfl, hD⟩ | ⟨rfl, hm⟩
    · obtain ⟨b1, b2⟩ := mode1_bd hm
      have HM := hid hm
      have HD := hid hD
      have hDl : D ≤ 100000 := by omega
      clear hm hD
      by_cases hlt : k < s.size
      · have HB := hid (hbyte k hko hlt)
        by_cases h46 : (s[k].toNat : Int) = 46
        · have HC := hid h46
          have t46 : ((s[k].toNat : Int) == 46) = true := by simp; omega
          clear hbyte h46
          go_wp2
          go_round
          case rel =>
            refine ⟨k + 1, W, 0, 100, D, by go_num, rfl, rfl, rfl, rfl, by omega, Or.inr ⟨rfl, ?_⟩⟩
            have hb := HB.out
            rw [is46 HC.out] at hb
            have := mode1_dot HM.out hb
            rwa [show k - 1 + 1 = k + 1 - 1 by omega, ← HD.out] at this
          case measure => simp [intOf]; omega
        · have t46 : ((s[k].toNat : Int) == 46) = false := by simp; omega
          have HC := hid h46
          clear h46 hbyte
          by_cases h48 : (s[k].toNat : Int) < 48
          · go_wp2
            go_ret2
            obtain ⟨q1, q2⟩ := ho.bad (mode1_bad HM.out HB.out (isD_not (Or.inl h48)) (fun e => HC.out (by rw [e]; rfl)))
            exact ⟨ret2_ints q1.symm q2.symm, rfl⟩
          by_cases h57 : (57 : Int) < (s[k].toNat : Int)
          · go_wp2
            go_ret2
            obtain ⟨q1, q2⟩ := ho.bad (mode1_bad HM.out HB.out (isD_not (Or.inr h57)) (fun e => HC.out (by rw [e]; rfl)))
            exact ⟨ret2_ints q1.symm q2.symm, rfl⟩
          have d1 : (48 : Int) ≤ (s[k].toNat : Int) := by omega
          have d2 : (s[k].toNat : Int) ≤ 57 := by omega
          have HS := hid (mode1_digit HM.out HB.out (isD_of d1 d2))
          by_cases hW : W < 10000000
          · have hW' : (W : Int) < 10000000 := by omega
            go_wp2
            go_round
            case rel =>
              refine ⟨k + 1, 10 * W + (s[k].toNat - 48), 0, 100, D + 1, by go_num, by congr 1; omega, rfl, rfl, by go_num, by omega, Or.inl ⟨rfl, ?_, rfl, rfl, by have := HD.out; omega⟩⟩
              have := HS.out
              rwa [if_pos hW, show k - 1 + 1 = k + 1 - 1 by omega] at this
            case measure => simp [intOf]; omega
          · have hW' : ¬ (W : Int) < 10000000 := by omega
            go_wp2
            go_round
            case rel =>
              refine ⟨k + 1, W, 0, 100, D + 1, by go_num, rfl, rfl, rfl, by go_num, by omega, Or.inl ⟨rfl, ?_, rfl, rfl, by have := HD.out; omega⟩⟩
              have := HS.out
              rwa [if_neg hW, show k - 1 + 1 = k + 1 - 1 by omega] at this
            case measure => simp [intOf]; omega
      · have ek : k - 1 = r.length := by omega
        have hend := mode1_end (by have := HM.out; rwa [ek] at this)
        clear hbyte
        have eD : D = r.length := by have := HD.out; omega
        rw [← eD] at hend
        have HEK := hid ek
        clear ek eD
        by_cases h0 : D = 0
        · have hz : ((D : Int) == 0) = true := by simp; omega
          go_wp2
          go_ret2
          obtain ⟨q1, q2⟩ := ho.bad (hend.1 h0)
          exact ⟨ret2_ints q1.symm q2.symm, rfl⟩
        · have hz : ((D : Int) == 0) = false := by simp; omega
          obtain ⟨hg, hle, hgt⟩ := hend.2 h0
          have HL := hid hle
          have HG := hid hgt
          clear hend hle hgt
          by_cases hbig : 1000000000 < 1000 * W + 0
          · have hbig' : (1000000000 : Int) < 1000 * (W : Int) := by omega
            go_wp2
            go_ret2
            obtain ⟨q1, q2⟩ := ho.big hg (HG.out hbig)
            exact ⟨ret2_ints q1.symm q2.symm, rfl⟩
          · have hbig' : ¬ (1000000000 : Int) < 1000 * (W : Int) := by omega
            go_wp2
            go_ret2
            have e := HL.out (by omega)
            obtain ⟨q1, q2⟩ := ho.ok hg (by omega)
            exact ⟨ret2_ints (by rw [q1, e]; simp) q2.symm, rfl⟩
    · obtain ⟨b1, b2, b3, b4, b5⟩ := mode2_bd hm
      have HM := hid hm
      clear hm
      by_cases hlt : k < s.size
      · have HB := hid (hbyte k hko hlt)
        by_cases h46 : (s[k].toNat : Int) = 46
        · have HC := hid h46
          have t46 : ((s[k].toNat : Int) == 46) = true := by simp; omega
          have h48 : (s[k].toNat : Int) < 48 := by omega
          clear hbyte h46
          go_wp2
          go_ret2
          obtain ⟨q1, q2⟩ := ho.bad (mode2_bad HM.out HB.out (isD_not (Or.inl h48)))
          exact ⟨ret2_ints q1.symm q2.symm, rfl⟩
        · have t46 : ((s[k].toNat : Int) == 46) = false := by simp; omega
          clear h46 hbyte
          by_cases h48 : (s[k].toNat : Int) < 48
          · go_wp2
            go_ret2
            obtain ⟨q1, q2⟩ := ho.bad (mode2_bad HM.out HB.out (isD_not (Or.inl h48)))
            exact ⟨ret2_ints q1.symm q2.symm, rfl⟩
          by_cases h57 : (57 : Int) < (s[k].toNat : Int)
          · go_wp2
            go_ret2
            obtain ⟨q1, q2⟩ := ho.bad (mode2_bad HM.out HB.out (isD_not (Or.inr h57)))
            exact ⟨ret2_ints q1.symm q2.symm, rfl⟩
          have d1 : (48 : Int) ≤ (s[k].toNat : Int) := by omega
          have d2 : (s[k].toNat : Int) ≤ 57 := by omega
          have HS := hid (mode2_digit HM.out HB.out (isD_of d1 d2))
          have hpn := prod_bd b3 (show s[k].toNat - 48 ≤ 9 by omega)
          have hpc : ((Wo * (s[k].toNat - 48) : Nat) : Int) = (Wo : Int) * ((s[k].toNat : Int) - 48) := by
            rw [Int.natCast_mul, Int.natCast_sub (by omega)]; rfl
          have hp1 : 0 ≤ (Wo : Int) * ((s[k].toNat : Int) - 48) := by rw [← hpc]; omega
          have hp2 : (Wo : Int) * ((s[k].toNat : Int) - 48) ≤ 900 := by rw [← hpc]; omega
          have HP := hid hpc
          clear hpc hpn
          go_wp2
          go_round
          case rel =>
            refine ⟨k + 1, W, P + Wo * (s[k].toNat - 48), Wo / 10, D + 1, by go_num, rfl, by congr 1; have := HP.out; omega, by congr 1, by go_num, by omega, Or.inr ⟨rfl, ?_⟩⟩
            have := HS.out
            rwa [show k - 1 + 1 = k + 1 - 1 by omega] at this
          case measure => simp [intOf]; omega
      · have ek : k - 1 = r.length := by omega
        have hend := mode2_end (by have := HM.out; rwa [ek] at this)
        clear hbyte ek
        by_cases h0 : D = 0
        · have hz : ((D : Int) == 0) = true := by simp; omega
          go_wp2
          go_ret2
          obtain ⟨q1, q2⟩ := ho.bad (hend.1 h0)
          exact ⟨ret2_ints q1.symm q2.symm, rfl⟩
        · have hz : ((D : Int) == 0) = false := by simp; omega
          obtain ⟨hg, hle, hgt⟩ := hend.2 h0
          have HL := hid hle
          have HG := hid hgt
          clear hend hle hgt
          by_cases hbig : 1000000000 < 1000 * W + P
          · have hbig' : (1000000000 : Int) < 1000 * (W : Int) + (P : Int) := by omega
            go_wp2
            go_ret2
            obtain ⟨q1, q2⟩ := ho.big hg (HG.out hbig)
            exact ⟨ret2_ints q1.symm q2.symm, rfl⟩
          · have hbig' : ¬ (1000000000 : Int) < 1000 * (W : Int) + (P : Int) := by omega
            go_wp2
            go_ret2
            have e := HL.out (by omega)
            obtain ⟨q1, q2⟩ := ho.ok hg (by omega)
            exact ⟨ret2_ints (by rw [q1, e]; simp) q2.symm, rfl⟩

set_option maxHeartbeats 4000000 in
theorem readFix_else (s : ByteArray) (r : List UInt8) (N E : Int) (w : World) (hs : s.size ≤ 100000) (h0 : 0 < s.size) (h45 : ((s[0].toNat : Int) == 45) = false) (h43 : ((s[0].toNat : Int) == 43) = false)
    (hbyte : ∀ k, 0 ≤ k → (h : k < s.size) → r[k - 0]? = some s[k]) (hlen : 0 + r.length = s.size) (ho : Outs r false N E) :
    Calls Tryz.prog 191 #[.string s] w fun e w' => e = .returned (.tuple #[.int .i64 N, .int .i64 E]) ∧ w' = w := by
  go_enter Tryz.func191, Tryz.ntmps191
  go_wp2
  go_loop [4, 6, 7, 8, 9, 10] (fun at' wh pa wo di pt => ∃ k W P Wo D : Nat, at' = .int .i64 k ∧ wh = .int .i64 W ∧ pa = .int .i64 P ∧ wo = .int .i64 Wo ∧ di = .int .i64 D ∧ 0 ≤ k ∧ ((pt = .bool false ∧ Mode1 r (k - 0) W ∧ P = 0 ∧ Wo = 100 ∧ D = k - 0) ∨ (pt = .bool true ∧ Mode2 r (k - 0) W P Wo D))) (fun at' _ _ _ _ _ => s.size - (intOf at').toNat)
  case atStart => exact ⟨0, 0, 0, 100, 0, rfl, rfl, rfl, rfl, rfl, by omega, Or.inl ⟨rfl, mode1_start r, rfl, rfl, rfl⟩⟩
  case round =>
    obtain ⟨k, W, P, Wo, D, rfl, rfl, rfl, rfl, rfl, hko, hm⟩ := hrel
    rcases hm with ⟨rfl, hm, rfl, rfl, hD⟩ | ⟨rfl, hm⟩
    · obtain ⟨b1, b2⟩ := mode1_bd hm
      have HM := hid hm
      have HD := hid hD
      have hDl : D ≤ 100000 := by omega
      clear hm hD
      by_cases hlt : k < s.size
      · have HB := hid (hbyte k hko hlt)
        by_cases h46 : (s[k].toNat : Int) = 46
        · have HC := hid h46
          have t46 : ((s[k].toNat : Int) == 46) = true := by simp; omega
          clear hbyte h46
          go_wp2
          go_round
          case rel =>
            refine ⟨k + 1, W, 0, 100, D, by go_num, rfl, rfl, rfl, rfl, by omega, Or.inr ⟨rfl, ?_⟩⟩
            have hb := HB.out
            rw [is46 HC.out] at hb
            have := mode1_dot HM.out hb
            rwa [show k - 0 + 1 = k + 1 - 0 by omega, ← HD.out] at this
          case measure => simp [intOf]; omega
        · have t46 : ((s[k].toNat : Int) == 46) = false := by simp; omega
          have HC := hid h46
          clear h46 hbyte
          by_cases h48 : (s[k].toNat : Int) < 48
          · go_wp2
            go_ret2
            obtain ⟨q1, q2⟩ := ho.bad (mode1_bad HM.out HB.out (isD_not (Or.inl h48)) (fun e => HC.out (by rw [e]; rfl)))
            exact ⟨ret2_ints q1.symm q2.symm, rfl⟩
          by_cases h57 : (57 : Int) < (s[k].toNat : Int)
          · go_wp2
            go_ret2
            obtain ⟨q1, q2⟩ := ho.bad (mode1_bad HM.out HB.out (isD_not (Or.inr h57)) (fun e => HC.out (by rw [e]; rfl)))
            exact ⟨ret2_ints q1.symm q2.symm, rfl⟩
          have d1 : (48 : Int) ≤ (s[k].toNat : Int) := by omega
          have d2 : (s[k].toNat : Int) ≤ 57 := by omega
          have HS := hid (mode1_digit HM.out HB.out (isD_of d1 d2))
          by_cases hW : W < 10000000
          · have hW' : (W : Int) < 10000000 := by omega
            go_wp2
            go_round
            case rel =>
              refine ⟨k + 1, 10 * W + (s[k].toNat - 48), 0, 100, D + 1, by go_num, by congr 1; omega, rfl, rfl, by go_num, by omega, Or.inl ⟨rfl, ?_, rfl, rfl, by have := HD.out; omega⟩⟩
              have := HS.out
              rwa [if_pos hW, show k - 0 + 1 = k + 1 - 0 by omega] at this
            case measure => simp [intOf]; omega
          · have hW' : ¬ (W : Int) < 10000000 := by omega
            go_wp2
            go_round
            case rel =>
              refine ⟨k + 1, W, 0, 100, D + 1, by go_num, rfl, rfl, rfl, by go_num, by omega, Or.inl ⟨rfl, ?_, rfl, rfl, by have := HD.out; omega⟩⟩
              have := HS.out
              rwa [if_neg hW, show k - 0 + 1 = k + 1 - 0 by omega] at this
            case measure => simp [intOf]; omega
      · have ek : k - 0 = r.length := by omega
        have hend := mode1_end (by have := HM.out; rwa [ek] at this)
        clear hbyte
        have eD : D = r.length := by have := HD.out; omega
        rw [← eD] at hend
        have HEK := hid ek
        clear ek eD
        by_cases h0 : D = 0
        · have hz : ((D : Int) == 0) = true := by simp; omega
          go_wp2
          go_ret2
          obtain ⟨q1, q2⟩ := ho.bad (hend.1 h0)
          exact ⟨ret2_ints q1.symm q2.symm, rfl⟩
        · have hz : ((D : Int) == 0) = false := by simp; omega
          obtain ⟨hg, hle, hgt⟩ := hend.2 h0
          have HL := hid hle
          have HG := hid hgt
          clear hend hle hgt
          by_cases hbig : 1000000000 < 1000 * W + 0
          · have hbig' : (1000000000 : Int) < 1000 * (W : Int) := by omega
            go_wp2
            go_ret2
            obtain ⟨q1, q2⟩ := ho.big hg (HG.out hbig)
            exact ⟨ret2_ints q1.symm q2.symm, rfl⟩
          · have hbig' : ¬ (1000000000 : Int) < 1000 * (W : Int) := by omega
            go_wp2
            go_ret2
            have e := HL.out (by omega)
            obtain ⟨q1, q2⟩ := ho.ok hg (by omega)
            exact ⟨ret2_ints (by rw [q1, e]; simp) q2.symm, rfl⟩
    · obtain ⟨b1, b2, b3, b4, b5⟩ := mode2_bd hm
      have HM := hid hm
      clear hm
      by_cases hlt : k < s.size
      · have HB := hid (hbyte k hko hlt)
        by_cases h46 : (s[k].toNat : Int) = 46
        · have HC := hid h46
          have t46 : ((s[k].toNat : Int) == 46) = true := by simp; omega
          have h48 : (s[k].toNat : Int) < 48 := by omega
          clear hbyte h46
          go_wp2
          go_ret2
          obtain ⟨q1, q2⟩ := ho.bad (mode2_bad HM.out HB.out (isD_not (Or.inl h48)))
          exact ⟨ret2_ints q1.symm q2.symm, rfl⟩
        · have t46 : ((s[k].toNat : Int) == 46) = false := by simp; omega
          clear h46 hbyte
          by_cases h48 : (s[k].toNat : Int) < 48
          · go_wp2
            go_ret2
            obtain ⟨q1, q2⟩ := ho.bad (mode2_bad HM.out HB.out (isD_not (Or.inl h48)))
            exact ⟨ret2_ints q1.symm q2.symm, rfl⟩
          by_cases h57 : (57 : Int) < (s[k].toNat : Int)
          · go_wp2
            go_ret2
            obtain ⟨q1, q2⟩ := ho.bad (mode2_bad HM.out HB.out (isD_not (Or.inr h57)))
            exact ⟨ret2_ints q1.symm q2.symm, rfl⟩
          have d1 : (48 : Int) ≤ (s[k].toNat : Int) := by omega
          have d2 : (s[k].toNat : Int) ≤ 57 := by omega
          have HS := hid (mode2_digit HM.out HB.out (isD_of d1 d2))
          have hpn := prod_bd b3 (show s[k].toNat - 48 ≤ 9 by omega)
          have hpc : ((Wo * (s[k].toNat - 48) : Nat) : Int) = (Wo : Int) * ((s[k].toNat : Int) - 48) := by
            rw [Int.natCast_mul, Int.natCast_sub (by omega)]; rfl
          have hp1 : 0 ≤ (Wo : Int) * ((s[k].toNat : Int) - 48) := by rw [← hpc]; omega
          have hp2 : (Wo : Int) * ((s[k].toNat : Int) - 48) ≤ 900 := by rw [← hpc]; omega
          have HP := hid hpc
          clear hpc hpn
          go_wp2
          go_round
          case rel =>
            refine ⟨k + 1, W, P + Wo * (s[k].toNat - 48), Wo / 10, D + 1, by go_num, rfl, by congr 1; have := HP.out; omega, by congr 1, by go_num, by omega, Or.inr ⟨rfl, ?_⟩⟩
            have := HS.out
            rwa [show k - 0 + 1 = k + 1 - 0 by omega] at this
          case measure => simp [intOf]; omega
      · have ek : k - 0 = r.length := by omega
        have hend := mode2_end (by have := HM.out; rwa [ek] at this)
        clear hbyte ek
        by_cases h0 : D = 0
        · have hz : ((D : Int) == 0) = true := by simp; omega
          go_wp2
          go_ret2
          obtain ⟨q1, q2⟩ := ho.bad (hend.1 h0)
          exact ⟨ret2_ints q1.symm q2.symm, rfl⟩
        · have hz : ((D : Int) == 0) = false := by simp; omega
          obtain ⟨hg, hle, hgt⟩ := hend.2 h0
          have HL := hid hle
          have HG := hid hgt
          clear hend hle hgt
          by_cases hbig : 1000000000 < 1000 * W + P
          · have hbig' : (1000000000 : Int) < 1000 * (W : Int) + (P : Int) := by omega
            go_wp2
            go_ret2
            obtain ⟨q1, q2⟩ := ho.big hg (HG.out hbig)
            exact ⟨ret2_ints q1.symm q2.symm, rfl⟩
          · have hbig' : ¬ (1000000000 : Int) < 1000 * (W : Int) + (P : Int) := by omega
            go_wp2
            go_ret2
            have e := HL.out (by omega)
            obtain ⟨q1, q2⟩ := ho.ok hg (by omega)
            exact ⟨ret2_ints (by rw [q1, e]; simp) q2.symm, rfl⟩

set_option maxHeartbeats 400000 in
theorem readFix_empty (s : ByteArray) (w : World) (h0 : s.size = 0) :
    Calls Tryz.prog 191 #[.string s] w fun e w' => e = .returned (.tuple #[.int .i64 0, .int .i64 4]) ∧ w' = w := by
  go_enter Tryz.func191, Tryz.ntmps191
  go_wp2
  go_rounds 1
  go_ret2
  exact ⟨rfl, rfl⟩

theorem readFix_any (s : ByteArray) (w : World) (hs : s.size ≤ 100000) :
    Calls Tryz.prog 191 #[.string s] w fun e w' => e = .returned (.tuple #[.int .i64 (parseN s.data.toList), .int .i64 (parseE s.data.toList)]) ∧ w' = w := by
  cases hL : s.data.toList with
  | nil =>
    have hz := size_list hL
    have := readFix_empty s w (by simpa using hz)
    exact this
  | cons c l =>
    have hz := size_list hL
    simp only [List.length_cons] at hz
    have h0 : 0 < s.size := by omega
    have hget : ∀ k (h : k < s.size), (c :: l)[k]? = some s[k] := fun k h => by
      rw [← hL, List.getElem?_eq_getElem (by simpa using h)]; rfl
    have hc0 : s[0] = c := by have := hget 0 h0; simpa using this.symm
    have htl : ∀ k, 1 ≤ k → (h : k < s.size) → l[k - 1]? = some s[k] := fun k h1 h => by
      have := hget k h
      obtain ⟨j, rfl⟩ : ∃ j, k = j + 1 := ⟨k - 1, by omega⟩
      simpa using this
    by_cases h1 : c = 45
    · refine readFix_minus s l _ _ w hs h0 (by rw [hc0, h1]; rfl) htl (by omega) (outs_of (by rw [h1]; exact bodyF_neg l) (by rw [h1]; rfl))
    · have n1 : ((s[0].toNat : Int) == 45) = false := by
        rw [hc0]; simp; intro h; exact h1 (by apply UInt8.toNat.inj; simp; omega)
      by_cases h2 : c = 43
      · refine readFix_plus s l _ _ w hs h0 n1 (by rw [hc0, h2]; rfl) htl (by omega) (outs_of (by rw [h2]; exact bodyF_pos l) (by rw [h2]; rfl))
      · have n2 : ((s[0].toNat : Int) == 43) = false := by
          rw [hc0]; simp; intro h; exact h2 (by apply UInt8.toNat.inj; simp; omega)
        exact readFix_else s (c :: l) _ _ w hs h0 n1 n2 (fun k _ h => hget k h) (by simp; omega) (outs_of (bodyF_else l h1 h2) (by simp [negF, h1]))
end Go.Proofs.YtefbfgcbbpmhlabGreatDoor

/-
  The walks of the law FixSays, for every two numbers and every text.
-/
namespace Go.Proofs.YtefbfgcbbpmhlabGreatDoor
open Go.RowKit
set_option maxRecDepth 100000

theorem fixText_rdy (m n : Int) (w : World) (hr : Rdy m w) (h : okF n = true) :
    Calls Tryz.prog 136 #[.int .i64 n] w fun e w' => e = .returned (.string ⟨(fixTxt n).toArray⟩) ∧ Below w.heap.size w w' ∧ Rdy m w' := by
  refine (fixText_any n w h).mono ?_
  rintro e w' ⟨rfl, hb⟩
  exact ⟨rfl, hb, hr.below hb⟩
theorem parseE_nn (l : List UInt8) : 0 ≤ parseE l := by unfold parseE; split <;> (try split) <;> omega
theorem addE_01 (a b : Int) : 0 ≤ addE a b ∧ addE a b ≤ 1 := by unfold addE; split <;> omega
theorem okm1500 : okF (-1500) = true := rfl
theorem txtm1500 : txtB (-1500) = ⟨#[45, 49, 46, 53]⟩ := by rw [txtB_ok rfl, text_m1500]
theorem fltm1500 : flt (-1500) = 0 := rfl

theorem chain5 {a b c d e f : World} (h1 : Below a.heap.size a b) (h2 : Below b.heap.size b c) (h3 : Below c.heap.size c d) (h4 : Below d.heap.size d e) (h5 : Below e.heap.size e f) : Below a.heap.size a f := chain2 (chain4 h1 h2 h3 h4) h5
end Go.Proofs.YtefbfgcbbpmhlabGreatDoor

/-
  The document's own texts of strings and names.
-/
namespace Go.Proofs.YtefbfgcbbpmhlabGreatDoor
open Go.RowKit
set_option maxRecDepth 100000

/-- A byte in a string's text. -/
def escS (c : UInt8) : List UInt8 := if c = 40 ∨ c = 41 ∨ c = 92 then [92, c] else if 32 ≤ c.toNat ∧ c.toNat < 127 then [c] else [92, UInt8.ofNat (48 + c.toNat / 64), UInt8.ofNat (48 + c.toNat / 8 % 8), UInt8.ofNat (48 + c.toNat % 8)]
def strT (s : List UInt8) : List UInt8 := 40 :: s.flatMap escS ++ [41]
theorem conv_new {W : World} {xs : List UInt8} {cells : Array Value} {n c : Nat} {t : TypeId} (hc : cells = (xs.map byteV).toArray) (hn : xs.length = n) :
    (convert 149 9 (.slice (some ⟨W.heap.size, 0, none⟩) n c)).run Tryz.prog (W.alloc (.cells cells t)) = .ok (.string ⟨xs.toArray⟩) (W.alloc (.cells cells t)) := by
  subst hc
  refine conv_row hn fun k hk => ?_
  rw [Lib.add_plain, World.cell?_alloc_new]
  simp [hk, byteV]
theorem escS_len (c : UInt8) : (escS c).length ≤ 4 := by
  unfold escS; split
  · simp
  · split <;> simp
theorem flat_len (l : List UInt8) : (l.flatMap escS).length ≤ 4 * l.length := by
  induction l with
  | nil => simp
  | cons c l ih => have := escS_len c; rw [List.flatMap_cons, List.length_append, List.length_cons]; omega
theorem u8_of {c : UInt8} {k : UInt8} (h : (c.toNat : Int) = (k.toNat : Int)) : c = k := UInt8.toNat_inj.1 (by omega)

theorem add_big {x y z : List UInt8} (hx : x.length ≤ 1000000) (hy : y.length ≤ 1000000) (hz : z = x ++ y) (w : World) : (Op.stringOp .add ⟨x.toArray⟩ ⟨y.toArray⟩).run Tryz.prog w = .ok (.string ⟨z.toArray⟩) w := by
  rw [hz]; exact run_string_add_lists w x y (by omega) (by omega)
set_option maxHeartbeats 1000000 in
theorem strText_says (s : ByteArray) (w : World) (hs : s.size ≤ 100000) :
    Calls Tryz.prog 137 #[.string s] w fun e w' => e = .returned (.string ⟨(strT s.data.toList).toArray⟩) ∧ Below w.heap.size w w' := by
  go_enter Tryz.func137, Tryz.ntmps137
  go_wp2
  go_loopw [3, 4] (fun t i wr => ∃ k : Nat, i = .int .i64 k ∧ k ≤ s.size ∧ t = .string ⟨(40 :: (s.data.toList.take k).flatMap escS).toArray⟩ ∧ Below w.heap.size w wr) (fun _ i _ => s.size - (intOf i).toNat)
  case atStart => exact ⟨0, rfl, Nat.zero_le _, rfl, Below.refl _ _⟩
  case round =>
    obtain ⟨k, rfl, hk, rfl, hB⟩ := hrel
    have hfl := flat_len (s.data.toList.take k)
    have hfl2 : ((s.data.toList.take k).flatMap escS).length ≤ 400000 := by
      have : (s.data.toList.take k).length ≤ s.size := by simp; omega
      omega
    clear hfl
    generalize hpre : (s.data.toList.take k).flatMap escS = pre at *
    have HPRE := hid hpre
    clear hpre
    by_cases hlt : k < s.size
    · have HT := hid (take_snoc s k hlt)
      have hc256 := s[k].toNat_lt
      have step : ∀ (xs : List UInt8), escS s[k] = xs → ∃ k' : Nat, Value.int .i64 ((k : Int) + 1) = .int .i64 k' ∧ k' ≤ s.size ∧ Value.string ⟨(40 :: (pre ++ xs)).toArray⟩ = .string ⟨(40 :: (s.data.toList.take k').flatMap escS).toArray⟩ ∧ s.size - k' < s.size - k := fun xs hx =>
        ⟨k + 1, by go_num, by omega, by rw [HT.out, List.flatMap_append, HPRE.out, List.flatMap_singleton, hx], by omega⟩
      have STEP := hid step
      clear step
      by_cases h40 : (s[k].toNat : Int) = 40
      · have HE := hid (show escS s[k] = [92, 40] by rw [u8_of (k := 40) h40]; rfl)
        have hcv := fun (W : World) (t : TypeId) => conv_new (W := W) (xs := [92, 40]) (cells := #[.int .u8 92, .int .u8 40]) (n := 2) (c := 2) (t := t) (by simp [byteV]) rfl
        have ha := add_big (x := 40 :: pre) (y := [92, 40]) (z := 40 :: (pre ++ [92, 40])) (by simp; omega) (by simp) (by simp)
        go_wp2
        go_roundw
        case rel =>
          obtain ⟨k', e1, e2, e3, e4⟩ := STEP.out _ HE.out
          exact ⟨k', e1, e2, e3, hB.alloc hB.size _⟩
        case measure => simp [intOf]; omega
      by_cases h41 : (s[k].toNat : Int) = 41
      · have HE := hid (show escS s[k] = [92, 41] by rw [u8_of (k := 41) h41]; rfl)
        have hcv := fun (W : World) (t : TypeId) => conv_new (W := W) (xs := [92, 41]) (cells := #[.int .u8 92, .int .u8 41]) (n := 2) (c := 2) (t := t) (by simp [byteV]) rfl
        have ha := add_big (x := 40 :: pre) (y := [92, 41]) (z := 40 :: (pre ++ [92, 41])) (by simp; omega) (by simp) (by simp)
        go_wp2
        go_roundw
        case rel =>
          obtain ⟨k', e1, e2, e3, e4⟩ := STEP.out _ HE.out
          exact ⟨k', e1, e2, e3, hB.alloc hB.size _⟩
        case measure => simp [intOf]; omega
      by_cases h92 : (s[k].toNat : Int) = 92
      · have HE := hid (show escS s[k] = [92, 92] by rw [u8_of (k := 92) h92]; rfl)
        have hcv := fun (W : World) (t : TypeId) => conv_new (W := W) (xs := [92, 92]) (cells := #[.int .u8 92, .int .u8 92]) (n := 2) (c := 2) (t := t) (by simp [byteV]) rfl
        have ha := add_big (x := 40 :: pre) (y := [92, 92]) (z := 40 :: (pre ++ [92, 92])) (by simp; omega) (by simp) (by simp)
        go_wp2
        go_roundw
        case rel =>
          obtain ⟨k', e1, e2, e3, e4⟩ := STEP.out _ HE.out
          exact ⟨k', e1, e2, e3, hB.alloc hB.size _⟩
        case measure => simp [intOf]; omega
      have hne : ¬ (s[k] = 40 ∨ s[k] = 41 ∨ s[k] = 92) := by
        rintro (h | h | h)
        · exact h40 (by rw [h]; rfl)
        · exact h41 (by rw [h]; rfl)
        · exact h92 (by rw [h]; rfl)
      have HNE := hid hne
      clear hne
      have b40 : ((s[k].toNat : Int) == 40) = false := by simpa using h40
      have b41 : ((s[k].toNat : Int) == 41) = false := by simpa using h41
      have b92 : ((s[k].toNat : Int) == 92) = false := by simpa using h92
      by_cases hp : 32 ≤ (s[k].toNat : Int) ∧ (s[k].toNat : Int) < 127
      · obtain ⟨hp1, hp2⟩ := hp
        have HE := hid (show escS s[k] = [s[k]] by unfold escS; rw [if_neg HNE.out, if_pos (by omega)])
        have hcv := fun (W : World) (t : TypeId) => conv_new (W := W) (xs := [s[k]]) (cells := #[.int .u8 (s[k].toNat : Int)]) (n := 1) (c := 1) (t := t) (by simp [byteV]) rfl
        have ha := add_big (x := 40 :: pre) (y := [s[k]]) (z := 40 :: (pre ++ [s[k]])) (by simp; omega) (by simp) (by simp)
        go_wp2
        go_roundw
        case rel =>
          obtain ⟨k', e1, e2, e3, e4⟩ := STEP.out _ HE.out
          exact ⟨k', e1, e2, e3, hB.alloc hB.size _⟩
        case measure => simp [intOf]; omega
      · have ex : ∃ o1 o2 o3 : UInt8, escS s[k] = [92, o1, o2, o3] ∧ (o1.toNat : Int) = 48 + (s[k].toNat : Int) / 64 ∧ (o2.toNat : Int) = 48 + (s[k].toNat : Int) / 8 % 8 ∧ (o3.toNat : Int) = 48 + (s[k].toNat : Int) % 8 :=
          ⟨_, _, _, by unfold escS; rw [if_neg HNE.out, if_neg (by omega)], by simp; omega, by simp; omega, by simp; omega⟩
        obtain ⟨o1, o2, o3, he, q1, q2, q3⟩ := ex
        have HE := hid he
        have hcv := fun (W : World) (t : TypeId) => conv_new (W := W) (xs := [92, o1, o2, o3]) (cells := #[.int .u8 92, .int .u8 (48 + (s[k].toNat : Int) / 64), .int .u8 (48 + (s[k].toNat : Int) / 8 % 8), .int .u8 (48 + (s[k].toNat : Int) % 8)]) (n := 4) (c := 4) (t := t) (by rw [← q1, ← q2, ← q3]; rfl) rfl
        have ha := add_big (x := 40 :: pre) (y := [92, o1, o2, o3]) (z := 40 :: (pre ++ [92, o1, o2, o3])) (by simp; omega) (by simp) (by simp)
        clear he q1 q2 q3
        by_cases hp3 : 32 ≤ (s[k].toNat : Int)
        all_goals
          first
            | have hp4 : ¬ (s[k].toNat : Int) < 127 := fun h => hp ⟨hp3, h⟩
            | skip
          clear hp
          go_wp2
          go_roundw
          case rel =>
            obtain ⟨k', e1, e2, e3, e4⟩ := STEP.out _ HE.out
            exact ⟨k', e1, e2, e3, hB.alloc hB.size _⟩
          case measure => simp [intOf]; omega
    · have hke : k = s.size := by omega
      have ha := add_big (x := 40 :: pre) (y := [41]) (z := 40 :: pre ++ [41]) (by simp; omega) (by simp) (by simp)
      go_wp2
      go_ret
      refine ⟨ret_str ?_, hB⟩
      have := HPRE.out
      rw [hke, List.take_of_length_le (by simp)] at this
      unfold strT
      rw [this]
      try rw [ba_append]
      rfl
end Go.Proofs.YtefbfgcbbpmhlabGreatDoor
