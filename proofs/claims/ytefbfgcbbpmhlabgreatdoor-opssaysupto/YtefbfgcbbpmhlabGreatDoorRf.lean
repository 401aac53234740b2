/-
  Joined: Tf, Pr, Rf.
-/
import Derived.Test.YtefbfgcbbpmhlabGreatDoorRd
import Derived.Test.YtefbfgcbbpmhlabGreatDoorPp
import Derived.Test.YtefbfgcbbpmhlabGreatDoorFg

/-
  The walks of the law TopFix, for every two numbers.
-/
namespace Go.Proofs.YtefbfgcbbpmhlabGreatDoor
open Go.RowKit
set_option maxRecDepth 100000

theorem txt1250 : txtB 1250 = ⟨#[49, 46, 50, 53]⟩ := by rw [txtB_ok rfl, text_1250]
theorem chain2 {a b c : World} (h1 : Below a.heap.size a b) (h2 : Below b.heap.size b c) : Below a.heap.size a c := h1.trans (h2.mono h1.size)
theorem chain4 {a b c d e : World} (h1 : Below a.heap.size a b) (h2 : Below b.heap.size b c) (h3 : Below c.heap.size c d) (h4 : Below d.heap.size d e) : Below a.heap.size a e := chain2 (chain2 (chain2 h1 h2) h3) h4
theorem err1250 : errN (flt 1250) = .nilIface := rfl
theorem errBad {a : Int} (h : okF a = false) : errN (flt a) = .iface 86 (.int .i64 1) := by rw [flt_bad h]; rfl
theorem errOk {a : Int} (h : okF a = true) : errN (flt a) = .nilIface := by rw [flt_ok h]; rfl

theorem chain6 {a b c d e f g : World} (h1 : Below a.heap.size a b) (h2 : Below b.heap.size b c) (h3 : Below c.heap.size c d) (h4 : Below d.heap.size d e) (h5 : Below e.heap.size e f) (h6 : Below f.heap.size f g) : Below a.heap.size a g := chain2 (chain4 h1 h2 h3 h4) (chain2 h5 h6)

end Go.Proofs.YtefbfgcbbpmhlabGreatDoor

/-
  Plain: the document's reading of a number, byte by byte: what has been seen at each step, and what it comes to.
-/
namespace Go.Proofs.YtefbfgcbbpmhlabGreatDoor
open Go.RowKit

/-- Ahead of the point: the digits seen so far. -/
def Mode1 (r : List UInt8) (j whole : Nat) : Prop := ∃ a rest, r = a ++ rest ∧ allD a = true ∧ j = a.length ∧ whole = satW 0 a
/-- Behind the point. -/
def Mode2 (r : List UInt8) (j whole part wo digits : Nat) : Prop :=
  ∃ a b rest, r = a ++ 46 :: (b ++ rest) ∧ allD a = true ∧ allD b = true ∧ j = a.length + 1 + b.length ∧ whole = satW 0 a ∧ part = frac3 b ∧ wo = worth b.length ∧ digits = a.length + b.length
theorem allD_snoc {a : List UInt8} {c : UInt8} (ha : allD a = true) (hc : isD c = true) : allD (a ++ [c]) = true := by
  unfold allD at *; rw [List.all_append, ha]; simp [hc]
theorem mode1_start (r : List UInt8) : Mode1 r 0 0 := ⟨[], r, rfl, rfl, rfl, rfl⟩
theorem split_at {r a rest : List UInt8} {c : UInt8} (h : r = a ++ rest) (hc : r[a.length]? = some c) : ∃ rest', rest = c :: rest' := by
  subst h
  rw [List.getElem?_append_right (Nat.le_refl _), Nat.sub_self] at hc
  cases rest with
  | nil => simp at hc
  | cons d l => simp at hc; exact ⟨l, by rw [hc]⟩
theorem mode1_digit {r : List UInt8} {j whole : Nat} {c : UInt8} (h : Mode1 r j whole) (hc : r[j]? = some c) (hd : isD c = true) : Mode1 r (j + 1) (if whole < 10000000 then 10 * whole + (c.toNat - 48) else whole) := by
  obtain ⟨a, rest, h1, h2, rfl, rfl⟩ := h
  obtain ⟨rest', rfl⟩ := split_at h1 hc
  exact ⟨a ++ [c], rest', by rw [h1]; simp, allD_snoc h2 hd, by simp, by rw [satW_snoc]⟩
theorem mode1_dot {r : List UInt8} {j whole : Nat} (h : Mode1 r j whole) (hc : r[j]? = some 46) : Mode2 r (j + 1) whole 0 100 j := by
  obtain ⟨a, rest, h1, h2, rfl, rfl⟩ := h
  obtain ⟨rest', rfl⟩ := split_at h1 hc
  exact ⟨a, [], rest', by rw [h1]; rfl, h2, rfl, by simp, rfl, rfl, rfl, by simp⟩
theorem mode1_bad {r : List UInt8} {j whole : Nat} {c : UInt8} (h : Mode1 r j whole) (hc : r[j]? = some c) (hd : isD c = false) (h46 : c ≠ 46) : goodF r = false := by
  obtain ⟨a, rest, h1, h2, rfl, rfl⟩ := h
  obtain ⟨rest', rfl⟩ := split_at h1 hc
  rw [h1]; exact bad_whole rest' h2 hd h46
theorem split_at2 {r a b rest : List UInt8} {c : UInt8} (h : r = a ++ 46 :: (b ++ rest)) (hc : r[a.length + 1 + b.length]? = some c) : ∃ rest', rest = c :: rest' := by
  have h' : r = (a ++ 46 :: b) ++ rest := by rw [h]; simp
  refine split_at h' ?_
  rw [← hc]; congr 1; simp; omega
theorem mode2_digit {r : List UInt8} {j whole part wo digits : Nat} {c : UInt8} (h : Mode2 r j whole part wo digits) (hc : r[j]? = some c) (hd : isD c = true) : Mode2 r (j + 1) whole (part + wo * (c.toNat - 48)) (wo / 10) (digits + 1) := by
  obtain ⟨a, b, rest, h1, h2, h3, rfl, rfl, rfl, rfl, rfl⟩ := h
  obtain ⟨rest', rfl⟩ := split_at2 h1 hc
  exact ⟨a, b ++ [c], rest', by rw [h1]; simp, h2, allD_snoc h3 hd, by simp; omega, rfl, by rw [frac3_snoc], by rw [worth_step]; simp, by simp; omega⟩
theorem mode2_bad {r : List UInt8} {j whole part wo digits : Nat} {c : UInt8} (h : Mode2 r j whole part wo digits) (hc : r[j]? = some c) (hd : isD c = false) : goodF r = false := by
  obtain ⟨a, b, rest, h1, h2, h3, rfl, rfl, rfl, rfl, rfl⟩ := h
  obtain ⟨rest', rfl⟩ := split_at2 h1 hc
  rw [h1]; exact bad_part rest' h2 hd
theorem mode1_bd {r : List UInt8} {j whole : Nat} (h : Mode1 r j whole) : whole ≤ 100000000 ∧ j ≤ r.length := by
  obtain ⟨a, rest, h1, h2, rfl, rfl⟩ := h
  exact ⟨satW_le a 0 h2 (by omega), by rw [h1]; simp⟩
theorem worth_le (k : Nat) : worth k ≤ 100 := by unfold worth; split <;> (try split) <;> (try split) <;> omega
theorem mode2_bd {r : List UInt8} {j whole part wo digits : Nat} (h : Mode2 r j whole part wo digits) : whole ≤ 100000000 ∧ part ≤ 999 ∧ wo ≤ 100 ∧ j ≤ r.length ∧ digits ≤ r.length := by
  obtain ⟨a, b, rest, h1, h2, h3, rfl, rfl, rfl, rfl, rfl⟩ := h
  refine ⟨satW_le a 0 h2 (by omega), frac3_lt b h3, worth_le _, ?_, ?_⟩ <;> rw [h1] <;> simp <;> omega
/-- What it comes to in the end: the same as the text is. -/
def EndIs (r : List UInt8) (whole part digits : Nat) : Prop :=
  (digits = 0 → goodF r = false) ∧ (digits ≠ 0 → goodF r = true ∧ (1000 * whole + part ≤ 1000000000 → magF r = 1000 * whole + part) ∧ (1000000000 < 1000 * whole + part → 1000000000 < magF r))
theorem end_of {r a b : List UInt8} (h1 : wholeOf r = a) (h2 : partOf r = b) (ha : allD a = true) (hb : allD b = true) : EndIs r (satW 0 a) (frac3 b) (a.length + b.length) := by
  have hs := satW_sat a 0 0 (Or.inl rfl)
  have hf := frac3_lt b hb
  refine ⟨fun h0 => by simp [goodF, h1, h2, h0], fun h0 => ⟨goodF_iff.2 ⟨by rw [h1]; exact ha, by rw [h2]; exact hb, by rw [h1, h2]; exact h0⟩, ?_, ?_⟩⟩
  · intro hle; unfold magF; rw [h1, h2]
    rcases hs with hs | hs
    · rw [hs]
    · omega
  · intro hgt; unfold magF; rw [h1, h2]
    rcases hs with hs | hs
    · rw [← hs]; exact hgt
    · omega
theorem mode1_end {r : List UInt8} {whole : Nat} (h : Mode1 r r.length whole) : EndIs r whole 0 r.length := by
  obtain ⟨a, rest, h1, h2, h3, rfl⟩ := h
  have : rest = [] := by
    have := congrArg List.length h1; rw [List.length_append] at this; exact List.length_eq_zero_iff.1 (by omega)
  subst this
  rw [List.append_nil] at h1; subst h1
  have hw := whole_none h2
  have := end_of hw.1 hw.2 h2 rfl
  simpa [frac3] using this
theorem mode2_end {r : List UInt8} {whole part wo digits : Nat} (h : Mode2 r r.length whole part wo digits) : EndIs r whole part digits := by
  obtain ⟨a, b, rest, h1, h2, h3, h4, rfl, rfl, rfl, rfl⟩ := h
  have : rest = [] := by
    have := congrArg List.length h1; rw [List.length_append, List.length_cons, List.length_append] at this; exact List.length_eq_zero_iff.1 (by omega)
  subst this
  rw [List.append_nil] at h1
  have hw := whole_dot b h2
  rw [← h1] at hw
  exact end_of hw.1 hw.2 h2 h3
end Go.Proofs.YtefbfgcbbpmhlabGreatDoor

/-
  Contract: the document's reading of a number, for every text of at most a hundred bytes.
-/
namespace Go.Proofs.YtefbfgcbbpmhlabGreatDoor
open Go.RowKit
set_option maxRecDepth 100000

theorem ret2_ints {a b c d : Int} (h1 : a = c) (h2 : b = d) : Ending.returned (.tuple #[.int .i64 a, .int .i64 b]) = .returned (.tuple #[.int .i64 c, .int .i64 d]) := by rw [h1, h2]
theorem isD_of {c : UInt8} (h1 : (48 : Int) ≤ c.toNat) (h2 : (c.toNat : Int) ≤ 57) : isD c = true := by simp [isD]; omega
theorem isD_not {c : UInt8} (h : (c.toNat : Int) < 48 ∨ 57 < (c.toNat : Int)) : isD c = false := by simp [isD]; omega
theorem is46 {c : UInt8} (h : (c.toNat : Int) = 46) : c = 46 := by apply UInt8.toNat.inj; simp; omega
theorem prod_bd {a b : Nat} (ha : a ≤ 100) (hb : b ≤ 9) : a * b ≤ 900 := by have := Nat.mul_le_mul ha hb; omega
/-- What is handed back, by what the text is. -/
structure Outs (r : List UInt8) (neg : Bool) (N E : Int) : Prop where
  bad : goodF r = false → N = 0 ∧ E = 4
  big : goodF r = true → 1000000000 < magF r → N = 0 ∧ E = 1
  ok : goodF r = true → magF r ≤ 1000000000 → N = (if neg then -(magF r : Int) else magF r) ∧ E = 0
theorem outs_of {L r : List UInt8} {neg : Bool} (hb : bodyF L = r) (hn : negF L = neg) : Outs r neg (parseN L) (parseE L) := by
  subst hb hn
  exact ⟨fun h => (parseE_text h).symm, fun h h2 => (parseE_big h h2).symm, fun h h2 => (parseE_ok h h2).symm⟩

set_option maxHeartbeats 4000000 in
theorem readFix_minus (s : ByteArray) (r : List UInt8) (N E : Int) (w : World) (hs : s.size ≤ 100000) (h0 : 0 < s.size) (h45 : ((s[0].toNat : Int) == 45) = true)
    (hbyte : ∀ k, 1 ≤ k → (h : k < s.size) → r[k - 1]? = some s[k]) (hlen : 1 + r.length = s.size) (ho : Outs r true N E) :
    Calls Tryz.prog 191 #[.string s] w fun e w' => e = .returned (.tuple #[.int .i64 N, .int .i64 E]) ∧ w' = w := by
  go_enter Tryz.func191, Tryz.ntmps191
  go_wp2
  go_loop [4, 6, 7, 8, 9, 10] (fun at' wh pa wo di pt => ∃ k W P Wo D : Nat, at' = .int .i64 k ∧ wh = .int .i64 W ∧ pa = .int .i64 P ∧ wo = .int .i64 Wo ∧ di = .int .i64 D ∧ 1 ≤ k ∧ ((pt = .bool false ∧ Mode1 r (k - 1) W ∧ P = 0 ∧ Wo = 100 ∧ D = k - 1) ∨ (pt = .bool true ∧ Mode2 r (k - 1) W P Wo D))) (fun at' _ _ _ _ _ => s.size - (intOf at').toNat)
  case atStart => exact ⟨1, 0, 0, 100, 0, rfl, rfl, rfl, rfl, rfl, by omega, Or.inl ⟨rfl, mode1_start r, rfl, rfl, rfl⟩⟩
  case round =>
    obtain ⟨k, W, P, Wo, D, rfl, rfl, rfl, rfl, rfl, hko, hm⟩ := hrel
    rcases hm with ⟨rfl, hm, rfl, rfl, hD⟩ | ⟨rfl, hm⟩
    · obtain ⟨b1, b2⟩ := mode1_bd hm
      have HM := hid hm
      have HD := hid hD
      have hDl : D ≤ 100000 := by omega
      clear hm hD
      by_cases hlt : k < s.size
      · have HB := hid (hbyte k hko hlt)
        by_cases h46 : (s[k].toNat : Int) = 46
        · have HC := hid h46
          have t46 : ((s[k].toNat : Int) == 46) = true := by simp; omega
          clear hbyte h46
          go_wp2
          go_round
          case rel =>
            refine ⟨k + 1, W, 0, 100, D, by go_num, rfl, rfl, rfl, rfl, by omega, Or.inr ⟨rfl, ?_⟩⟩
            have hb := HB.out
            rw [is46 HC.out] at hb
            have := mode1_dot HM.out hb
            rwa [show k - 1 + 1 = k + 1 - 1 by omega, ← HD.out] at this
          case measure => simp [intOf]; omega
        · have t46 : ((s[k].toNat : Int) == 46) = false := by simp; omega
          have HC := hid h46
          clear h46 hbyte
          by_cases h48 : (s[k].toNat : Int) < 48
          · go_wp2
            go_ret2
            obtain ⟨q1, q2⟩ := ho.bad (mode1_bad HM.out HB.out (isD_not (Or.inl h48)) (fun e => HC.out (by rw [e]; rfl)))
            exact ⟨ret2_ints q1.symm q2.symm, rfl⟩
          by_cases h57 : (57 : Int) < (s[k].toNat : Int)
          · go_wp2
            go_ret2
            obtain ⟨q1, q2⟩ := ho.bad (mode1_bad HM.out HB.out (isD_not (Or.inr h57)) (fun e => HC.out (by rw [e]; rfl)))
            exact ⟨ret2_ints q1.symm q2.symm, rfl⟩
          have d1 : (48 : Int) ≤ (s[k].toNat : Int) := by omega
          have d2 : (s[k].toNat : Int) ≤ 57 := by omega
          have HS := hid (mode1_digit HM.out HB.out (isD_of d1 d2))
          by_cases hW : W < 10000000
          · have hW' : (W : Int) < 10000000 := by omega
            go_wp2
            go_round
            case rel =>
              refine ⟨k + 1, 10 * W + (s[k].toNat - 48), 0, 100, D + 1, by go_num, by congr 1; omega, rfl, rfl, by go_num, by omega, Or.inl ⟨rfl, ?_, rfl, rfl, by have := HD.out; omega⟩⟩
              have := HS.out
              rwa [if_pos hW, show k - 1 + 1 = k + 1 - 1 by omega] at this
            case measure => simp [intOf]; omega
          · have hW' : ¬ (W : Int) < 10000000 := by omega
            go_wp2
            go_round
            case rel =>
              refine ⟨k + 1, W, 0, 100, D + 1, by go_num, rfl, rfl, rfl, by go_num, by omega, Or.inl ⟨rfl, ?_, rfl, rfl, by have := HD.out; omega⟩⟩
              have := HS.out
              rwa [if_neg hW, show k - 1 + 1 = k + 1 - 1 by omega] at this
            case measure => simp [intOf]; omega
      · have ek : k - 1 = r.length := by omega
        have hend := mode1_end (by have := HM.out; rwa [ek] at this)
        clear hbyte
        have eD : D = r.length := by have := HD.out; omega
        rw [← eD] at hend
        have HEK := hid ek
        clear ek eD
        by_cases h0 : D = 0
        · have hz : ((D : Int) == 0) = true := by simp; omega
          go_wp2
          go_ret2
          obtain ⟨q1, q2⟩ := ho.bad (hend.1 h0)
          exact ⟨ret2_ints q1.symm q2.symm, rfl⟩
        · have hz : ((D : Int) == 0) = false := by simp; omega
          obtain ⟨hg, hle, hgt⟩ := hend.2 h0
          have HL := hid hle
          have HG := hid hgt
          clear hend hle hgt
          by_cases hbig : 1000000000 < 1000 * W + 0
          · have hbig' : (1000000000 : Int) < 1000 * (W : Int) := by omega
            go_wp2
            go_ret2
            obtain ⟨q1, q2⟩ := ho.big hg (HG.out hbig)
            exact ⟨ret2_ints q1.symm q2.symm, rfl⟩
          · have hbig' : ¬ (1000000000 : Int) < 1000 * (W : Int) := by omega
            go_wp2
            go_ret2
            have e := HL.out (by omega)
            obtain ⟨q1, q2⟩ := ho.ok hg (by omega)
            exact ⟨ret2_ints (by rw [q1, e]; simp) q2.symm, rfl⟩
    · obtain ⟨b1, b2, b3, b4, b5⟩ := mode2_bd hm
      have HM := hid hm
      clear hm
      by_cases hlt : k < s.size
      · have HB := hid (hbyte k hko hlt)
        by_cases h46 : (s[k].toNat : Int) = 46
        · have HC := hid h46
          have t46 : ((s[k].toNat : Int) == 46) = true := by simp; omega
          have h48 : (s[k].toNat : Int) < 48 := by omega
          clear hbyte h46
          go_wp2
          go_ret2
          obtain ⟨q1, q2⟩ := ho.bad (mode2_bad HM.out HB.out (isD_not (Or.inl h48)))
          exact ⟨ret2_ints q1.symm q2.symm, rfl⟩
        · have t46 : ((s[k].toNat : Int) == 46) = false := by simp; omega
          clear h46 hbyte
          by_cases h48 : (s[k].toNat : Int) < 48
          · go_wp2
            go_ret2
            obtain ⟨q1, q2⟩ := ho.bad (mode2_bad HM.out HB.out (isD_not (Or.inl h48)))
            exact ⟨ret2_ints q1.symm q2.symm, rfl⟩
          by_cases h57 : (57 : Int) < (s[k].toNat : Int)
          · go_wp2
            go_ret2
            obtain ⟨q1, q2⟩ := ho.bad (mode2_bad HM.out HB.out (isD_not (Or.inr h57)))
            exact ⟨ret2_ints q1.symm q2.symm, rfl⟩
          have d1 : (48 : Int) ≤ (s[k].toNat : Int) := by omega
          have d2 : (s[k].toNat : Int) ≤ 57 := by omega
          have HS := hid (mode2_digit HM.out HB.out (isD_of d1 d2))
          have hpn := prod_bd b3 (show s[k].toNat - 48 ≤ 9 by omega)
          have hpc : ((Wo * (s[k].toNat - 48) : Nat) : Int) = (Wo : Int) * ((s[k].toNat : Int) - 48) := by
            rw [Int.natCast_mul, Int.natCast_sub (by omega)]; rfl
          have hp1 : 0 ≤ (Wo : Int) * ((s[k].toNat : Int) - 48) := by rw [← hpc]; omega
          have hp2 : (Wo : Int) * ((s[k].toNat : Int) - 48) ≤ 900 := by rw [← hpc]; omega
          have HP := hid hpc
          clear hpc hpn
          go_wp2
          go_round
          case rel =>
            refine ⟨k + 1, W, P + Wo * (s[k].toNat - 48), Wo / 10, D + 1, by go_num, rfl, by congr 1; have := HP.out; omega, by congr 1, by go_num, by omega, Or.inr ⟨rfl, ?_⟩⟩
            have := HS.out
            rwa [show k - 1 + 1 = k + 1 - 1 by omega] at this
          case measure => simp [intOf]; omega
      · have ek : k - 1 = r.length := by omega
        have hend := mode2_end (by have := HM.out; rwa [ek] at this)
        clear hbyte ek
        by_cases h0 : D = 0
        · have hz : ((D : Int) == 0) = true := by simp; omega
          go_wp2
          go_ret2
          obtain ⟨q1, q2⟩ := ho.bad (hend.1 h0)
          exact ⟨ret2_ints q1.symm q2.symm, rfl⟩
        · have hz : ((D : Int) == 0) = false := by simp; omega
          obtain ⟨hg, hle, hgt⟩ := hend.2 h0
          have HL := hid hle
          have HG := hid hgt
          clear hend hle hgt
          by_cases hbig : 1000000000 < 1000 * W + P
          · have hbig' : (1000000000 : Int) < 1000 * (W : Int) + (P : Int) := by omega
            go_wp2
            go_ret2
            obtain ⟨q1, q2⟩ := ho.big hg (HG.out hbig)
            exact ⟨ret2_ints q1.symm q2.symm, rfl⟩
          · have hbig' : ¬ (1000000000 : Int) < 1000 * (W : Int) + (P : Int) := by omega
            go_wp2
            go_ret2
            have e := HL.out (by omega)
            obtain ⟨q1, q2⟩ := ho.ok hg (by omega)
            exact ⟨ret2_ints (by rw [q1, e]; simp) q2.symm, rfl⟩

set_option maxHeartbeats 4000000 in
theorem readFix_plus (s : ByteArray) (r : List UInt8) (N E : Int) (w : World) (hs : s.size ≤ 100000) (h0 : 0 < s.size) (h45 : ((s[0].toNat : Int) == 45) = false) (h43 : ((s[0].toNat : Int) == 43) = true)
    (hbyte : ∀ k, 1 ≤ k → (h : k < s.size) → r[k - 1]? = some s[k]) (hlen : 1 + r.length = s.size) (ho : Outs r false N E) :
    Calls Tryz.prog 191 #[.string s] w fun e w' => e = .returned (.tuple #[.int .i64 N, .int .i64 E]) ∧ w' = w := by
  go_enter Tryz.func191, Tryz.ntmps191
  go_wp2
  go_loop [4, 6, 7, 8, 9, 10] (fun at' wh pa wo di pt => ∃ k W P Wo D : Nat, at' = .int .i64 k ∧ wh = .int .i64 W ∧ pa = .int .i64 P ∧ wo = .int .i64 Wo ∧ di = .int .i64 D ∧ 1 ≤ k ∧ ((pt = .bool false ∧ Mode1 r (k - 1) W ∧ P = 0 ∧ Wo = 100 ∧ D = k - 1) ∨ (pt = .bool true ∧ Mode2 r (k - 1) W P Wo D))) (fun at' _ _ _ _ _ => s.size - (intOf at').toNat)
  case atStart => exact ⟨1, 0, 0, 100, 0, rfl, rfl, rfl, rfl, rfl, by omega, Or.inl ⟨rfl, mode1_start r, rfl, rfl, rfl⟩⟩
  case round =>
    obtain ⟨k, W, P, Wo, D, rfl, rfl, rfl, rfl, rfl, hko, hm⟩ := hrel
    rcases hm with ⟨rfl, hm, rfl, rfl, hD⟩ | ⟨rfl, hm⟩
    · obtain ⟨b1, b2⟩ := mode1_bd hm
      have HM := hid hm
      have HD := hid hD
      have hDl : D ≤ 100000 := by omega
      clear hm hD
      by_cases hlt : k < s.size
      · have HB := hid (hbyte k hko hlt)
        by_cases h46 : (s[k].toNat : Int) = 46
        · have HC := hid h46
          have t46 : ((s[k].toNat : Int) == 46) = true := by simp; omega
          clear hbyte h46
          go_wp2
          go_round
          case rel =>
            refine ⟨k + 1, W, 0, 100, D, by go_num, rfl, rfl, rfl, rfl, by omega, Or.inr ⟨rfl, ?_⟩⟩
            have hb := HB.out
            rw [is46 HC.out] at hb
            have := mode1_dot HM.out hb
            rwa [show k - 1 + 1 = k + 1 - 1 by omega, ← HD.out] at this
          case measure => simp [intOf]; omega
        · have t46 : ((s[k].toNat : Int) == 46) = false := by simp; omega
          have HC := hid h46
          clear h46 hbyte
          by_cases h48 : (s[k].toNat : Int) < 48
          · go_wp2
            go_ret2
            obtain ⟨q1, q2⟩ := ho.bad (mode1_bad HM.out HB.out (isD_not (Or.inl h48)) (fun e => HC.out (by rw [e]; rfl)))
            exact ⟨ret2_ints q1.symm q2.symm, rfl⟩
          by_cases h57 : (57 : Int) < (s[k].toNat : Int)
          · go_wp2
            go_ret2
            obtain ⟨q1, q2⟩ := ho.bad (mode1_bad HM.out HB.out (isD_not (Or.inr h57)) (fun e => HC.out (by rw [e]; rfl)))
            exact ⟨ret2_ints q1.symm q2.symm, rfl⟩
          have d1 : (48 : Int) ≤ (s[k].toNat : Int) := by omega
          have d2 : (s[k].toNat : Int) ≤ 57 := by omega
          have HS := hid (mode1_digit HM.out HB.out (isD_of d1 d2))
          by_cases hW : W < 10000000
          · have hW' : (W : Int) < 10000000 := by omega
            go_wp2
            go_round
            case rel =>
              refine ⟨k + 1, 10 * W + (s[k].toNat - 48), 0, 100, D + 1, by go_num, by congr 1; omega, rfl, rfl, by go_num, by omega, Or.inl ⟨rfl, ?_, rfl, rfl, by have := HD.out; omega⟩⟩
              have := HS.out
              rwa [if_pos hW, show k - 1 + 1 = k + 1 - 1 by omega] at this
            case measure => simp [intOf]; omega
          · have hW' : ¬ (W : Int) < 10000000 := by omega
            go_wp2
            go_round
            case rel =>
              refine ⟨k + 1, W, 0, 100, D + 1, by go_num, rfl, rfl, rfl, by go_num, by omega, Or.inl ⟨rfl, ?_, rfl, rfl, by have := HD.out; omega⟩⟩
              have := HS.out
              rwa [if_neg hW, show k - 1 + 1 = k + 1 - 1 by omega] at this
            case measure => simp [intOf]; omega
      · have ek : k - 1 = r.length := by omega
        have hend := mode1_end (by have := HM.out; rwa [ek] at this)
        clear hbyte
        have eD : D = r.length := by have := HD.out; omega
        rw [← eD] at hend
        have HEK := hid ek
        clear ek eD
        by_cases h0 : D = 0
        · have hz : ((D : Int) == 0) = true := by simp; omega
          go_wp2
          go_ret2
          obtain ⟨q1, q2⟩ := ho.bad (hend.1 h0)
          exact ⟨ret2_ints q1.symm q2.symm, rfl⟩
        · have hz : ((D : Int) == 0) = false := by simp; omega
          obtain ⟨hg, hle, hgt⟩ := hend.2 h0
          have HL := hid hle
          have HG := hid hgt
          clear hend hle hgt
          by_cases hbig : 1000000000 < 1000 * W + 0
          · have hbig' : (1000000000 : Int) < 1000 * (W : Int) := by omega
            go_wp2
            go_ret2
            obtain ⟨q1, q2⟩ := ho.big hg (HG.out hbig)
            exact ⟨ret2_ints q1.symm q2.symm, rfl⟩
          · have hbig' : ¬ (1000000000 : Int) < 1000 * (W : Int) := by omega
            go_wp2
            go_ret2
            have e := HL.out (by omega)
            obtain ⟨q1, q2⟩ := ho.ok hg (by omega)
            exact ⟨ret2_ints (by rw [q1, e]; simp) q2.symm, rfl⟩
    · obtain ⟨b1, b2, b3, b4, b5⟩ := mode2_bd hm
      have HM := hid hm
      clear hm
      by_cases hlt : k < s.size
      · have HB := hid (hbyte k hko hlt)
        by_cases h46 : (s[k].toNat : Int) = 46
        · have HC := hid h46
          have t46 : ((s[k].toNat : Int) == 46) = true := by simp; omega
          have h48 : (s[k].toNat : Int) < 48 := by omega
          clear hbyte h46
          go_wp2
          go_ret2
          obtain ⟨q1, q2⟩ := ho.bad (mode2_bad HM.out HB.out (isD_not (Or.inl h48)))
          exact ⟨ret2_ints q1.symm q2.symm, rfl⟩
        · have t46 : ((s[k].toNat : Int) == 46) = false := by simp; omega
          clear h46 hbyte
          by_cases h48 : (s[k].toNat : Int) < 48
          · go_wp2
            go_ret2
            obtain ⟨q1, q2⟩ := ho.bad (mode2_bad HM.out HB.out (isD_not (Or.inl h48)))
            exact ⟨ret2_ints q1.symm q2.symm, rfl⟩
          by_cases h57 : (57 : Int) < (s[k].toNat : Int)
          · go_wp2
            go_ret2
            obtain ⟨q1, q2⟩ := ho.bad (mode2_bad HM.out HB.out (isD_not (Or.inr h57)))
            exact ⟨ret2_ints q1.symm q2.symm, rfl⟩
          have d1 : (48 : Int) ≤ (s[k].toNat : Int) := by omega
          have d2 : (s[k].toNat : Int) ≤ 57 := by omega
          have HS := hid (mode2_digit HM.out HB.out (isD_of d1 d2))
          have hpn := prod_bd b3 (show s[k].toNat - 48 ≤ 9 by omega)
          have hpc : ((Wo * (s[k].toNat - 48) : Nat) : Int) = (Wo : Int) * ((s[k].toNat : Int) - 48) := by
            rw [Int.natCast_mul, Int.natCast_sub (by omega)]; rfl
          have hp1 : 0 ≤ (Wo : Int) * ((s[k].toNat : Int) - 48) := by rw [← hpc]; omega
          have hp2 : (Wo : Int) * ((s[k].toNat : Int) - 48) ≤ 900 := by rw [← hpc]; omega
          have HP := hid hpc
          clear hpc hpn
          go_wp2
          go_round
          case rel =>
            refine ⟨k + 1, W, P + Wo * (s[k].toNat - 48), Wo / 10, D + 1, by go_num, rfl, by congr 1; have := HP.out; omega, by congr 1, by go_num, by omega, Or.inr ⟨rfl, ?_⟩⟩
            have := HS.out
            rwa [show k - 1 + 1 = k + 1 - 1 by omega] at this
          case measure => simp [intOf]; omega
      · have ek : k - 1 = r.length := by omega
        have hend := mode2_end (by have := HM.out; rwa [ek] at this)
        clear hbyte ek
        by_cases h0 : D = 0
        · have hz : ((D : Int) == 0) = true := by simp; omega
          go_wp2
          go_ret2
          obtain ⟨q1, q2⟩ := ho.bad (hend.1 h0)
          exact ⟨ret2_ints q1.symm q2.symm, rfl⟩
        · have hz : ((D : Int) == 0) = false := by simp; omega
          obtain ⟨hg, hle, hgt⟩ := hend.2 h0
          have HL := hid hle
          have HG := hid hgt
          clear hend hle hgt
          by_cases hbig : 1000000000 < 1000 * W + P
          · have hbig' : (1000000000 : Int) < 1000 * (W : Int) + (P : Int) := by omega
            go_wp2
            go_ret2
            obtain ⟨q1, q2⟩ := ho.big hg (HG.out hbig)
            exact ⟨ret2_ints q1.symm q2.symm, rfl⟩
          · have hbig' : ¬ (1000000000 : Int) < 1000 * (W : Int) + (P : Int) := by omega
            go_wp2
            go_ret2
            have e := HL.out (by omega)
            obtain ⟨q1, q2⟩ := ho.ok hg (by omega)
            exact ⟨ret2_ints (by rw [q1, e]; simp) q2.symm, rfl⟩

set_option maxHeartbeats 4000000 in
theorem readFix_else (s : ByteArray) (r : List UInt8) (N E : Int) (w : World) (hs : s.size ≤ 100000) (h0 : 0 < s.size) (h45 : ((s[0].toNat : Int) == 45) = false) (h43 : ((s[0].toNat : Int) == 43) = false)
    (hbyte : ∀ k, 0 ≤ k → (h : k < s.size) → r[k - 0]? = some s[k]) (hlen : 0 + r.length = s.size) (ho : Outs r false N E) :
    Calls Tryz.prog 191 #[.string s] w fun e w' => e = .returned (.tuple #[.int .i64 N, .int .i64 E]) ∧ w' = w := by
  go_enter Tryz.func191, Tryz.ntmps191
  go_wp2
  go_loop [4, 6, 7, 8, 9, 10] (fun at' wh pa wo di pt => ∃ k W P Wo D : Nat, at' = .int .i64 k ∧ wh = .int .i64 W ∧ pa = .int .i64 P ∧ wo = .int .i64 Wo ∧ di = .int .i64 D ∧ 0 ≤ k ∧ ((pt = .bool false ∧ Mode1 r (k - 0) W ∧ P = 0 ∧ Wo = 100 ∧ D = k - 0) ∨ (pt = .bool true ∧ Mode2 r (k - 0) W P Wo D))) (fun at' _ _ _ _ _ => s.size - (intOf at').toNat)
  case atStart => exact ⟨0, 0, 0, 100, 0, rfl, rfl, rfl, rfl, rfl, by omega, Or.inl ⟨rfl, mode1_start r, rfl, rfl, rfl⟩⟩
  case round =>
    obtain ⟨k, W, P, Wo, D, rfl, rfl, rfl, rfl, rfl, hko, hm⟩ := hrel
    rcases hm with ⟨rfl, hm, rfl, rfl, hD⟩ | ⟨rfl, hm⟩
    · obtain ⟨b1, b2⟩ := mode1_bd hm
      have HM := hid hm
      have HD := hid hD
      have hDl : D ≤ 100000 := by omega
      clear hm hD
      by_cases hlt : k < s.size
      · have HB := hid (hbyte k hko hlt)
        by_cases h46 : (s[k].toNat : Int) = 46
        · have HC := hid h46
          have t46 : ((s[k].toNat : Int) == 46) = true := by simp; omega
          clear hbyte h46
          go_wp2
          go_round
          case rel =>
            refine ⟨k + 1, W, 0, 100, D, by go_num, rfl, rfl, rfl, rfl, by omega, Or.inr ⟨rfl, ?_⟩⟩
            have hb := HB.out
            rw [is46 HC.out] at hb
            have := mode1_dot HM.out hb
            rwa [show k - 0 + 1 = k + 1 - 0 by omega, ← HD.out] at this
          case measure => simp [intOf]; omega
        · have t46 : ((s[k].toNat : Int) == 46) = false := by simp; omega
          have HC := hid h46
          clear h46 hbyte
          by_cases h48 : (s[k].toNat : Int) < 48
          · go_wp2
            go_ret2
            obtain ⟨q1, q2⟩ := ho.bad (mode1_bad HM.out HB.out (isD_not (Or.inl h48)) (fun e => HC.out (by rw [e]; rfl)))
            exact ⟨ret2_ints q1.symm q2.symm, rfl⟩
          by_cases h57 : (57 : Int) < (s[k].toNat : Int)
          · go_wp2
            go_ret2
            obtain ⟨q1, q2⟩ := ho.bad (mode1_bad HM.out HB.out (isD_not (Or.inr h57)) (fun e => HC.out (by rw [e]; rfl)))
            exact ⟨ret2_ints q1.symm q2.symm, rfl⟩
          have d1 : (48 : Int) ≤ (s[k].toNat : Int) := by omega
          have d2 : (s[k].toNat : Int) ≤ 57 := by omega
          have HS := hid (mode1_digit HM.out HB.out (isD_of d1 d2))
          by_cases hW : W < 10000000
          · have hW' : (W : Int) < 10000000 := by omega
            go_wp2
            go_round
            case rel =>
              refine ⟨k + 1, 10 * W + (s[k].toNat - 48), 0, 100, D + 1, by go_num, by congr 1; omega, rfl, rfl, by go_num, by omega, Or.inl ⟨rfl, ?_, rfl, rfl, by have := HD.out; omega⟩⟩
              have := HS.out
              rwa [if_pos hW, show k - 0 + 1 = k + 1 - 0 by omega] at this
            case measure => simp [intOf]; omega
          · have hW' : ¬ (W : Int) < 10000000 := by omega
            go_wp2
            go_round
            case rel =>
              refine ⟨k + 1, W, 0, 100, D + 1, by go_num, rfl, rfl, rfl, by go_num, by omega, Or.inl ⟨rfl, ?_, rfl, rfl, by have := HD.out; omega⟩⟩
              have := HS.out
              rwa [if_neg hW, show k - 0 + 1 = k + 1 - 0 by omega] at this
            case measure => simp [intOf]; omega
      · have ek : k - 0 = r.length := by omega
        have hend := mode1_end (by have := HM.out; rwa [ek] at this)
        clear hbyte
        have eD : D = r.length := by have := HD.out; omega
        rw [← eD] at hend
        have HEK := hid ek
        clear ek eD
        by_cases h0 : D = 0
        · have hz : ((D : Int) == 0) = true := by simp; omega
          go_wp2
          go_ret2
          obtain ⟨q1, q2⟩ := ho.bad (hend.1 h0)
          exact ⟨ret2_ints q1.symm q2.symm, rfl⟩
        · have hz : ((D : Int) == 0) = false := by simp; omega
          obtain ⟨hg, hle, hgt⟩ := hend.2 h0
          have HL := hid hle
          have HG := hid hgt
          clear hend hle hgt
          by_cases hbig : 1000000000 < 1000 * W + 0
          · have hbig' : (1000000000 : Int) < 1000 * (W : Int) := by omega
            go_wp2
            go_ret2
            obtain ⟨q1, q2⟩ := ho.big hg (HG.out hbig)
            exact ⟨ret2_ints q1.symm q2.symm, rfl⟩
          · have hbig' : ¬ (1000000000 : Int) < 1000 * (W : Int) := by omega
            go_wp2
            go_ret2
            have e := HL.out (by omega)
            obtain ⟨q1, q2⟩ := ho.ok hg (by omega)
            exact ⟨ret2_ints (by rw [q1, e]; simp) q2.symm, rfl⟩
    · obtain ⟨b1, b2, b3, b4, b5⟩ := mode2_bd hm
      have HM := hid hm
      clear hm
      by_cases hlt : k < s.size
      · have HB := hid (hbyte k hko hlt)
        by_cases h46 : (s[k].toNat : Int) = 46
        · have HC := hid h46
          have t46 : ((s[k].toNat : Int) == 46) = true := by simp; omega
          have h48 : (s[k].toNat : Int) < 48 := by omega
          clear hbyte h46
          go_wp2
          go_ret2
          obtain ⟨q1, q2⟩ := ho.bad (mode2_bad HM.out HB.out (isD_not (Or.inl h48)))
          exact ⟨ret2_ints q1.symm q2.symm, rfl⟩
        · have t46 : ((s[k].toNat : Int) == 46) = false := by simp; omega
          clear h46 hbyte
          by_cases h48 : (s[k].toNat : Int) < 48
          · go_wp2
            go_ret2
            obtain ⟨q1, q2⟩ := ho.bad (mode2_bad HM.out HB.out (isD_not (Or.inl h48)))
            exact ⟨ret2_ints q1.symm q2.symm, rfl⟩
          by_cases h57 : (57 : Int) < (s[k].toNat : Int)
          · go_wp2
            go_ret2
            obtain ⟨q1, q2⟩ := ho.bad (mode2_bad HM.out HB.out (isD_not (Or.inr h57)))
            exact ⟨ret2_ints q1.symm q2.symm, rfl⟩
          have d1 : (48 : Int) ≤ (s[k].toNat : Int) := by omega
          have d2 : (s[k].toNat : Int) ≤ 57 := by omega
          have HS := hid (mode2_digit HM.out HB.out (isD_of d1 d2))
          have hpn := prod_bd b3 (show s[k].toNat - 48 ≤ 9 by omega)
          have hpc : ((Wo * (s[k].toNat - 48) : Nat) : Int) = (Wo : Int) * ((s[k].toNat : Int) - 48) := by
            rw [Int.natCast_mul, Int.natCast_sub (by omega)]; rfl
          have hp1 : 0 ≤ (Wo : Int) * ((s[k].toNat : Int) - 48) := by rw [← hpc]; omega
          have hp2 : (Wo : Int) * ((s[k].toNat : Int) - 48) ≤ 900 := by rw [← hpc]; omega
          have HP := hid hpc
          clear hpc hpn
          go_wp2
          go_round
          case rel =>
            refine ⟨k + 1, W, P + Wo * (s[k].toNat - 48), Wo / 10, D + 1, by go_num, rfl, by congr 1; have := HP.out; omega, by congr 1, by go_num, by omega, Or.inr ⟨rfl, ?_⟩⟩
            have := HS.out
            rwa [show k - 0 + 1 = k + 1 - 0 by omega] at this
          case measure => simp [intOf]; omega
      · have ek : k - 0 = r.length := by omega
        have hend := mode2_end (by have := HM.out; rwa [ek] at this)
        clear hbyte ek
        by_cases h0 : D = 0
        · have hz : ((D : Int) == 0) = true := by simp; omega
          go_wp2
          go_ret2
          obtain ⟨q1, q2⟩ := ho.bad (hend.1 h0)
          exact ⟨ret2_ints q1.symm q2.symm, rfl⟩
        · have hz : ((D : Int) == 0) = false := by simp; omega
          obtain ⟨hg, hle, hgt⟩ := hend.2 h0
          have HL := hid hle
          have HG := hid hgt
          clear hend hle hgt
          by_cases hbig : 1000000000 < 1000 * W + P
          · have hbig' : (1000000000 : Int) < 1000 * (W : Int) + (P : Int) := by omega
            go_wp2
            go_ret2
            obtain ⟨q1, q2⟩ := ho.big hg (HG.out hbig)
            exact ⟨ret2_ints q1.symm q2.symm, rfl⟩
          · have hbig' : ¬ (1000000000 : Int) < 1000 * (W : Int) + (P : Int) := by omega
            go_wp2
            go_ret2
            have e := HL.out (by omega)
            obtain ⟨q1, q2⟩ := ho.ok hg (by omega)
            exact ⟨ret2_ints (by rw [q1, e]; simp) q2.symm, rfl⟩

set_option maxHeartbeats 400000 in
theorem readFix_empty (s : ByteArray) (w : World) (h0 : s.size = 0) :
    Calls Tryz.prog 191 #[.string s] w fun e w' => e = .returned (.tuple #[.int .i64 0, .int .i64 4]) ∧ w' = w := by
  go_enter Tryz.func191, Tryz.ntmps191
  go_wp2
  go_rounds 1
  go_ret2
  exact ⟨rfl, rfl⟩

theorem readFix_any (s : ByteArray) (w : World) (hs : s.size ≤ 100000) :
    Calls Tryz.prog 191 #[.string s] w fun e w' => e = .returned (.tuple #[.int .i64 (parseN s.data.toList), .int .i64 (parseE s.data.toList)]) ∧ w' = w := by
  cases hL : s.data.toList with
  | nil =>
    have hz := size_list hL
    have := readFix_empty s w (by simpa using hz)
    exact this
  | cons c l =>
    have hz := size_list hL
    simp only [List.length_cons] at hz
    have h0 : 0 < s.size := by omega
    have hget : ∀ k (h : k < s.size), (c :: l)[k]? = some s[k] := fun k h => by
      rw [← hL, List.getElem?_eq_getElem (by simpa using h)]; rfl
    have hc0 : s[0] = c := by have := hget 0 h0; simpa using this.symm
    have htl : ∀ k, 1 ≤ k → (h : k < s.size) → l[k - 1]? = some s[k] := fun k h1 h => by
      have := hget k h
      obtain ⟨j, rfl⟩ : ∃ j, k = j + 1 := ⟨k - 1, by omega⟩
      simpa using this
    by_cases h1 : c = 45
    · refine readFix_minus s l _ _ w hs h0 (by rw [hc0, h1]; rfl) htl (by omega) (outs_of (by rw [h1]; exact bodyF_neg l) (by rw [h1]; rfl))
    · have n1 : ((s[0].toNat : Int) == 45) = false := by
        rw [hc0]; simp; intro h; exact h1 (by apply UInt8.toNat.inj; simp; omega)
      by_cases h2 : c = 43
      · refine readFix_plus s l _ _ w hs h0 n1 (by rw [hc0, h2]; rfl) htl (by omega) (outs_of (by rw [h2]; exact bodyF_pos l) (by rw [h2]; rfl))
      · have n2 : ((s[0].toNat : Int) == 43) = false := by
          rw [hc0]; simp; intro h; exact h2 (by apply UInt8.toNat.inj; simp; omega)
        exact readFix_else s (c :: l) _ _ w hs h0 n1 n2 (fun k _ h => hget k h) (by simp; omega) (outs_of (bodyF_else l h1 h2) (by simp [negF, h1]))
end Go.Proofs.YtefbfgcbbpmhlabGreatDoor
