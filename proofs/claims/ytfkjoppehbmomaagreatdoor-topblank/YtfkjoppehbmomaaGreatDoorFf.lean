/-
  Contracts: a text that is read as a number, by the program.
-/
import Derived.Test.YtfkjoppehbmomaaGreatDoorFe
import Derived.Test.YtfkjoppehbmomaaGreatDoorShelf
namespace Go.Proofs.YtfkjoppehbmomaaGreatDoor
open Go.RowKit
set_option maxRecDepth 100000

theorem allDigits_list (l : List UInt8) (w : World) (hs : l.length ≤ 1000000) :
    Calls Tryz.prog 101 #[.string ⟨l.toArray⟩] w fun e w' => e = .returned (.bool (allD l)) ∧ w' = w :=
  allDigits_any ⟨l.toArray⟩ w (by simpa [ByteArray.size] using hs)
theorem withDigits_list (n : Nat) (l : List UInt8) (w : World) (hn : n ≤ 10000000009) (hs : l.length ≤ 1000000) (hd : allD l = true) :
    Calls Tryz.prog 102 #[.int .i64 n, .string ⟨l.toArray⟩] w fun e w' => e = .returned (.int .i64 (satD n l : Nat)) ∧ w' = w :=
  withDigits_any n ⟨l.toArray⟩ w hn (by simpa [ByteArray.size] using hs) hd

def startsB (s : ByteArray) (c : UInt8) : Bool := Lib.hasPrefix s.data.toList [c]
theorem starts_any (s : ByteArray) (c : UInt8) (w : World) :
    Calls Tryz.prog 65 #[.string s, .string ⟨#[c]⟩] w fun e w' => e = .returned (.bool (startsB s c)) ∧ w' = w := Tryz.strings_HasPrefix s ⟨#[c]⟩ w

/-- Digits behind a number, as an integer. -/
def satZ (n : Int) (l : List UInt8) : Int := (satD n.toNat l : Nat)
theorem satZ_cast (n : Nat) (l : List UInt8) : satZ n l = (satD n l : Nat) := rfl
theorem withDigits_z (n : Int) (l : List UInt8) (w : World) (h0 : 0 ≤ n) (h1 : n ≤ 10000000009) (hs : l.length ≤ 1000000) (hd : allD l = true) :
    Calls Tryz.prog 102 #[.int .i64 n, .string ⟨l.toArray⟩] w fun e w' => e = .returned (.int .i64 (satZ n l)) ∧ w' = w := by
  have h := withDigits_list n.toNat l w (by omega) hs hd
  rw [show ((n.toNat : Nat) : Int) = n by omega] at h
  exact h
theorem satZ_bd (n : Int) (l : List UInt8) (h0 : 0 ≤ n) (h1 : n ≤ 10000000009) (hd : allD l = true) : 0 ≤ satZ n l ∧ satZ n l ≤ 10000000009 := by
  have := satD_le l n.toNat hd (by omega)
  unfold satZ; omega
theorem extract_take (P : List UInt8) : (⟨P.toArray⟩ : ByteArray).extract 0 (min (P.length : Int) 3).toNat = ⟨(P.take 3).toArray⟩ := by
  have e : (min (P.length : Int) 3).toNat = min P.length 3 := by omega
  rw [e, Lib.extract_eq]
  simp [Nat.min_comm]
theorem allD_take {l : List UInt8} (h : allD l = true) (k : Nat) : allD (l.take k) = true := List.all_eq_true.2 fun x hx => List.all_eq_true.1 h x (List.mem_of_mem_take hx)
theorem allD_rep (k : Nat) : allD (List.replicate k 48) = true := List.all_eq_true.2 fun x hx => by rw [List.eq_of_mem_replicate hx]; rfl
theorem satZ_rep (n : Int) (k : Nat) : satZ n (List.replicate (k + 1) 48) = satZ (satZ n (List.replicate k 48)) [48] := by
  unfold satZ; rw [List.replicate_succ', satD_snoc]; rfl
def finZ (W P : List UInt8) : Int := satZ (satZ (satZ 0 W) (P.take 3)) (List.replicate (3 - (P.take 3).length) 48)
theorem finZ_eq (W P : List UInt8) : finZ W P = (satD (satD (satD 0 W) (P.take 3)) (List.replicate (3 - (P.take 3).length) 48) : Nat) := rfl

set_option maxHeartbeats 1000000 in
theorem parse_none_ok (s : ByteArray) (W P Q : List UInt8) (F : Int) (f : Bool) (w : World)
    (h45 : startsB s 45 = false) (h43 : startsB s 43 = false) (_hs : s.size ≤ 100000)
    (hcut : Calls Tryz.prog 100 #[.string s, .string ⟨#[46]⟩] w fun e w' => e = .returned (.tuple #[.string ⟨W.toArray⟩, .string ⟨P.toArray⟩, .bool f]) ∧ ∃ n, w' = w.drewN n)
    (hw : W.length ≤ 100000) (hp : P.length ≤ 100000) (hW : allD W = true) (hP : allD P = true) (hl : W.length + P.length ≠ 0)
    (hx : (⟨P.toArray⟩ : ByteArray).extract 0 (min (P.length : Int) 3).toNat = ⟨Q.toArray⟩) (hQ : allD Q = true) (hQl : Q.length ≤ 3)
    (hF : F = satZ (satZ (satZ 0 W) Q) (List.replicate (3 - Q.length) 48)) (hfin : F ≤ 1000000000) :
    Calls Tryz.prog 78 #[.string s] w fun e w' => e = .returned (.tuple #[.int .i64 (F), .nilIface]) ∧ ∃ n, w' = w.drewN n := by
  have hl' : ((W.length : Int) + (P.length : Int) == 0) = false := by simp; omega
  have n1 := satZ_bd 0 W (by omega) (by omega) hW
  have n2 := satZ_bd (satZ 0 W) Q n1.1 n1.2 hQ
  have nF := satZ_bd (satZ (satZ 0 W) Q) (List.replicate (3 - Q.length) 48) n2.1 n2.2 (allD_rep _)
  rw [← hF] at nF
  have HF := hid hF
  clear hF
  go_enter Tryz.func78, Tryz.ntmps78
  go_wp2_with (first
    | (go_at_call 65; refine (starts_any _ _ _).mono ?_; rintro e w' ⟨rfl, rfl⟩)
    | (go_at_call 100; refine hcut.mono ?_; rintro e w' ⟨rfl, n, rfl⟩)
    | (go_at_call 101; refine (allDigits_list _ _ (by omega)).mono ?_; rintro e w' ⟨rfl, rfl⟩)
    | (go_at_call 102; refine (withDigits_z _ _ _ (by omega) (by omega) (by omega) (by assumption)).mono ?_; rintro e w' ⟨rfl, rfl⟩))
  go_loop [8, 53] (fun t i => ∃ k : Nat, k ≤ 3 - Q.length ∧ i = .int .i64 k ∧ t = .int .i64 (satZ (satZ (satZ 0 W) Q) (List.replicate k 48))) (fun _ i => 3 - Q.length - (intOf i).toNat)
  case atStart => exact ⟨0, Nat.zero_le _, rfl, rfl⟩
  case round =>
    obtain ⟨k, hk, rfl, rfl⟩ := hrel
    by_cases hlt : k < 3 - Q.length
    · have hlt' : (k : Int) < 3 - (Q.length : Int) := by omega
      have n3 := satZ_bd (satZ (satZ 0 W) Q) (List.replicate k 48) n2.1 n2.2 (allD_rep _)
      have HR := hid (satZ_rep (satZ (satZ 0 W) Q) k)
      have h48 : allD [48] = true := rfl
      go_wp2_with (go_at_call 102; refine (withDigits_z _ [48] _ (by omega) (by omega) (by simp) h48).mono ?_; rintro e w' ⟨rfl, rfl⟩)
      go_round
      case rel => exact ⟨k + 1, by omega, by go_num, by rw [HR.out]⟩
      case measure => simp [intOf]; omega
    · have hge : ¬ (k : Int) < 3 - (Q.length : Int) := by omega
      have ek : k = 3 - Q.length := by omega
      subst ek
      have e2 := HF.out
      rw [← e2]
      clear e2
      go_wp2_with (go_at_call 103; refine (number_ok _ _ (by omega) (by omega)).mono ?_; rintro e w' ⟨rfl, rfl⟩)
      go_ret2
      exact ⟨rfl, n, rfl⟩

set_option maxHeartbeats 1000000 in
theorem parse_none_big (s : ByteArray) (W P Q : List UInt8) (F : Int) (f : Bool) (w : World)
    (h45 : startsB s 45 = false) (h43 : startsB s 43 = false) (_hs : s.size ≤ 100000)
    (hcut : Calls Tryz.prog 100 #[.string s, .string ⟨#[46]⟩] w fun e w' => e = .returned (.tuple #[.string ⟨W.toArray⟩, .string ⟨P.toArray⟩, .bool f]) ∧ ∃ n, w' = w.drewN n)
    (hw : W.length ≤ 100000) (hp : P.length ≤ 100000) (hW : allD W = true) (hP : allD P = true) (hl : W.length + P.length ≠ 0)
    (hx : (⟨P.toArray⟩ : ByteArray).extract 0 (min (P.length : Int) 3).toNat = ⟨Q.toArray⟩) (hQ : allD Q = true) (hQl : Q.length ≤ 3)
    (hF : F = satZ (satZ (satZ 0 W) Q) (List.replicate (3 - Q.length) 48)) (hfin : 1000000000 < F) :
    Calls Tryz.prog 78 #[.string s] w fun e w' => e = .returned (.tuple #[.int .i64 0, errV 1]) ∧ ∃ n, w' = w.drewN n := by
  have hl' : ((W.length : Int) + (P.length : Int) == 0) = false := by simp; omega
  have n1 := satZ_bd 0 W (by omega) (by omega) hW
  have n2 := satZ_bd (satZ 0 W) Q n1.1 n1.2 hQ
  have nF := satZ_bd (satZ (satZ 0 W) Q) (List.replicate (3 - Q.length) 48) n2.1 n2.2 (allD_rep _)
  rw [← hF] at nF
  have HF := hid hF
  clear hF
  go_enter Tryz.func78, Tryz.ntmps78
  go_wp2_with (first
    | (go_at_call 65; refine (starts_any _ _ _).mono ?_; rintro e w' ⟨rfl, rfl⟩)
    | (go_at_call 100; refine hcut.mono ?_; rintro e w' ⟨rfl, n, rfl⟩)
    | (go_at_call 101; refine (allDigits_list _ _ (by omega)).mono ?_; rintro e w' ⟨rfl, rfl⟩)
    | (go_at_call 102; refine (withDigits_z _ _ _ (by omega) (by omega) (by omega) (by assumption)).mono ?_; rintro e w' ⟨rfl, rfl⟩))
  go_loop [8, 53] (fun t i => ∃ k : Nat, k ≤ 3 - Q.length ∧ i = .int .i64 k ∧ t = .int .i64 (satZ (satZ (satZ 0 W) Q) (List.replicate k 48))) (fun _ i => 3 - Q.length - (intOf i).toNat)
  case atStart => exact ⟨0, Nat.zero_le _, rfl, rfl⟩
  case round =>
    obtain ⟨k, hk, rfl, rfl⟩ := hrel
    by_cases hlt : k < 3 - Q.length
    · have hlt' : (k : Int) < 3 - (Q.length : Int) := by omega
      have n3 := satZ_bd (satZ (satZ 0 W) Q) (List.replicate k 48) n2.1 n2.2 (allD_rep _)
      have HR := hid (satZ_rep (satZ (satZ 0 W) Q) k)
      have h48 : allD [48] = true := rfl
      go_wp2_with (go_at_call 102; refine (withDigits_z _ [48] _ (by omega) (by omega) (by simp) h48).mono ?_; rintro e w' ⟨rfl, rfl⟩)
      go_round
      case rel => exact ⟨k + 1, by omega, by go_num, by rw [HR.out]⟩
      case measure => simp [intOf]; omega
    · have hge : ¬ (k : Int) < 3 - (Q.length : Int) := by omega
      have ek : k = 3 - Q.length := by omega
      subst ek
      have e2 := HF.out
      rw [← e2]
      clear e2
      go_wp2_with (go_at_call 103; refine (number_bad _ _ (by omega)).mono ?_; rintro e w' ⟨rfl, rfl⟩)
      go_ret2
      exact ⟨rfl, n, rfl⟩

set_option maxHeartbeats 1000000 in
theorem parse_none_len0 (s : ByteArray) (W P : List UInt8) (f : Bool) (w : World)
    (h45 : startsB s 45 = false) (h43 : startsB s 43 = false) (_hs : s.size ≤ 100000)
    (hcut : Calls Tryz.prog 100 #[.string s, .string ⟨#[46]⟩] w fun e w' => e = .returned (.tuple #[.string ⟨W.toArray⟩, .string ⟨P.toArray⟩, .bool f]) ∧ ∃ n, w' = w.drewN n)
    (hl : W.length + P.length = 0) :
    Calls Tryz.prog 78 #[.string s] w fun e w' => e = .returned (.tuple #[.int .i64 0, errV 4]) ∧ ∃ n, w' = w.drewN n := by
  have hl' : ((W.length : Int) + (P.length : Int) == 0) = true := by simp; omega
  go_enter Tryz.func78, Tryz.ntmps78
  go_wp2_with (first
    | (go_at_call 65; refine (starts_any _ _ _).mono ?_; rintro e w' ⟨rfl, rfl⟩)
    | (go_at_call 100; refine hcut.mono ?_; rintro e w' ⟨rfl, n, rfl⟩)
    | (go_at_call 101; refine (allDigits_list _ _ (by omega)).mono ?_; rintro e w' ⟨rfl, rfl⟩)
    | (go_at_call 102; refine (withDigits_z _ _ _ (by omega) (by omega) (by omega) (by assumption)).mono ?_; rintro e w' ⟨rfl, rfl⟩))
  go_ret2
  exact ⟨rfl, n, rfl⟩

set_option maxHeartbeats 1000000 in
theorem parse_none_Wbad (s : ByteArray) (W P : List UInt8) (f : Bool) (w : World)
    (h45 : startsB s 45 = false) (h43 : startsB s 43 = false) (_hs : s.size ≤ 100000)
    (hcut : Calls Tryz.prog 100 #[.string s, .string ⟨#[46]⟩] w fun e w' => e = .returned (.tuple #[.string ⟨W.toArray⟩, .string ⟨P.toArray⟩, .bool f]) ∧ ∃ n, w' = w.drewN n)
    (hw : W.length ≤ 100000) (hp : P.length ≤ 100000) (hl : W.length + P.length ≠ 0) (hW : allD W = false) :
    Calls Tryz.prog 78 #[.string s] w fun e w' => e = .returned (.tuple #[.int .i64 0, errV 4]) ∧ ∃ n, w' = w.drewN n := by
  have hl' : ((W.length : Int) + (P.length : Int) == 0) = false := by simp; omega
  go_enter Tryz.func78, Tryz.ntmps78
  go_wp2_with (first
    | (go_at_call 65; refine (starts_any _ _ _).mono ?_; rintro e w' ⟨rfl, rfl⟩)
    | (go_at_call 100; refine hcut.mono ?_; rintro e w' ⟨rfl, n, rfl⟩)
    | (go_at_call 101; refine (allDigits_list _ _ (by omega)).mono ?_; rintro e w' ⟨rfl, rfl⟩)
    | (go_at_call 102; refine (withDigits_z _ _ _ (by omega) (by omega) (by omega) (by assumption)).mono ?_; rintro e w' ⟨rfl, rfl⟩))
  go_ret2
  exact ⟨rfl, n, rfl⟩

set_option maxHeartbeats 1000000 in
theorem parse_none_Pbad (s : ByteArray) (W P : List UInt8) (f : Bool) (w : World)
    (h45 : startsB s 45 = false) (h43 : startsB s 43 = false) (_hs : s.size ≤ 100000)
    (hcut : Calls Tryz.prog 100 #[.string s, .string ⟨#[46]⟩] w fun e w' => e = .returned (.tuple #[.string ⟨W.toArray⟩, .string ⟨P.toArray⟩, .bool f]) ∧ ∃ n, w' = w.drewN n)
    (hw : W.length ≤ 100000) (hp : P.length ≤ 100000) (hl : W.length + P.length ≠ 0) (hW : allD W = true) (hP : allD P = false) :
    Calls Tryz.prog 78 #[.string s] w fun e w' => e = .returned (.tuple #[.int .i64 0, errV 4]) ∧ ∃ n, w' = w.drewN n := by
  have hl' : ((W.length : Int) + (P.length : Int) == 0) = false := by simp; omega
  go_enter Tryz.func78, Tryz.ntmps78
  go_wp2_with (first
    | (go_at_call 65; refine (starts_any _ _ _).mono ?_; rintro e w' ⟨rfl, rfl⟩)
    | (go_at_call 100; refine hcut.mono ?_; rintro e w' ⟨rfl, n, rfl⟩)
    | (go_at_call 101; refine (allDigits_list _ _ (by omega)).mono ?_; rintro e w' ⟨rfl, rfl⟩)
    | (go_at_call 102; refine (withDigits_z _ _ _ (by omega) (by omega) (by omega) (by assumption)).mono ?_; rintro e w' ⟨rfl, rfl⟩))
  go_ret2
  exact ⟨rfl, n, rfl⟩

set_option maxHeartbeats 1000000 in
theorem parse_plus_ok (s : ByteArray) (W P Q : List UInt8) (F : Int) (f : Bool) (w : World)
    (h45 : startsB s 45 = false) (h43 : startsB s 43 = true) (hsz : 1 ≤ s.size) (_hs : s.size ≤ 100000)
    (hcut : Calls Tryz.prog 100 #[.string (s.extract 1 s.size), .string ⟨#[46]⟩] w fun e w' => e = .returned (.tuple #[.string ⟨W.toArray⟩, .string ⟨P.toArray⟩, .bool f]) ∧ ∃ n, w' = w.drewN n)
    (hw : W.length ≤ 100000) (hp : P.length ≤ 100000) (hW : allD W = true) (hP : allD P = true) (hl : W.length + P.length ≠ 0)
    (hx : (⟨P.toArray⟩ : ByteArray).extract 0 (min (P.length : Int) 3).toNat = ⟨Q.toArray⟩) (hQ : allD Q = true) (hQl : Q.length ≤ 3)
    (hF : F = satZ (satZ (satZ 0 W) Q) (List.replicate (3 - Q.length) 48)) (hfin : F ≤ 1000000000) :
    Calls Tryz.prog 78 #[.string s] w fun e w' => e = .returned (.tuple #[.int .i64 (F), .nilIface]) ∧ ∃ n, w' = w.drewN n := by
  have hl' : ((W.length : Int) + (P.length : Int) == 0) = false := by simp; omega
  have n1 := satZ_bd 0 W (by omega) (by omega) hW
  have n2 := satZ_bd (satZ 0 W) Q n1.1 n1.2 hQ
  have nF := satZ_bd (satZ (satZ 0 W) Q) (List.replicate (3 - Q.length) 48) n2.1 n2.2 (allD_rep _)
  rw [← hF] at nF
  have HF := hid hF
  clear hF
  go_enter Tryz.func78, Tryz.ntmps78
  go_wp2_with (first
    | (go_at_call 65; refine (starts_any _ _ _).mono ?_; rintro e w' ⟨rfl, rfl⟩)
    | (go_at_call 100; refine hcut.mono ?_; rintro e w' ⟨rfl, n, rfl⟩)
    | (go_at_call 101; refine (allDigits_list _ _ (by omega)).mono ?_; rintro e w' ⟨rfl, rfl⟩)
    | (go_at_call 102; refine (withDigits_z _ _ _ (by omega) (by omega) (by omega) (by assumption)).mono ?_; rintro e w' ⟨rfl, rfl⟩))
  go_loop [8, 53] (fun t i => ∃ k : Nat, k ≤ 3 - Q.length ∧ i = .int .i64 k ∧ t = .int .i64 (satZ (satZ (satZ 0 W) Q) (List.replicate k 48))) (fun _ i => 3 - Q.length - (intOf i).toNat)
  case atStart => exact ⟨0, Nat.zero_le _, rfl, rfl⟩
  case round =>
    obtain ⟨k, hk, rfl, rfl⟩ := hrel
    by_cases hlt : k < 3 - Q.length
    · have hlt' : (k : Int) < 3 - (Q.length : Int) := by omega
      have n3 := satZ_bd (satZ (satZ 0 W) Q) (List.replicate k 48) n2.1 n2.2 (allD_rep _)
      have HR := hid (satZ_rep (satZ (satZ 0 W) Q) k)
      have h48 : allD [48] = true := rfl
      go_wp2_with (go_at_call 102; refine (withDigits_z _ [48] _ (by omega) (by omega) (by simp) h48).mono ?_; rintro e w' ⟨rfl, rfl⟩)
      go_round
      case rel => exact ⟨k + 1, by omega, by go_num, by rw [HR.out]⟩
      case measure => simp [intOf]; omega
    · have hge : ¬ (k : Int) < 3 - (Q.length : Int) := by omega
      have ek : k = 3 - Q.length := by omega
      subst ek
      have e2 := HF.out
      rw [← e2]
      clear e2
      go_wp2_with (go_at_call 103; refine (number_ok _ _ (by omega) (by omega)).mono ?_; rintro e w' ⟨rfl, rfl⟩)
      go_ret2
      exact ⟨rfl, n, rfl⟩

set_option maxHeartbeats 1000000 in
theorem parse_plus_big (s : ByteArray) (W P Q : List UInt8) (F : Int) (f : Bool) (w : World)
    (h45 : startsB s 45 = false) (h43 : startsB s 43 = true) (hsz : 1 ≤ s.size) (_hs : s.size ≤ 100000)
    (hcut : Calls Tryz.prog 100 #[.string (s.extract 1 s.size), .string ⟨#[46]⟩] w fun e w' => e = .returned (.tuple #[.string ⟨W.toArray⟩, .string ⟨P.toArray⟩, .bool f]) ∧ ∃ n, w' = w.drewN n)
    (hw : W.length ≤ 100000) (hp : P.length ≤ 100000) (hW : allD W = true) (hP : allD P = true) (hl : W.length + P.length ≠ 0)
    (hx : (⟨P.toArray⟩ : ByteArray).extract 0 (min (P.length : Int) 3).toNat = ⟨Q.toArray⟩) (hQ : allD Q = true) (hQl : Q.length ≤ 3)
    (hF : F = satZ (satZ (satZ 0 W) Q) (List.replicate (3 - Q.length) 48)) (hfin : 1000000000 < F) :
    Calls Tryz.prog 78 #[.string s] w fun e w' => e = .returned (.tuple #[.int .i64 0, errV 1]) ∧ ∃ n, w' = w.drewN n := by
  have hl' : ((W.length : Int) + (P.length : Int) == 0) = false := by simp; omega
  have n1 := satZ_bd 0 W (by omega) (by omega) hW
  have n2 := satZ_bd (satZ 0 W) Q n1.1 n1.2 hQ
  have nF := satZ_bd (satZ (satZ 0 W) Q) (List.replicate (3 - Q.length) 48) n2.1 n2.2 (allD_rep _)
  rw [← hF] at nF
  have HF := hid hF
  clear hF
  go_enter Tryz.func78, Tryz.ntmps78
  go_wp2_with (first
    | (go_at_call 65; refine (starts_any _ _ _).mono ?_; rintro e w' ⟨rfl, rfl⟩)
    | (go_at_call 100; refine hcut.mono ?_; rintro e w' ⟨rfl, n, rfl⟩)
    | (go_at_call 101; refine (allDigits_list _ _ (by omega)).mono ?_; rintro e w' ⟨rfl, rfl⟩)
    | (go_at_call 102; refine (withDigits_z _ _ _ (by omega) (by omega) (by omega) (by assumption)).mono ?_; rintro e w' ⟨rfl, rfl⟩))
  go_loop [8, 53] (fun t i => ∃ k : Nat, k ≤ 3 - Q.length ∧ i = .int .i64 k ∧ t = .int .i64 (satZ (satZ (satZ 0 W) Q) (List.replicate k 48))) (fun _ i => 3 - Q.length - (intOf i).toNat)
  case atStart => exact ⟨0, Nat.zero_le _, rfl, rfl⟩
  case round =>
    obtain ⟨k, hk, rfl, rfl⟩ := hrel
    by_cases hlt : k < 3 - Q.length
    · have hlt' : (k : Int) < 3 - (Q.length : Int) := by omega
      have n3 := satZ_bd (satZ (satZ 0 W) Q) (List.replicate k 48) n2.1 n2.2 (allD_rep _)
      have HR := hid (satZ_rep (satZ (satZ 0 W) Q) k)
      have h48 : allD [48] = true := rfl
      go_wp2_with (go_at_call 102; refine (withDigits_z _ [48] _ (by omega) (by omega) (by simp) h48).mono ?_; rintro e w' ⟨rfl, rfl⟩)
      go_round
      case rel => exact ⟨k + 1, by omega, by go_num, by rw [HR.out]⟩
      case measure => simp [intOf]; omega
    · have hge : ¬ (k : Int) < 3 - (Q.length : Int) := by omega
      have ek : k = 3 - Q.length := by omega
      subst ek
      have e2 := HF.out
      rw [← e2]
      clear e2
      go_wp2_with (go_at_call 103; refine (number_bad _ _ (by omega)).mono ?_; rintro e w' ⟨rfl, rfl⟩)
      go_ret2
      exact ⟨rfl, n, rfl⟩

set_option maxHeartbeats 1000000 in
theorem parse_plus_len0 (s : ByteArray) (W P : List UInt8) (f : Bool) (w : World)
    (h45 : startsB s 45 = false) (h43 : startsB s 43 = true) (hsz : 1 ≤ s.size) (_hs : s.size ≤ 100000)
    (hcut : Calls Tryz.prog 100 #[.string (s.extract 1 s.size), .string ⟨#[46]⟩] w fun e w' => e = .returned (.tuple #[.string ⟨W.toArray⟩, .string ⟨P.toArray⟩, .bool f]) ∧ ∃ n, w' = w.drewN n)
    (hl : W.length + P.length = 0) :
    Calls Tryz.prog 78 #[.string s] w fun e w' => e = .returned (.tuple #[.int .i64 0, errV 4]) ∧ ∃ n, w' = w.drewN n := by
  have hl' : ((W.length : Int) + (P.length : Int) == 0) = true := by simp; omega
  go_enter Tryz.func78, Tryz.ntmps78
  go_wp2_with (first
    | (go_at_call 65; refine (starts_any _ _ _).mono ?_; rintro e w' ⟨rfl, rfl⟩)
    | (go_at_call 100; refine hcut.mono ?_; rintro e w' ⟨rfl, n, rfl⟩)
    | (go_at_call 101; refine (allDigits_list _ _ (by omega)).mono ?_; rintro e w' ⟨rfl, rfl⟩)
    | (go_at_call 102; refine (withDigits_z _ _ _ (by omega) (by omega) (by omega) (by assumption)).mono ?_; rintro e w' ⟨rfl, rfl⟩))
  go_ret2
  exact ⟨rfl, n, rfl⟩

set_option maxHeartbeats 1000000 in
theorem parse_plus_Wbad (s : ByteArray) (W P : List UInt8) (f : Bool) (w : World)
    (h45 : startsB s 45 = false) (h43 : startsB s 43 = true) (hsz : 1 ≤ s.size) (_hs : s.size ≤ 100000)
    (hcut : Calls Tryz.prog 100 #[.string (s.extract 1 s.size), .string ⟨#[46]⟩] w fun e w' => e = .returned (.tuple #[.string ⟨W.toArray⟩, .string ⟨P.toArray⟩, .bool f]) ∧ ∃ n, w' = w.drewN n)
    (hw : W.length ≤ 100000) (hp : P.length ≤ 100000) (hl : W.length + P.length ≠ 0) (hW : allD W = false) :
    Calls Tryz.prog 78 #[.string s] w fun e w' => e = .returned (.tuple #[.int .i64 0, errV 4]) ∧ ∃ n, w' = w.drewN n := by
  have hl' : ((W.length : Int) + (P.length : Int) == 0) = false := by simp; omega
  go_enter Tryz.func78, Tryz.ntmps78
  go_wp2_with (first
    | (go_at_call 65; refine (starts_any _ _ _).mono ?_; rintro e w' ⟨rfl, rfl⟩)
    | (go_at_call 100; refine hcut.mono ?_; rintro e w' ⟨rfl, n, rfl⟩)
    | (go_at_call 101; refine (allDigits_list _ _ (by omega)).mono ?_; rintro e w' ⟨rfl, rfl⟩)
    | (go_at_call 102; refine (withDigits_z _ _ _ (by omega) (by omega) (by omega) (by assumption)).mono ?_; rintro e w' ⟨rfl, rfl⟩))
  go_ret2
  exact ⟨rfl, n, rfl⟩

set_option maxHeartbeats 1000000 in
theorem parse_plus_Pbad (s : ByteArray) (W P : List UInt8) (f : Bool) (w : World)
    (h45 : startsB s 45 = false) (h43 : startsB s 43 = true) (hsz : 1 ≤ s.size) (_hs : s.size ≤ 100000)
    (hcut : Calls Tryz.prog 100 #[.string (s.extract 1 s.size), .string ⟨#[46]⟩] w fun e w' => e = .returned (.tuple #[.string ⟨W.toArray⟩, .string ⟨P.toArray⟩, .bool f]) ∧ ∃ n, w' = w.drewN n)
    (hw : W.length ≤ 100000) (hp : P.length ≤ 100000) (hl : W.length + P.length ≠ 0) (hW : allD W = true) (hP : allD P = false) :
    Calls Tryz.prog 78 #[.string s] w fun e w' => e = .returned (.tuple #[.int .i64 0, errV 4]) ∧ ∃ n, w' = w.drewN n := by
  have hl' : ((W.length : Int) + (P.length : Int) == 0) = false := by simp; omega
  go_enter Tryz.func78, Tryz.ntmps78
  go_wp2_with (first
    | (go_at_call 65; refine (starts_any _ _ _).mono ?_; rintro e w' ⟨rfl, rfl⟩)
    | (go_at_call 100; refine hcut.mono ?_; rintro e w' ⟨rfl, n, rfl⟩)
    | (go_at_call 101; refine (allDigits_list _ _ (by omega)).mono ?_; rintro e w' ⟨rfl, rfl⟩)
    | (go_at_call 102; refine (withDigits_z _ _ _ (by omega) (by omega) (by omega) (by assumption)).mono ?_; rintro e w' ⟨rfl, rfl⟩))
  go_ret2
  exact ⟨rfl, n, rfl⟩

set_option maxHeartbeats 1000000 in
theorem parse_minus_ok (s : ByteArray) (W P Q : List UInt8) (F : Int) (f : Bool) (w : World)
    (h45 : startsB s 45 = true) (hsz : 1 ≤ s.size) (_hs : s.size ≤ 100000)
    (hcut : Calls Tryz.prog 100 #[.string (s.extract 1 s.size), .string ⟨#[46]⟩] w fun e w' => e = .returned (.tuple #[.string ⟨W.toArray⟩, .string ⟨P.toArray⟩, .bool f]) ∧ ∃ n, w' = w.drewN n)
    (hw : W.length ≤ 100000) (hp : P.length ≤ 100000) (hW : allD W = true) (hP : allD P = true) (hl : W.length + P.length ≠ 0)
    (hx : (⟨P.toArray⟩ : ByteArray).extract 0 (min (P.length : Int) 3).toNat = ⟨Q.toArray⟩) (hQ : allD Q = true) (hQl : Q.length ≤ 3)
    (hF : F = satZ (satZ (satZ 0 W) Q) (List.replicate (3 - Q.length) 48)) (hfin : F ≤ 1000000000) :
    Calls Tryz.prog 78 #[.string s] w fun e w' => e = .returned (.tuple #[.int .i64 (-F), .nilIface]) ∧ ∃ n, w' = w.drewN n := by
  have hl' : ((W.length : Int) + (P.length : Int) == 0) = false := by simp; omega
  have n1 := satZ_bd 0 W (by omega) (by omega) hW
  have n2 := satZ_bd (satZ 0 W) Q n1.1 n1.2 hQ
  have nF := satZ_bd (satZ (satZ 0 W) Q) (List.replicate (3 - Q.length) 48) n2.1 n2.2 (allD_rep _)
  rw [← hF] at nF
  have HF := hid hF
  clear hF
  go_enter Tryz.func78, Tryz.ntmps78
  go_wp2_with (first
    | (go_at_call 65; refine (starts_any _ _ _).mono ?_; rintro e w' ⟨rfl, rfl⟩)
    | (go_at_call 100; refine hcut.mono ?_; rintro e w' ⟨rfl, n, rfl⟩)
    | (go_at_call 101; refine (allDigits_list _ _ (by omega)).mono ?_; rintro e w' ⟨rfl, rfl⟩)
    | (go_at_call 102; refine (withDigits_z _ _ _ (by omega) (by omega) (by omega) (by assumption)).mono ?_; rintro e w' ⟨rfl, rfl⟩))
  go_loop [8, 53] (fun t i => ∃ k : Nat, k ≤ 3 - Q.length ∧ i = .int .i64 k ∧ t = .int .i64 (satZ (satZ (satZ 0 W) Q) (List.replicate k 48))) (fun _ i => 3 - Q.length - (intOf i).toNat)
  case atStart => exact ⟨0, Nat.zero_le _, rfl, rfl⟩
  case round =>
    obtain ⟨k, hk, rfl, rfl⟩ := hrel
    by_cases hlt : k < 3 - Q.length
    · have hlt' : (k : Int) < 3 - (Q.length : Int) := by omega
      have n3 := satZ_bd (satZ (satZ 0 W) Q) (List.replicate k 48) n2.1 n2.2 (allD_rep _)
      have HR := hid (satZ_rep (satZ (satZ 0 W) Q) k)
      have h48 : allD [48] = true := rfl
      go_wp2_with (go_at_call 102; refine (withDigits_z _ [48] _ (by omega) (by omega) (by simp) h48).mono ?_; rintro e w' ⟨rfl, rfl⟩)
      go_round
      case rel => exact ⟨k + 1, by omega, by go_num, by rw [HR.out]⟩
      case measure => simp [intOf]; omega
    · have hge : ¬ (k : Int) < 3 - (Q.length : Int) := by omega
      have ek : k = 3 - Q.length := by omega
      subst ek
      have e2 := HF.out
      rw [← e2]
      clear e2
      go_wp2_with (go_at_call 103; refine (number_ok _ _ (by omega) (by omega)).mono ?_; rintro e w' ⟨rfl, rfl⟩)
      go_ret2
      exact ⟨rfl, n, rfl⟩

set_option maxHeartbeats 1000000 in
theorem parse_minus_big (s : ByteArray) (W P Q : List UInt8) (F : Int) (f : Bool) (w : World)
    (h45 : startsB s 45 = true) (hsz : 1 ≤ s.size) (_hs : s.size ≤ 100000)
    (hcut : Calls Tryz.prog 100 #[.string (s.extract 1 s.size), .string ⟨#[46]⟩] w fun e w' => e = .returned (.tuple #[.string ⟨W.toArray⟩, .string ⟨P.toArray⟩, .bool f]) ∧ ∃ n, w' = w.drewN n)
    (hw : W.length ≤ 100000) (hp : P.length ≤ 100000) (hW : allD W = true) (hP : allD P = true) (hl : W.length + P.length ≠ 0)
    (hx : (⟨P.toArray⟩ : ByteArray).extract 0 (min (P.length : Int) 3).toNat = ⟨Q.toArray⟩) (hQ : allD Q = true) (hQl : Q.length ≤ 3)
    (hF : F = satZ (satZ (satZ 0 W) Q) (List.replicate (3 - Q.length) 48)) (hfin : 1000000000 < F) :
    Calls Tryz.prog 78 #[.string s] w fun e w' => e = .returned (.tuple #[.int .i64 0, errV 1]) ∧ ∃ n, w' = w.drewN n := by
  have hl' : ((W.length : Int) + (P.length : Int) == 0) = false := by simp; omega
  have n1 := satZ_bd 0 W (by omega) (by omega) hW
  have n2 := satZ_bd (satZ 0 W) Q n1.1 n1.2 hQ
  have nF := satZ_bd (satZ (satZ 0 W) Q) (List.replicate (3 - Q.length) 48) n2.1 n2.2 (allD_rep _)
  rw [← hF] at nF
  have HF := hid hF
  clear hF
  go_enter Tryz.func78, Tryz.ntmps78
  go_wp2_with (first
    | (go_at_call 65; refine (starts_any _ _ _).mono ?_; rintro e w' ⟨rfl, rfl⟩)
    | (go_at_call 100; refine hcut.mono ?_; rintro e w' ⟨rfl, n, rfl⟩)
    | (go_at_call 101; refine (allDigits_list _ _ (by omega)).mono ?_; rintro e w' ⟨rfl, rfl⟩)
    | (go_at_call 102; refine (withDigits_z _ _ _ (by omega) (by omega) (by omega) (by assumption)).mono ?_; rintro e w' ⟨rfl, rfl⟩))
  go_loop [8, 53] (fun t i => ∃ k : Nat, k ≤ 3 - Q.length ∧ i = .int .i64 k ∧ t = .int .i64 (satZ (satZ (satZ 0 W) Q) (List.replicate k 48))) (fun _ i => 3 - Q.length - (intOf i).toNat)
  case atStart => exact ⟨0, Nat.zero_le _, rfl, rfl⟩
  case round =>
    obtain ⟨k, hk, rfl, rfl⟩ := hrel
    by_cases hlt : k < 3 - Q.length
    · have hlt' : (k : Int) < 3 - (Q.length : Int) := by omega
      have n3 := satZ_bd (satZ (satZ 0 W) Q) (List.replicate k 48) n2.1 n2.2 (allD_rep _)
      have HR := hid (satZ_rep (satZ (satZ 0 W) Q) k)
      have h48 : allD [48] = true := rfl
      go_wp2_with (go_at_call 102; refine (withDigits_z _ [48] _ (by omega) (by omega) (by simp) h48).mono ?_; rintro e w' ⟨rfl, rfl⟩)
      go_round
      case rel => exact ⟨k + 1, by omega, by go_num, by rw [HR.out]⟩
      case measure => simp [intOf]; omega
    · have hge : ¬ (k : Int) < 3 - (Q.length : Int) := by omega
      have ek : k = 3 - Q.length := by omega
      subst ek
      have e2 := HF.out
      rw [← e2]
      clear e2
      go_wp2_with (go_at_call 103; refine (number_bad _ _ (by omega)).mono ?_; rintro e w' ⟨rfl, rfl⟩)
      go_ret2
      exact ⟨rfl, n, rfl⟩

set_option maxHeartbeats 1000000 in
theorem parse_minus_len0 (s : ByteArray) (W P : List UInt8) (f : Bool) (w : World)
    (h45 : startsB s 45 = true) (hsz : 1 ≤ s.size) (_hs : s.size ≤ 100000)
    (hcut : Calls Tryz.prog 100 #[.string (s.extract 1 s.size), .string ⟨#[46]⟩] w fun e w' => e = .returned (.tuple #[.string ⟨W.toArray⟩, .string ⟨P.toArray⟩, .bool f]) ∧ ∃ n, w' = w.drewN n)
    (hl : W.length + P.length = 0) :
    Calls Tryz.prog 78 #[.string s] w fun e w' => e = .returned (.tuple #[.int .i64 0, errV 4]) ∧ ∃ n, w' = w.drewN n := by
  have hl' : ((W.length : Int) + (P.length : Int) == 0) = true := by simp; omega
  go_enter Tryz.func78, Tryz.ntmps78
  go_wp2_with (first
    | (go_at_call 65; refine (starts_any _ _ _).mono ?_; rintro e w' ⟨rfl, rfl⟩)
    | (go_at_call 100; refine hcut.mono ?_; rintro e w' ⟨rfl, n, rfl⟩)
    | (go_at_call 101; refine (allDigits_list _ _ (by omega)).mono ?_; rintro e w' ⟨rfl, rfl⟩)
    | (go_at_call 102; refine (withDigits_z _ _ _ (by omega) (by omega) (by omega) (by assumption)).mono ?_; rintro e w' ⟨rfl, rfl⟩))
  go_ret2
  exact ⟨rfl, n, rfl⟩

set_option maxHeartbeats 1000000 in
theorem parse_minus_Wbad (s : ByteArray) (W P : List UInt8) (f : Bool) (w : World)
    (h45 : startsB s 45 = true) (hsz : 1 ≤ s.size) (_hs : s.size ≤ 100000)
    (hcut : Calls Tryz.prog 100 #[.string (s.extract 1 s.size), .string ⟨#[46]⟩] w fun e w' => e = .returned (.tuple #[.string ⟨W.toArray⟩, .string ⟨P.toArray⟩, .bool f]) ∧ ∃ n, w' = w.drewN n)
    (hw : W.length ≤ 100000) (hp : P.length ≤ 100000) (hl : W.length + P.length ≠ 0) (hW : allD W = false) :
    Calls Tryz.prog 78 #[.string s] w fun e w' => e = .returned (.tuple #[.int .i64 0, errV 4]) ∧ ∃ n, w' = w.drewN n := by
  have hl' : ((W.length : Int) + (P.length : Int) == 0) = false := by simp; omega
  go_enter Tryz.func78, Tryz.ntmps78
  go_wp2_with (first
    | (go_at_call 65; refine (starts_any _ _ _).mono ?_; rintro e w' ⟨rfl, rfl⟩)
    | (go_at_call 100; refine hcut.mono ?_; rintro e w' ⟨rfl, n, rfl⟩)
    | (go_at_call 101; refine (allDigits_list _ _ (by omega)).mono ?_; rintro e w' ⟨rfl, rfl⟩)
    | (go_at_call 102; refine (withDigits_z _ _ _ (by omega) (by omega) (by omega) (by assumption)).mono ?_; rintro e w' ⟨rfl, rfl⟩))
  go_ret2
  exact ⟨rfl, n, rfl⟩

set_option maxHeartbeats 1000000 in
theorem parse_minus_Pbad (s : ByteArray) (W P : List UInt8) (f : Bool) (w : World)
    (h45 : startsB s 45 = true) (hsz : 1 ≤ s.size) (_hs : s.size ≤ 100000)
    (hcut : Calls Tryz.prog 100 #[.string (s.extract 1 s.size), .string ⟨#[46]⟩] w fun e w' => e = .returned (.tuple #[.string ⟨W.toArray⟩, .string ⟨P.toArray⟩, .bool f]) ∧ ∃ n, w' = w.drewN n)
    (hw : W.length ≤ 100000) (hp : P.length ≤ 100000) (hl : W.length + P.length ≠ 0) (hW : allD W = true) (hP : allD P = false) :
    Calls Tryz.prog 78 #[.string s] w fun e w' => e = .returned (.tuple #[.int .i64 0, errV 4]) ∧ ∃ n, w' = w.drewN n := by
  have hl' : ((W.length : Int) + (P.length : Int) == 0) = false := by simp; omega
  go_enter Tryz.func78, Tryz.ntmps78
  go_wp2_with (first
    | (go_at_call 65; refine (starts_any _ _ _).mono ?_; rintro e w' ⟨rfl, rfl⟩)
    | (go_at_call 100; refine hcut.mono ?_; rintro e w' ⟨rfl, n, rfl⟩)
    | (go_at_call 101; refine (allDigits_list _ _ (by omega)).mono ?_; rintro e w' ⟨rfl, rfl⟩)
    | (go_at_call 102; refine (withDigits_z _ _ _ (by omega) (by omega) (by omega) (by assumption)).mono ?_; rintro e w' ⟨rfl, rfl⟩))
  go_ret2
  exact ⟨rfl, n, rfl⟩
end Go.Proofs.YtfkjoppehbmomaaGreatDoor
