/-
  Joined: Ff, Fg, Fh.
-/
import Derived.Test.YtobpidmlgldnmaaGreatDoorFe
import Derived.Test.YtobpidmlgldnmaaGreatDoorShelf
import Derived.Test.YtobpidmlgldnmaaGreatDoorPt
import Derived.Lib.SmallJoins

/-
  Contracts: a text that is read as a number, by the program.
-/
namespace Go.Proofs.YtobpidmlgldnmaaGreatDoor
open Go.RowKit
set_option maxRecDepth 100000

theorem allDigits_list (l : List UInt8) (w : World) (hs : l.length ≤ 1000000) :
    Calls Tryz.prog 140 #[.string ⟨l.toArray⟩] w fun e w' => e = .returned (.bool (allD l)) ∧ w' = w :=
  allDigits_any ⟨l.toArray⟩ w (by simpa [ByteArray.size] using hs)
theorem withDigits_list (n : Nat) (l : List UInt8) (w : World) (hn : n ≤ 10000000009) (hs : l.length ≤ 1000000) (hd : allD l = true) :
    Calls Tryz.prog 141 #[.int .i64 n, .string ⟨l.toArray⟩] w fun e w' => e = .returned (.int .i64 (satD n l : Nat)) ∧ w' = w :=
  withDigits_any n ⟨l.toArray⟩ w hn (by simpa [ByteArray.size] using hs) hd

def startsB (s : ByteArray) (c : UInt8) : Bool := Lib.hasPrefix s.data.toList [c]
theorem starts_any (s : ByteArray) (c : UInt8) (w : World) :
    Calls Tryz.prog 109 #[.string s, .string ⟨#[c]⟩] w fun e w' => e = .returned (.bool (startsB s c)) ∧ w' = w := Tryz.strings_HasPrefix s ⟨#[c]⟩ w

/-- Digits behind a number, as an integer. -/
def satZ (n : Int) (l : List UInt8) : Int := (satD n.toNat l : Nat)
theorem withDigits_z (n : Int) (l : List UInt8) (w : World) (h0 : 0 ≤ n) (h1 : n ≤ 10000000009) (hs : l.length ≤ 1000000) (hd : allD l = true) :
    Calls Tryz.prog 141 #[.int .i64 n, .string ⟨l.toArray⟩] w fun e w' => e = .returned (.int .i64 (satZ n l)) ∧ w' = w := by
  have h := withDigits_list n.toNat l w (by omega) hs hd
  rw [show ((n.toNat : Nat) : Int) = n by omega] at h
  exact h
theorem satZ_bd (n : Int) (l : List UInt8) (h0 : 0 ≤ n) (h1 : n ≤ 10000000009) (hd : allD l = true) : 0 ≤ satZ n l ∧ satZ n l ≤ 10000000009 := by
  have := satD_le l n.toNat hd (by omega)
  unfold satZ; omega
theorem extract_take (P : List UInt8) : (⟨P.toArray⟩ : ByteArray).extract 0 (min (P.length : Int) 3).toNat = ⟨(P.take 3).toArray⟩ := by
  have e : (min (P.length : Int) 3).toNat = min P.length 3 := by omega
  rw [e, Lib.extract_eq]
  simp [Nat.min_comm]
theorem allD_take {l : List UInt8} (h : allD l = true) (k : Nat) : allD (l.take k) = true := List.all_eq_true.2 fun x hx => List.all_eq_true.1 h x (List.mem_of_mem_take hx)
theorem allD_rep (k : Nat) : allD (List.replicate k 48) = true := List.all_eq_true.2 fun x hx => by rw [List.eq_of_mem_replicate hx]; rfl
theorem satZ_rep (n : Int) (k : Nat) : satZ n (List.replicate (k + 1) 48) = satZ (satZ n (List.replicate k 48)) [48] := by
  unfold satZ; rw [List.replicate_succ', satD_snoc]; rfl
def finZ (W P : List UInt8) : Int := satZ (satZ (satZ 0 W) (P.take 3)) (List.replicate (3 - (P.take 3).length) 48)
theorem finZ_eq (W P : List UInt8) : finZ W P = (satD (satD (satD 0 W) (P.take 3)) (List.replicate (3 - (P.take 3).length) 48) : Nat) := rfl

set_option maxHeartbeats 1000000 in
theorem parse_none_ok (s : ByteArray) (W P Q : List UInt8) (F : Int) (f : Bool) (w : World)
    (h45 : startsB s 45 = false) (h43 : startsB s 43 = false) (_hs : s.size ≤ 100000)
    (hcut : Calls Tryz.prog 139 #[.string s, .string ⟨#[46]⟩] w fun e w' => e = .returned (.tuple #[.string ⟨W.toArray⟩, .string ⟨P.toArray⟩, .bool f]) ∧ ∃ n, w' = w.drewN n)
    (hw : W.length ≤ 100000) (hp : P.length ≤ 100000) (hW : allD W = true) (hP : allD P = true) (hl : W.length + P.length ≠ 0)
    (hx : (⟨P.toArray⟩ : ByteArray).extract 0 (min (P.length : Int) 3).toNat = ⟨Q.toArray⟩) (hQ : allD Q = true) (hQl : Q.length ≤ 3)
    (hF : F = satZ (satZ (satZ 0 W) Q) (List.replicate (3 - Q.length) 48)) (hfin : F ≤ 1000000000) :
    Calls Tryz.prog 122 #[.string s] w fun e w' => e = .returned (.tuple #[.int .i64 (F), .nilIface]) ∧ ∃ n, w' = w.drewN n := by
  have hl' : ((W.length : Int) + (P.length : Int) == 0) = false := by simp; omega
  have n1 := satZ_bd 0 W (by omega) (by omega) hW
  have n2 := satZ_bd (satZ 0 W) Q n1.1 n1.2 hQ
  have nF := satZ_bd (satZ (satZ 0 W) Q) (List.replicate (3 - Q.length) 48) n2.1 n2.2 (allD_rep _)
  rw [← hF] at nF
  have HF := hid hF
  clear hF
  go_enter Tryz.func122, Tryz.ntmps122
  go_wp2_with (first
    | (go_at_call 109; refine (starts_any _ _ _).mono ?_; rintro e w' ⟨rfl, rfl⟩)
    | (go_at_call 139; refine hcut.mono ?_; rintro e w' ⟨rfl, n, rfl⟩)
    | (go_at_call 140; refine (allDigits_list _ _ (by omega)).mono ?_; rintro e w' ⟨rfl, rfl⟩)
    | (go_at_call 141; refine (withDigits_z _ _ _ (by omega) (by omega) (by omega) (by assumption)).mono ?_; rintro e w' ⟨rfl, rfl⟩))
  go_loop [8, 53] (fun t i => ∃ k : Nat, k ≤ 3 - Q.length ∧ i = .int .i64 k ∧ t = .int .i64 (satZ (satZ (satZ 0 W) Q) (List.replicate k 48))) (fun _ i => 3 - Q.length - (intOf i).toNat)
  case atStart => exact ⟨0, Nat.zero_le _, rfl, rfl⟩
  case round =>
    obtain ⟨k, hk, rfl, rfl⟩ := hrel
    by_cases hlt : k < 3 - Q.length
    · have hlt' : (k : Int) < 3 - (Q.length : Int) := by omega
      have n3 := satZ_bd (satZ (satZ 0 W) Q) (List.replicate k 48) n2.1 n2.2 (allD_rep _)
      have HR := hid (satZ_rep (satZ (satZ 0 W) Q) k)
      have h48 : allD [48] = true := rfl
      go_wp2_with (go_at_call 141; refine (withDigits_z _ [48] _ (by omega) (by omega) (by simp) h48).mono ?_; rintro e w' ⟨rfl, rfl⟩)
      go_round
      case rel => exact ⟨k + 1, by omega, by go_num, by rw [HR.out]⟩
      case measure => simp [intOf]; omega
    · have hge : ¬ (k : Int) < 3 - (Q.length : Int) := by omega
      have ek : k = 3 - Q.length := by omega
      subst ek
      have e2 := HF.out
      rw [← e2]
      clear e2
      go_wp2_with (go_at_call 126; refine (number_ok _ _ (by omega) (by omega)).mono ?_; rintro e w' ⟨rfl, rfl⟩)
      go_ret2
      exact ⟨rfl, n, rfl⟩

set_option maxHeartbeats 1000000 in
theorem parse_none_big (s : ByteArray) (W P Q : List UInt8) (F : Int) (f : Bool) (w : World)
    (h45 : startsB s 45 = false) (h43 : startsB s 43 = false) (_hs : s.size ≤ 100000)
    (hcut : Calls Tryz.prog 139 #[.string s, .string ⟨#[46]⟩] w fun e w' => e = .returned (.tuple #[.string ⟨W.toArray⟩, .string ⟨P.toArray⟩, .bool f]) ∧ ∃ n, w' = w.drewN n)
    (hw : W.length ≤ 100000) (hp : P.length ≤ 100000) (hW : allD W = true) (hP : allD P = true) (hl : W.length + P.length ≠ 0)
    (hx : (⟨P.toArray⟩ : ByteArray).extract 0 (min (P.length : Int) 3).toNat = ⟨Q.toArray⟩) (hQ : allD Q = true) (hQl : Q.length ≤ 3)
    (hF : F = satZ (satZ (satZ 0 W) Q) (List.replicate (3 - Q.length) 48)) (hfin : 1000000000 < F) :
    Calls Tryz.prog 122 #[.string s] w fun e w' => e = .returned (.tuple #[.int .i64 0, errV 1]) ∧ ∃ n, w' = w.drewN n := by
  have hl' : ((W.length : Int) + (P.length : Int) == 0) = false := by simp; omega
  have n1 := satZ_bd 0 W (by omega) (by omega) hW
  have n2 := satZ_bd (satZ 0 W) Q n1.1 n1.2 hQ
  have nF := satZ_bd (satZ (satZ 0 W) Q) (List.replicate (3 - Q.length) 48) n2.1 n2.2 (allD_rep _)
  rw [← hF] at nF
  have HF := hid hF
  clear hF
  go_enter Tryz.func122, Tryz.ntmps122
  go_wp2_with (first
    | (go_at_call 109; refine (starts_any _ _ _).mono ?_; rintro e w' ⟨rfl, rfl⟩)
    | (go_at_call 139; refine hcut.mono ?_; rintro e w' ⟨rfl, n, rfl⟩)
    | (go_at_call 140; refine (allDigits_list _ _ (by omega)).mono ?_; rintro e w' ⟨rfl, rfl⟩)
    | (go_at_call 141; refine (withDigits_z _ _ _ (by omega) (by omega) (by omega) (by assumption)).mono ?_; rintro e w' ⟨rfl, rfl⟩))
  go_loop [8, 53] (fun t i => ∃ k : Nat, k ≤ 3 - Q.length ∧ i = .int .i64 k ∧ t = .int .i64 (satZ (satZ (satZ 0 W) Q) (List.replicate k 48))) (fun _ i => 3 - Q.length - (intOf i).toNat)
  case atStart => exact ⟨0, Nat.zero_le _, rfl, rfl⟩
  case round =>
    obtain ⟨k, hk, rfl, rfl⟩ := hrel
    by_cases hlt : k < 3 - Q.length
    · have hlt' : (k : Int) < 3 - (Q.length : Int) := by omega
      have n3 := satZ_bd (satZ (satZ 0 W) Q) (List.replicate k 48) n2.1 n2.2 (allD_rep _)
      have HR := hid (satZ_rep (satZ (satZ 0 W) Q) k)
      have h48 : allD [48] = true := rfl
      go_wp2_with (go_at_call 141; refine (withDigits_z _ [48] _ (by omega) (by omega) (by simp) h48).mono ?_; rintro e w' ⟨rfl, rfl⟩)
      go_round
      case rel => exact ⟨k + 1, by omega, by go_num, by rw [HR.out]⟩
      case measure => simp [intOf]; omega
    · have hge : ¬ (k : Int) < 3 - (Q.length : Int) := by omega
      have ek : k = 3 - Q.length := by omega
      subst ek
      have e2 := HF.out
      rw [← e2]
      clear e2
      go_wp2_with (go_at_call 126; refine (number_bad _ _ (by omega)).mono ?_; rintro e w' ⟨rfl, rfl⟩)
      go_ret2
      exact ⟨rfl, n, rfl⟩

set_option maxHeartbeats 1000000 in
theorem parse_none_len0 (s : ByteArray) (W P : List UInt8) (f : Bool) (w : World)
    (h45 : startsB s 45 = false) (h43 : startsB s 43 = false) (_hs : s.size ≤ 100000)
    (hcut : Calls Tryz.prog 139 #[.string s, .string ⟨#[46]⟩] w fun e w' => e = .returned (.tuple #[.string ⟨W.toArray⟩, .string ⟨P.toArray⟩, .bool f]) ∧ ∃ n, w' = w.drewN n)
    (hl : W.length + P.length = 0) :
    Calls Tryz.prog 122 #[.string s] w fun e w' => e = .returned (.tuple #[.int .i64 0, errV 4]) ∧ ∃ n, w' = w.drewN n := by
  have hl' : ((W.length : Int) + (P.length : Int) == 0) = true := by simp; omega
  go_enter Tryz.func122, Tryz.ntmps122
  go_wp2_with (first
    | (go_at_call 109; refine (starts_any _ _ _).mono ?_; rintro e w' ⟨rfl, rfl⟩)
    | (go_at_call 139; refine hcut.mono ?_; rintro e w' ⟨rfl, n, rfl⟩)
    | (go_at_call 140; refine (allDigits_list _ _ (by omega)).mono ?_; rintro e w' ⟨rfl, rfl⟩)
    | (go_at_call 141; refine (withDigits_z _ _ _ (by omega) (by omega) (by omega) (by assumption)).mono ?_; rintro e w' ⟨rfl, rfl⟩))
  go_ret2
  exact ⟨rfl, n, rfl⟩

set_option maxHeartbeats 1000000 in
theorem parse_none_Wbad (s : ByteArray) (W P : List UInt8) (f : Bool) (w : World)
    (h45 : startsB s 45 = false) (h43 : startsB s 43 = false) (_hs : s.size ≤ 100000)
    (hcut : Calls Tryz.prog 139 #[.string s, .string ⟨#[46]⟩] w fun e w' => e = .returned (.tuple #[.string ⟨W.toArray⟩, .string ⟨P.toArray⟩, .bool f]) ∧ ∃ n, w' = w.drewN n)
    (hw : W.length ≤ 100000) (hp : P.length ≤ 100000) (hl : W.length + P.length ≠ 0) (hW : allD W = false) :
    Calls Tryz.prog 122 #[.string s] w fun e w' => e = .returned (.tuple #[.int .i64 0, errV 4]) ∧ ∃ n, w' = w.drewN n := by
  have hl' : ((W.length : Int) + (P.length : Int) == 0) = false := by simp; omega
  go_enter Tryz.func122, Tryz.ntmps122
  go_wp2_with (first
    | (go_at_call 109; refine (starts_any _ _ _).mono ?_; rintro e w' ⟨rfl, rfl⟩)
    | (go_at_call 139; refine hcut.mono ?_; rintro e w' ⟨rfl, n, rfl⟩)
    | (go_at_call 140; refine (allDigits_list _ _ (by omega)).mono ?_; rintro e w' ⟨rfl, rfl⟩)
    | (go_at_call 141; refine (withDigits_z _ _ _ (by omega) (by omega) (by omega) (by assumption)).mono ?_; rintro e w' ⟨rfl, rfl⟩))
  go_ret2
  exact ⟨rfl, n, rfl⟩

set_option maxHeartbeats 1000000 in
theorem parse_none_Pbad (s : ByteArray) (W P : List UInt8) (f : Bool) (w : World)
    (h45 : startsB s 45 = false) (h43 : startsB s 43 = false) (_hs : s.size ≤ 100000)
    (hcut : Calls Tryz.prog 139 #[.string s, .string ⟨#[46]⟩] w fun e w' => e = .returned (.tuple #[.string ⟨W.toArray⟩, .string ⟨P.toArray⟩, .bool f]) ∧ ∃ n, w' = w.drewN n)
    (hw : W.length ≤ 100000) (hp : P.length ≤ 100000) (hl : W.length + P.length ≠ 0) (hW : allD W = true) (hP : allD P = false) :
    Calls Tryz.prog 122 #[.string s] w fun e w' => e = .returned (.tuple #[.int .i64 0, errV 4]) ∧ ∃ n, w' = w.drewN n := by
  have hl' : ((W.length : Int) + (P.length : Int) == 0) = false := by simp; omega
  go_enter Tryz.func122, Tryz.ntmps122
  go_wp2_with (first
    | (go_at_call 109; refine (starts_any _ _ _).mono ?_; rintro e w' ⟨rfl, rfl⟩)
    | (go_at_call 139; refine hcut.mono ?_; rintro e w' ⟨rfl, n, rfl⟩)
    | (go_at_call 140; refine (allDigits_list _ _ (by omega)).mono ?_; rintro e w' ⟨rfl, rfl⟩)
    | (go_at_call 141; refine (withDigits_z _ _ _ (by omega) (by omega) (by omega) (by assumption)).mono ?_; rintro e w' ⟨rfl, rfl⟩))
  go_ret2
  exact ⟨rfl, n, rfl⟩

set_option maxHeartbeats 1000000 in
theorem parse_plus_ok (s : ByteArray) (W P Q : List UInt8) (F : Int) (f : Bool) (w : World)
    (h45 : startsB s 45 = false) (h43 : startsB s 43 = true) (hsz : 1 ≤ s.size) (_hs : s.size ≤ 100000)
    (hcut : Calls Tryz.prog 139 #[.string (s.extract 1 s.size), .string ⟨#[46]⟩] w fun e w' => e = .returned (.tuple #[.string ⟨W.toArray⟩, .string ⟨P.toArray⟩, .bool f]) ∧ ∃ n, w' = w.drewN n)
    (hw : W.length ≤ 100000) (hp : P.length ≤ 100000) (hW : allD W = true) (hP : allD P = true) (hl : W.length + P.length ≠ 0)
    (hx : (⟨P.toArray⟩ : ByteArray).extract 0 (min (P.length : Int) 3).toNat = ⟨Q.toArray⟩) (hQ : allD Q = true) (hQl : Q.length ≤ 3)
    (hF : F = satZ (satZ (satZ 0 W) Q) (List.replicate (3 - Q.length) 48)) (hfin : F ≤ 1000000000) :
    Calls Tryz.prog 122 #[.string s] w fun e w' => e = .returned (.tuple #[.int .i64 (F), .nilIface]) ∧ ∃ n, w' = w.drewN n := by
  have hl' : ((W.length : Int) + (P.length : Int) == 0) = false := by simp; omega
  have n1 := satZ_bd 0 W (by omega) (by omega) hW
  have n2 := satZ_bd (satZ 0 W) Q n1.1 n1.2 hQ
  have nF := satZ_bd (satZ (satZ 0 W) Q) (List.replicate (3 - Q.length) 48) n2.1 n2.2 (allD_rep _)
  rw [← hF] at nF
  have HF := hid hF
  clear hF
  go_enter Tryz.func122, Tryz.ntmps122
  go_wp2_with (first
    | (go_at_call 109; refine (starts_any _ _ _).mono ?_; rintro e w' ⟨rfl, rfl⟩)
    | (go_at_call 139; refine hcut.mono ?_; rintro e w' ⟨rfl, n, rfl⟩)
    | (go_at_call 140; refine (allDigits_list _ _ (by omega)).mono ?_; rintro e w' ⟨rfl, rfl⟩)
    | (go_at_call 141; refine (withDigits_z _ _ _ (by omega) (by omega) (by omega) (by assumption)).mono ?_; rintro e w' ⟨rfl, rfl⟩))
  go_loop [8, 53] (fun t i => ∃ k : Nat, k ≤ 3 - Q.length ∧ i = .int .i64 k ∧ t = .int .i64 (satZ (satZ (satZ 0 W) Q) (List.replicate k 48))) (fun _ i => 3 - Q.length - (intOf i).toNat)
  case atStart => exact ⟨0, Nat.zero_le _, rfl, rfl⟩
  case round =>
    obtain ⟨k, hk, rfl, rfl⟩ := hrel
    by_cases hlt : k < 3 - Q.length
    · have hlt' : (k : Int) < 3 - (Q.length : Int) := by omega
      have n3 := satZ_bd (satZ (satZ 0 W) Q) (List.replicate k 48) n2.1 n2.2 (allD_rep _)
      have HR := hid (satZ_rep (satZ (satZ 0 W) Q) k)
      have h48 : allD [48] = true := rfl
      go_wp2_with (go_at_call 141; refine (withDigits_z _ [48] _ (by omega) (by omega) (by simp) h48).mono ?_; rintro e w' ⟨rfl, rfl⟩)
      go_round
      case rel => exact ⟨k + 1, by omega, by go_num, by rw [HR.out]⟩
      case measure => simp [intOf]; omega
    · have hge : ¬ (k : Int) < 3 - (Q.length : Int) := by omega
      have ek : k = 3 - Q.length := by omega
      subst ek
      have e2 := HF.out
      rw [← e2]
      clear e2
      go_wp2_with (go_at_call 126; refine (number_ok _ _ (by omega) (by omega)).mono ?_; rintro e w' ⟨rfl, rfl⟩)
      go_ret2
      exact ⟨rfl, n, rfl⟩

set_option maxHeartbeats 1000000 in
theorem parse_plus_big (s : ByteArray) (W P Q : List UInt8) (F : Int) (f : Bool) (w : World)
    (h45 : startsB s 45 = false) (h43 : startsB s 43 = true) (hsz : 1 ≤ s.size) (_hs : s.size ≤ 100000)
    (hcut : Calls Tryz.prog 139 #[.string (s.extract 1 s.size), .string ⟨#[46]⟩] w fun e w' => e = .returned (.tuple #[.string ⟨W.toArray⟩, .string ⟨P.toArray⟩, .bool f]) ∧ ∃ n, w' = w.drewN n)
    (hw : W.length ≤ 100000) (hp : P.length ≤ 100000) (hW : allD W = true) (hP : allD P = true) (hl : W.length + P.length ≠ 0)
    (hx : (⟨P.toArray⟩ : ByteArray).extract 0 (min (P.length : Int) 3).toNat = ⟨Q.toArray⟩) (hQ : allD Q = true) (hQl : Q.length ≤ 3)
    (hF : F = satZ (satZ (satZ 0 W) Q) (List.replicate (3 - Q.length) 48)) (hfin : 1000000000 < F) :
    Calls Tryz.prog 122 #[.string s] w fun e w' => e = .returned (.tuple #[.int .i64 0, errV 1]) ∧ ∃ n, w' = w.drewN n := by
  have hl' : ((W.length : Int) + (P.length : Int) == 0) = false := by simp; omega
  have n1 := satZ_bd 0 W (by omega) (by omega) hW
  have n2 := satZ_bd (satZ 0 W) Q n1.1 n1.2 hQ
  have nF := satZ_bd (satZ (satZ 0 W) Q) (List.replicate (3 - Q.length) 48) n2.1 n2.2 (allD_rep _)
  rw [← hF] at nF
  have HF := hid hF
  clear hF
  go_enter Tryz.func122, Tryz.ntmps122
  go_wp2_with (first
    | (go_at_call 109; refine (starts_any _ _ _).mono ?_; rintro e w' ⟨rfl, rfl⟩)
    | (go_at_call 139; refine hcut.mono ?_; rintro e w' ⟨rfl, n, rfl⟩)
    | (go_at_call 140; refine (allDigits_list _ _ (by omega)).mono ?_; rintro e w' ⟨rfl, rfl⟩)
    | (go_at_call 141; refine (withDigits_z _ _ _ (by omega) (by omega) (by omega) (by assumption)).mono ?_; rintro e w' ⟨rfl, rfl⟩))
  go_loop [8, 53] (fun t i => ∃ k : Nat, k ≤ 3 - Q.length ∧ i = .int .i64 k ∧ t = .int .i64 (satZ (satZ (satZ 0 W) Q) (List.replicate k 48))) (fun _ i => 3 - Q.length - (intOf i).toNat)
  case atStart => exact ⟨0, Nat.zero_le _, rfl, rfl⟩
  case round =>
    obtain ⟨k, hk, rfl, rfl⟩ := hrel
    by_cases hlt : k < 3 - Q.length
    · have hlt' : (k : Int) < 3 - (Q.length : Int) := by omega
      have n3 := satZ_bd (satZ (satZ 0 W) Q) (List.replicate k 48) n2.1 n2.2 (allD_rep _)
      have HR := hid (satZ_rep (satZ (satZ 0 W) Q) k)
      have h48 : allD [48] = true := rfl
      go_wp2_with (go_at_call 141; refine (withDigits_z _ [48] _ (by omega) (by omega) (by simp) h48).mono ?_; rintro e w' ⟨rfl, rfl⟩)
      go_round
      case rel => exact ⟨k + 1, by omega, by go_num, by rw [HR.out]⟩
      case measure => simp [intOf]; omega
    · have hge : ¬ (k : Int) < 3 - (Q.length : Int) := by omega
      have ek : k = 3 - Q.length := by omega
      subst ek
      have e2 := HF.out
      rw [← e2]
      clear e2
      go_wp2_with (go_at_call 126; refine (number_bad _ _ (by omega)).mono ?_; rintro e w' ⟨rfl, rfl⟩)
      go_ret2
      exact ⟨rfl, n, rfl⟩

set_option maxHeartbeats 1000000 in
theorem parse_plus_len0 (s : ByteArray) (W P : List UInt8) (f : Bool) (w : World)
    (h45 : startsB s 45 = false) (h43 : startsB s 43 = true) (hsz : 1 ≤ s.size) (_hs : s.size ≤ 100000)
    (hcut : Calls Tryz.prog 139 #[.string (s.extract 1 s.size), .string ⟨#[46]⟩] w fun e w' => e = .returned (.tuple #[.string ⟨W.toArray⟩, .string ⟨P.toArray⟩, .bool f]) ∧ ∃ n, w' = w.drewN n)
    (hl : W.length + P.length = 0) :
    Calls Tryz.prog 122 #[.string s] w fun e w' => e = .returned (.tuple #[.int .i64 0, errV 4]) ∧ ∃ n, w' = w.drewN n := by
  have hl' : ((W.length : Int) + (P.length : Int) == 0) = true := by simp; omega
  go_enter Tryz.func122, Tryz.ntmps122
  go_wp2_with (first
    | (go_at_call 109; refine (starts_any _ _ _).mono ?_; rintro e w' ⟨rfl, rfl⟩)
    | (go_at_call 139; refine hcut.mono ?_; rintro e w' ⟨rfl, n, rfl⟩)
    | (go_at_call 140; refine (allDigits_list _ _ (by omega)).mono ?_; rintro e w' ⟨rfl, rfl⟩)
    | (go_at_call 141; refine (withDigits_z _ _ _ (by omega) (by omega) (by omega) (by assumption)).mono ?_; rintro e w' ⟨rfl, rfl⟩))
  go_ret2
  exact ⟨rfl, n, rfl⟩

set_option maxHeartbeats 1000000 in
theorem parse_plus_Wbad (s : ByteArray) (W P : List UInt8) (f : Bool) (w : World)
    (h45 : startsB s 45 = false) (h43 : startsB s 43 = true) (hsz : 1 ≤ s.size) (_hs : s.size ≤ 100000)
    (hcut : Calls Tryz.prog 139 #[.string (s.extract 1 s.size), .string ⟨#[46]⟩] w fun e w' => e = .returned (.tuple #[.string ⟨W.toArray⟩, .string ⟨P.toArray⟩, .bool f]) ∧ ∃ n, w' = w.drewN n)
    (hw : W.length ≤ 100000) (hp : P.length ≤ 100000) (hl : W.length + P.length ≠ 0) (hW : allD W = false) :
    Calls Tryz.prog 122 #[.string s] w fun e w' => e = .returned (.tuple #[.int .i64 0, errV 4]) ∧ ∃ n, w' = w.drewN n := by
  have hl' : ((W.length : Int) + (P.length : Int) == 0) = false := by simp; omega
  go_enter Tryz.func122, Tryz.ntmps122
  go_wp2_with (first
    | (go_at_call 109; refine (starts_any _ _ _).mono ?_; rintro e w' ⟨rfl, rfl⟩)
    | (go_at_call 139; refine hcut.mono ?_; rintro e w' ⟨rfl, n, rfl⟩)
    | (go_at_call 140; refine (allDigits_list _ _ (by omega)).mono ?_; rintro e w' ⟨rfl, rfl⟩)
    | (go_at_call 141; refine (withDigits_z _ _ _ (by omega) (by omega) (by omega) (by assumption)).mono ?_; rintro e w' ⟨rfl, rfl⟩))
  go_ret2
  exact ⟨rfl, n, rfl⟩

set_option maxHeartbeats 1000000 in
theorem parse_plus_Pbad (s : ByteArray) (W P : List UInt8) (f : Bool) (w : World)
    (h45 : startsB s 45 = false) (h43 : startsB s 43 = true) (hsz : 1 ≤ s.size) (_hs : s.size ≤ 100000)
    (hcut : Calls Tryz.prog 139 #[.string (s.extract 1 s.size), .string ⟨#[46]⟩] w fun e w' => e = .returned (.tuple #[.string ⟨W.toArray⟩, .string ⟨P.toArray⟩, .bool f]) ∧ ∃ n, w' = w.drewN n)
    (hw : W.length ≤ 100000) (hp : P.length ≤ 100000) (hl : W.length + P.length ≠ 0) (hW : allD W = true) (hP : allD P = false) :
    Calls Tryz.prog 122 #[.string s] w fun e w' => e = .returned (.tuple #[.int .i64 0, errV 4]) ∧ ∃ n, w' = w.drewN n := by
  have hl' : ((W.length : Int) + (P.length : Int) == 0) = false := by simp; omega
  go_enter Tryz.func122, Tryz.ntmps122
  go_wp2_with (first
    | (go_at_call 109; refine (starts_any _ _ _).mono ?_; rintro e w' ⟨rfl, rfl⟩)
    | (go_at_call 139; refine hcut.mono ?_; rintro e w' ⟨rfl, n, rfl⟩)
    | (go_at_call 140; refine (allDigits_list _ _ (by omega)).mono ?_; rintro e w' ⟨rfl, rfl⟩)
    | (go_at_call 141; refine (withDigits_z _ _ _ (by omega) (by omega) (by omega) (by assumption)).mono ?_; rintro e w' ⟨rfl, rfl⟩))
  go_ret2
  exact ⟨rfl, n, rfl⟩

set_option maxHeartbeats 1000000 in
theorem parse_minus_ok (s : ByteArray) (W P Q : List UInt8) (F : Int) (f : Bool) (w : World)
    (h45 : startsB s 45 = true) (hsz : 1 ≤ s.size) (_hs : s.size ≤ 100000)
    (hcut : Calls Tryz.prog 139 #[.string (s.extract 1 s.size), .string ⟨#[46]⟩] w fun e w' => e = .returned (.tuple #[.string ⟨W.toArray⟩, .string ⟨P.toArray⟩, .bool f]) ∧ ∃ n, w' = w.drewN n)
    (hw : W.length ≤ 100000) (hp : P.length ≤ 100000) (hW : allD W = true) (hP : allD P = true) (hl : W.length + P.length ≠ 0)
    (hx : (⟨P.toArray⟩ : ByteArray).extract 0 (min (P.length : Int) 3).toNat = ⟨Q.toArray⟩) (hQ : allD Q = true) (hQl : Q.length ≤ 3)
    (hF : F = satZ (satZ (satZ 0 W) Q) (List.replicate (3 - Q.length) 48)) (hfin : F ≤ 1000000000) :
    Calls Tryz.prog 122 #[.string s] w fun e w' => e = .returned (.tuple #[.int .i64 (-F), .nilIface]) ∧ ∃ n, w' = w.drewN n := by
  have hl' : ((W.length : Int) + (P.length : Int) == 0) = false := by simp; omega
  have n1 := satZ_bd 0 W (by omega) (by omega) hW
  have n2 := satZ_bd (satZ 0 W) Q n1.1 n1.2 hQ
  have nF := satZ_bd (satZ (satZ 0 W) Q) (List.replicate (3 - Q.length) 48) n2.1 n2.2 (allD_rep _)
  rw [← hF] at nF
  have HF := hid hF
  clear hF
  go_enter Tryz.func122, Tryz.ntmps122
  go_wp2_with (first
    | (go_at_call 109; refine (starts_any _ _ _).mono ?_; rintro e w' ⟨rfl, rfl⟩)
    | (go_at_call 139; refine hcut.mono ?_; rintro e w' ⟨rfl, n, rfl⟩)
    | (go_at_call 140; refine (allDigits_list _ _ (by omega)).mono ?_; rintro e w' ⟨rfl, rfl⟩)
    | (go_at_call 141; refine (withDigits_z _ _ _ (by omega) (by omega) (by omega) (by assumption)).mono ?_; rintro e w' ⟨rfl, rfl⟩))
  go_loop [8, 53] (fun t i => ∃ k : Nat, k ≤ 3 - Q.length ∧ i = .int .i64 k ∧ t = .int .i64 (satZ (satZ (satZ 0 W) Q) (List.replicate k 48))) (fun _ i => 3 - Q.length - (intOf i).toNat)
  case atStart => exact ⟨0, Nat.zero_le _, rfl, rfl⟩
  case round =>
    obtain ⟨k, hk, rfl, rfl⟩ := hrel
    by_cases hlt : k < 3 - Q.length
    · have hlt' : (k : Int) < 3 - (Q.length : Int) := by omega
      have n3 := satZ_bd (satZ (satZ 0 W) Q) (List.replicate k 48) n2.1 n2.2 (allD_rep _)
      have HR := hid (satZ_rep (satZ (satZ 0 W) Q) k)
      have h48 : allD [48] = true := rfl
      go_wp2_with (go_at_call 141; refine (withDigits_z _ [48] _ (by omega) (by omega) (by simp) h48).mono ?_; rintro e w' ⟨rfl, rfl⟩)
      go_round
      case rel => exact ⟨k + 1, by omega, by go_num, by rw [HR.out]⟩
      case measure => simp [intOf]; omega
    · have hge : ¬ (k : Int) < 3 - (Q.length : Int) := by omega
      have ek : k = 3 - Q.length := by omega
      subst ek
      have e2 := HF.out
      rw [← e2]
      clear e2
      go_wp2_with (go_at_call 126; refine (number_ok _ _ (by omega) (by omega)).mono ?_; rintro e w' ⟨rfl, rfl⟩)
      go_ret2
      exact ⟨rfl, n, rfl⟩

set_option maxHeartbeats 1000000 in
theorem parse_minus_big (s : ByteArray) (W P Q : List UInt8) (F : Int) (f : Bool) (w : World)
    (h45 : startsB s 45 = true) (hsz : 1 ≤ s.size) (_hs : s.size ≤ 100000)
    (hcut : Calls Tryz.prog 139 #[.string (s.extract 1 s.size), .string ⟨#[46]⟩] w fun e w' => e = .returned (.tuple #[.string ⟨W.toArray⟩, .string ⟨P.toArray⟩, .bool f]) ∧ ∃ n, w' = w.drewN n)
    (hw : W.length ≤ 100000) (hp : P.length ≤ 100000) (hW : allD W = true) (hP : allD P = true) (hl : W.length + P.length ≠ 0)
    (hx : (⟨P.toArray⟩ : ByteArray).extract 0 (min (P.length : Int) 3).toNat = ⟨Q.toArray⟩) (hQ : allD Q = true) (hQl : Q.length ≤ 3)
    (hF : F = satZ (satZ (satZ 0 W) Q) (List.replicate (3 - Q.length) 48)) (hfin : 1000000000 < F) :
    Calls Tryz.prog 122 #[.string s] w fun e w' => e = .returned (.tuple #[.int .i64 0, errV 1]) ∧ ∃ n, w' = w.drewN n := by
  have hl' : ((W.length : Int) + (P.length : Int) == 0) = false := by simp; omega
  have n1 := satZ_bd 0 W (by omega) (by omega) hW
  have n2 := satZ_bd (satZ 0 W) Q n1.1 n1.2 hQ
  have nF := satZ_bd (satZ (satZ 0 W) Q) (List.replicate (3 - Q.length) 48) n2.1 n2.2 (allD_rep _)
  rw [← hF] at nF
  have HF := hid hF
  clear hF
  go_enter Tryz.func122, Tryz.ntmps122
  go_wp2_with (first
    | (go_at_call 109; refine (starts_any _ _ _).mono ?_; rintro e w' ⟨rfl, rfl⟩)
    | (go_at_call 139; refine hcut.mono ?_; rintro e w' ⟨rfl, n, rfl⟩)
    | (go_at_call 140; refine (allDigits_list _ _ (by omega)).mono ?_; rintro e w' ⟨rfl, rfl⟩)
    | (go_at_call 141; refine (withDigits_z _ _ _ (by omega) (by omega) (by omega) (by assumption)).mono ?_; rintro e w' ⟨rfl, rfl⟩))
  go_loop [8, 53] (fun t i => ∃ k : Nat, k ≤ 3 - Q.length ∧ i = .int .i64 k ∧ t = .int .i64 (satZ (satZ (satZ 0 W) Q) (List.replicate k 48))) (fun _ i => 3 - Q.length - (intOf i).toNat)
  case atStart => exact ⟨0, Nat.zero_le _, rfl, rfl⟩
  case round =>
    obtain ⟨k, hk, rfl, rfl⟩ := hrel
    by_cases hlt : k < 3 - Q.length
    · have hlt' : (k : Int) < 3 - (Q.length : Int) := by omega
      have n3 := satZ_bd (satZ (satZ 0 W) Q) (List.replicate k 48) n2.1 n2.2 (allD_rep _)
      have HR := hid (satZ_rep (satZ (satZ 0 W) Q) k)
      have h48 : allD [48] = true := rfl
      go_wp2_with (go_at_call 141; refine (withDigits_z _ [48] _ (by omega) (by omega) (by simp) h48).mono ?_; rintro e w' ⟨rfl, rfl⟩)
      go_round
      case rel => exact ⟨k + 1, by omega, by go_num, by rw [HR.out]⟩
      case measure => simp [intOf]; omega
    · have hge : ¬ (k : Int) < 3 - (Q.length : Int) := by omega
      have ek : k = 3 - Q.length := by omega
      subst ek
      have e2 := HF.out
      rw [← e2]
      clear e2
      go_wp2_with (go_at_call 126; refine (number_bad _ _ (by omega)).mono ?_; rintro e w' ⟨rfl, rfl⟩)
      go_ret2
      exact ⟨rfl, n, rfl⟩

set_option maxHeartbeats 1000000 in
theorem parse_minus_len0 (s : ByteArray) (W P : List UInt8) (f : Bool) (w : World)
    (h45 : startsB s 45 = true) (hsz : 1 ≤ s.size) (_hs : s.size ≤ 100000)
    (hcut : Calls Tryz.prog 139 #[.string (s.extract 1 s.size), .string ⟨#[46]⟩] w fun e w' => e = .returned (.tuple #[.string ⟨W.toArray⟩, .string ⟨P.toArray⟩, .bool f]) ∧ ∃ n, w' = w.drewN n)
    (hl : W.length + P.length = 0) :
    Calls Tryz.prog 122 #[.string s] w fun e w' => e = .returned (.tuple #[.int .i64 0, errV 4]) ∧ ∃ n, w' = w.drewN n := by
  have hl' : ((W.length : Int) + (P.length : Int) == 0) = true := by simp; omega
  go_enter Tryz.func122, Tryz.ntmps122
  go_wp2_with (first
    | (go_at_call 109; refine (starts_any _ _ _).mono ?_; rintro e w' ⟨rfl, rfl⟩)
    | (go_at_call 139; refine hcut.mono ?_; rintro e w' ⟨rfl, n, rfl⟩)
    | (go_at_call 140; refine (allDigits_list _ _ (by omega)).mono ?_; rintro e w' ⟨rfl, rfl⟩)
    | (go_at_call 141; refine (withDigits_z _ _ _ (by omega) (by omega) (by omega) (by assumption)).mono ?_; rintro e w' ⟨rfl, rfl⟩))
  go_ret2
  exact ⟨rfl, n, rfl⟩

set_option maxHeartbeats 1000000 in
theorem parse_minus_Wbad (s : ByteArray) (W P : List UInt8) (f : Bool) (w : World)
    (h45 : startsB s 45 = true) (hsz : 1 ≤ s.size) (_hs : s.size ≤ 100000)
    (hcut : Calls Tryz.prog 139 #[.string (s.extract 1 s.size), .string ⟨#[46]⟩] w fun e w' => e = .returned (.tuple #[.string ⟨W.toArray⟩, .string ⟨P.toArray⟩, .bool f]) ∧ ∃ n, w' = w.drewN n)
    (hw : W.length ≤ 100000) (hp : P.length ≤ 100000) (hl : W.length + P.length ≠ 0) (hW : allD W = false) :
    Calls Tryz.prog 122 #[.string s] w fun e w' => e = .returned (.tuple #[.int .i64 0, errV 4]) ∧ ∃ n, w' = w.drewN n := by
  have hl' : ((W.length : Int) + (P.length : Int) == 0) = false := by simp; omega
  go_enter Tryz.func122, Tryz.ntmps122
  go_wp2_with (first
    | (go_at_call 109; refine (starts_any _ _ _).mono ?_; rintro e w' ⟨rfl, rfl⟩)
    | (go_at_call 139; refine hcut.mono ?_; rintro e w' ⟨rfl, n, rfl⟩)
    | (go_at_call 140; refine (allDigits_list _ _ (by omega)).mono ?_; rintro e w' ⟨rfl, rfl⟩)
    | (go_at_call 141; refine (withDigits_z _ _ _ (by omega) (by omega) (by omega) (by assumption)).mono ?_; rintro e w' ⟨rfl, rfl⟩))
  go_ret2
  exact ⟨rfl, n, rfl⟩

set_option maxHeartbeats 1000000 in
theorem parse_minus_Pbad (s : ByteArray) (W P : List UInt8) (f : Bool) (w : World)
    (h45 : startsB s 45 = true) (hsz : 1 ≤ s.size) (_hs : s.size ≤ 100000)
    (hcut : Calls Tryz.prog 139 #[.string (s.extract 1 s.size), .string ⟨#[46]⟩] w fun e w' => e = .returned (.tuple #[.string ⟨W.toArray⟩, .string ⟨P.toArray⟩, .bool f]) ∧ ∃ n, w' = w.drewN n)
    (hw : W.length ≤ 100000) (hp : P.length ≤ 100000) (hl : W.length + P.length ≠ 0) (hW : allD W = true) (hP : allD P = false) :
    Calls Tryz.prog 122 #[.string s] w fun e w' => e = .returned (.tuple #[.int .i64 0, errV 4]) ∧ ∃ n, w' = w.drewN n := by
  have hl' : ((W.length : Int) + (P.length : Int) == 0) = false := by simp; omega
  go_enter Tryz.func122, Tryz.ntmps122
  go_wp2_with (first
    | (go_at_call 109; refine (starts_any _ _ _).mono ?_; rintro e w' ⟨rfl, rfl⟩)
    | (go_at_call 139; refine hcut.mono ?_; rintro e w' ⟨rfl, n, rfl⟩)
    | (go_at_call 140; refine (allDigits_list _ _ (by omega)).mono ?_; rintro e w' ⟨rfl, rfl⟩)
    | (go_at_call 141; refine (withDigits_z _ _ _ (by omega) (by omega) (by omega) (by assumption)).mono ?_; rintro e w' ⟨rfl, rfl⟩))
  go_ret2
  exact ⟨rfl, n, rfl⟩
end Go.Proofs.YtobpidmlgldnmaaGreatDoor

/-
  Contract: any text that is read as a number, by the program: what it is, or what is wrong with it.
-/
namespace Go.Proofs.YtobpidmlgldnmaaGreatDoor
open Go.RowKit
set_option maxRecDepth 100000

theorem startsB_nil {s : ByteArray} (h : s.data.toList = []) (c : UInt8) : startsB s c = false := by unfold startsB; rw [h]; rfl
theorem startsB_cons {s : ByteArray} {d : UInt8} {l : List UInt8} (h : s.data.toList = d :: l) (c : UInt8) : startsB s c = (c == d) := by
  unfold startsB; rw [h]; simp [Lib.hasPrefix, List.isPrefixOf]
theorem tail_list {s : ByteArray} {d : UInt8} {l : List UInt8} (h : s.data.toList = d :: l) : (s.extract 1 s.size).data.toList = l := by
  have hl : s.size = l.length + 1 := by have := congrArg List.length h; simpa using this
  rw [Lib.extract_data]
  simp [h, hl]
theorem size_list {s : ByteArray} {L : List UInt8} (h : s.data.toList = L) : s.size = L.length := by rw [← h]; simp
theorem parts_len (r : List UInt8) : (wholeOf r).length ≤ r.length ∧ (partOf r).length ≤ r.length := by
  constructor
  · exact (List.takeWhile_sublist _).length_le
  · unfold partOf; rw [List.length_drop]; have := (List.dropWhile_sublist (l := r) (· != 46)).length_le; omega

/-- The cut at the point, of whatever text. -/
theorem cut_any (R : ByteArray) (r : List UInt8) (w : World) (hr : R.data.toList = r) (hs : R.size ≤ 100000) (m : Int) (hm : w.cell? ⟨0, 0, none⟩ = some (.int .i64 m)) :
    Calls Tryz.prog 139 #[.string R, .string ⟨#[46]⟩] w fun e w' => e = .returned (.tuple #[.string ⟨(wholeOf r).toArray⟩, .string ⟨(partOf r).toArray⟩, .bool (Lib.cut r [46]).2.2]) ∧ ∃ n, w' = w.drewN n := by
  have h := Tryz.strings_Cut R ⟨#[46]⟩ m w (by omega) hm
  rw [hr] at h
  have hc := cut_dot r
  rw [show (⟨#[46]⟩ : ByteArray).data.toList = [46] from rfl, hc.1, hc.2] at h
  exact h

theorem parseE_text {s : List UInt8} (h : goodF (bodyF s) = false) : parseE s = 4 ∧ parseN s = 0 := by
  have : parseE s = 4 := by unfold parseE; rw [if_pos h]
  exact ⟨this, by unfold parseN; rw [this]; rfl⟩
theorem parseE_big {s : List UInt8} (h : goodF (bodyF s) = true) (hb : 1000000000 < magF (bodyF s)) : parseE s = 1 ∧ parseN s = 0 := by
  have : parseE s = 1 := by unfold parseE; rw [if_neg (by simp [h]), if_pos hb]
  exact ⟨this, by unfold parseN; rw [this]; rfl⟩
theorem parseE_ok {s : List UInt8} (h : goodF (bodyF s) = true) (hb : magF (bodyF s) ≤ 1000000000) : parseE s = 0 ∧ parseN s = if negF s then -(magF (bodyF s) : Int) else magF (bodyF s) := by
  have : parseE s = 0 := by unfold parseE; rw [if_neg (by simp [h]), if_neg (by omega)]
  exact ⟨this, by unfold parseN; rw [this]; rfl⟩
theorem fin_mag (r : List UInt8) : (finZ (wholeOf r) (partOf r) ≤ 1000000000 ∧ finZ (wholeOf r) (partOf r) = magF r) ∨ (1000000000 < finZ (wholeOf r) (partOf r) ∧ 1000000000 < magF r) := by
  have h := sat_mag r
  rw [finZ_eq]
  generalize satD (satD (satD 0 (wholeOf r)) ((partOf r).take 3)) (List.replicate (3 - ((partOf r).take 3).length) 48) = x at *
  rcases h with h | h
  · by_cases hx : x ≤ 1000000000
    · exact Or.inl ⟨by omega, by omega⟩
    · exact Or.inr ⟨by omega, by omega⟩
  · exact Or.inr ⟨by omega, by omega⟩
theorem errN_4 : errN 4 = errV 4 := rfl

theorem parse_none (s : ByteArray) (w : World) (hs : s.size ≤ 100000) (r : List UInt8) (hr : s.data.toList = r) (hb : bodyF s.data.toList = r) (hn : negF s.data.toList = false)
    (h45 : startsB s 45 = false) (h43 : startsB s 43 = false) (m : Int) (hm : w.cell? ⟨0, 0, none⟩ = some (.int .i64 m)) :
    Calls Tryz.prog 122 #[.string s] w fun e w' => e = .returned (.tuple #[.int .i64 (parseN s.data.toList), errN (parseE s.data.toList)]) ∧ ∃ n, w' = w.drewN n := by
  have hR := size_list hr
  have hRs : s.size ≤ 100000 := by first | exact hs | (rw [ByteArray.size_extract]; omega)
  have hcut := cut_any s r w hr hRs m hm
  have hlen := parts_len r
  have hw : (wholeOf r).length ≤ 100000 := by omega
  have hp : (partOf r).length ≤ 100000 := by omega
  by_cases hl : (wholeOf r).length + (partOf r).length = 0
  · obtain ⟨q1, q2⟩ := parseE_text (s := s.data.toList) (by rw [hb]; simp [goodF, hl])
    rw [q1, q2, errN_4]; exact parse_none_len0 s _ _ _ w h45 h43 hs hcut hl
  cases hW : allD (wholeOf r)
  · obtain ⟨q1, q2⟩ := parseE_text (s := s.data.toList) (by rw [hb]; simp [goodF, hW])
    rw [q1, q2, errN_4]; exact parse_none_Wbad s _ _ _ w h45 h43 hs hcut hw hp hl hW
  cases hP : allD (partOf r)
  · obtain ⟨q1, q2⟩ := parseE_text (s := s.data.toList) (by rw [hb]; simp [goodF, hP])
    rw [q1, q2, errN_4]; exact parse_none_Pbad s _ _ _ w h45 h43 hs hcut hw hp hl hW hP
  have hg : goodF (bodyF s.data.toList) = true := by rw [hb]; exact goodF_iff.2 ⟨hW, hP, hl⟩
  rcases fin_mag r with ⟨f1, f2⟩ | ⟨f1, f2⟩
  · obtain ⟨q1, q2⟩ := parseE_ok hg (by rw [hb]; omega)
    rw [q1, q2, errN_0, hb, hn, ← f2]
    exact parse_none_ok s _ _ _ _ _ w h45 h43 hs hcut hw hp hW hP hl (extract_take _) (allD_take hP 3) (by simp; omega) rfl f1
  · obtain ⟨q1, q2⟩ := parseE_big hg (by rw [hb]; omega)
    rw [q1, q2, errN_1]
    exact parse_none_big s _ _ _ _ _ w h45 h43 hs hcut hw hp hW hP hl (extract_take _) (allD_take hP 3) (by simp; omega) rfl f1

theorem parse_plus (s : ByteArray) (w : World) (hs : s.size ≤ 100000) (r : List UInt8) (hr : (s.extract 1 s.size).data.toList = r) (hb : bodyF s.data.toList = r) (hn : negF s.data.toList = false)
    (h45 : startsB s 45 = false) (h43 : startsB s 43 = true) (hsz : 1 ≤ s.size) (m : Int) (hm : w.cell? ⟨0, 0, none⟩ = some (.int .i64 m)) :
    Calls Tryz.prog 122 #[.string s] w fun e w' => e = .returned (.tuple #[.int .i64 (parseN s.data.toList), errN (parseE s.data.toList)]) ∧ ∃ n, w' = w.drewN n := by
  have hR := size_list hr
  have hRs : (s.extract 1 s.size).size ≤ 100000 := by first | exact hs | (rw [ByteArray.size_extract]; omega)
  have hcut := cut_any (s.extract 1 s.size) r w hr hRs m hm
  have hlen := parts_len r
  have hw : (wholeOf r).length ≤ 100000 := by omega
  have hp : (partOf r).length ≤ 100000 := by omega
  by_cases hl : (wholeOf r).length + (partOf r).length = 0
  · obtain ⟨q1, q2⟩ := parseE_text (s := s.data.toList) (by rw [hb]; simp [goodF, hl])
    rw [q1, q2, errN_4]; exact parse_plus_len0 s _ _ _ w h45 h43 hsz hs hcut hl
  cases hW : allD (wholeOf r)
  · obtain ⟨q1, q2⟩ := parseE_text (s := s.data.toList) (by rw [hb]; simp [goodF, hW])
    rw [q1, q2, errN_4]; exact parse_plus_Wbad s _ _ _ w h45 h43 hsz hs hcut hw hp hl hW
  cases hP : allD (partOf r)
  · obtain ⟨q1, q2⟩ := parseE_text (s := s.data.toList) (by rw [hb]; simp [goodF, hP])
    rw [q1, q2, errN_4]; exact parse_plus_Pbad s _ _ _ w h45 h43 hsz hs hcut hw hp hl hW hP
  have hg : goodF (bodyF s.data.toList) = true := by rw [hb]; exact goodF_iff.2 ⟨hW, hP, hl⟩
  rcases fin_mag r with ⟨f1, f2⟩ | ⟨f1, f2⟩
  · obtain ⟨q1, q2⟩ := parseE_ok hg (by rw [hb]; omega)
    rw [q1, q2, errN_0, hb, hn, ← f2]
    exact parse_plus_ok s _ _ _ _ _ w h45 h43 hsz hs hcut hw hp hW hP hl (extract_take _) (allD_take hP 3) (by simp; omega) rfl f1
  · obtain ⟨q1, q2⟩ := parseE_big hg (by rw [hb]; omega)
    rw [q1, q2, errN_1]
    exact parse_plus_big s _ _ _ _ _ w h45 h43 hsz hs hcut hw hp hW hP hl (extract_take _) (allD_take hP 3) (by simp; omega) rfl f1

theorem parse_minus (s : ByteArray) (w : World) (hs : s.size ≤ 100000) (r : List UInt8) (hr : (s.extract 1 s.size).data.toList = r) (hb : bodyF s.data.toList = r) (hn : negF s.data.toList = true)
    (h45 : startsB s 45 = true) (hsz : 1 ≤ s.size) (m : Int) (hm : w.cell? ⟨0, 0, none⟩ = some (.int .i64 m)) :
    Calls Tryz.prog 122 #[.string s] w fun e w' => e = .returned (.tuple #[.int .i64 (parseN s.data.toList), errN (parseE s.data.toList)]) ∧ ∃ n, w' = w.drewN n := by
  have hR := size_list hr
  have hRs : (s.extract 1 s.size).size ≤ 100000 := by first | exact hs | (rw [ByteArray.size_extract]; omega)
  have hcut := cut_any (s.extract 1 s.size) r w hr hRs m hm
  have hlen := parts_len r
  have hw : (wholeOf r).length ≤ 100000 := by omega
  have hp : (partOf r).length ≤ 100000 := by omega
  by_cases hl : (wholeOf r).length + (partOf r).length = 0
  · obtain ⟨q1, q2⟩ := parseE_text (s := s.data.toList) (by rw [hb]; simp [goodF, hl])
    rw [q1, q2, errN_4]; exact parse_minus_len0 s _ _ _ w h45 hsz hs hcut hl
  cases hW : allD (wholeOf r)
  · obtain ⟨q1, q2⟩ := parseE_text (s := s.data.toList) (by rw [hb]; simp [goodF, hW])
    rw [q1, q2, errN_4]; exact parse_minus_Wbad s _ _ _ w h45 hsz hs hcut hw hp hl hW
  cases hP : allD (partOf r)
  · obtain ⟨q1, q2⟩ := parseE_text (s := s.data.toList) (by rw [hb]; simp [goodF, hP])
    rw [q1, q2, errN_4]; exact parse_minus_Pbad s _ _ _ w h45 hsz hs hcut hw hp hl hW hP
  have hg : goodF (bodyF s.data.toList) = true := by rw [hb]; exact goodF_iff.2 ⟨hW, hP, hl⟩
  rcases fin_mag r with ⟨f1, f2⟩ | ⟨f1, f2⟩
  · obtain ⟨q1, q2⟩ := parseE_ok hg (by rw [hb]; omega)
    rw [q1, q2, errN_0, hb, hn, ← f2]
    exact parse_minus_ok s _ _ _ _ _ w h45 hsz hs hcut hw hp hW hP hl (extract_take _) (allD_take hP 3) (by simp; omega) rfl f1
  · obtain ⟨q1, q2⟩ := parseE_big hg (by rw [hb]; omega)
    rw [q1, q2, errN_1]
    exact parse_minus_big s _ _ _ _ _ w h45 hsz hs hcut hw hp hW hP hl (extract_take _) (allD_take hP 3) (by simp; omega) rfl f1

theorem parse_any (s : ByteArray) (w : World) (hs : s.size ≤ 100000) (m : Int) (hm : w.cell? ⟨0, 0, none⟩ = some (.int .i64 m)) :
    Calls Tryz.prog 122 #[.string s] w fun e w' => e = .returned (.tuple #[.int .i64 (parseN s.data.toList), errN (parseE s.data.toList)]) ∧ ∃ n, w' = w.drewN n := by
  cases hL : s.data.toList with
  | nil =>
    have := parse_none s w hs [] hL (by rw [hL]; rfl) (by rw [hL]; rfl) (startsB_nil hL _) (startsB_nil hL _) m hm
    rwa [hL] at this
  | cons c l =>
    have hz := size_list hL
    simp only [List.length_cons] at hz
    by_cases h1 : c = 45
    · subst h1
      have := parse_minus s w hs l (tail_list hL) (by rw [hL]; exact bodyF_neg l) (by rw [hL]; rfl) (by rw [startsB_cons hL]; rfl) (by omega) m hm
      rwa [hL] at this
    · by_cases h2 : c = 43
      · subst h2
        have := parse_plus s w hs l (tail_list hL) (by rw [hL]; exact bodyF_pos l) (by rw [hL]; rfl) (by rw [startsB_cons hL]; rfl) (by rw [startsB_cons hL]; rfl) (by omega) m hm
        rwa [hL] at this
      · have := parse_none s w hs (c :: l) hL (by rw [hL]; exact bodyF_else l h1 h2) (by rw [hL]; simp [negF, h1]) (by rw [startsB_cons hL]; simp; exact fun h => h1 h.symm) (by rw [startsB_cons hL]; simp; exact fun h => h2 h.symm) m hm
        rwa [hL] at this
end Go.Proofs.YtobpidmlgldnmaaGreatDoor

/-
  Contracts of texts and of reading, with what later calls need: the table of powers, and the word that a search asks for, still stand.
-/
namespace Go.Proofs.YtobpidmlgldnmaaGreatDoor
open Go.RowKit
set_option maxRecDepth 100000

theorem gPow : Tryz.prog.globalNamed "internal/strconv.uint64pow10" = some 5 := by kernel_rfl
/-- What the calls lean on: the table of powers of ten, and a number in the variable that a search asks. -/
def Rdy (m : Int) (w : World) : Prop := Tab w ∧ w.cell? ⟨0, 0, none⟩ = some (.int .i64 m)
theorem Rdy.below {m : Int} {w w' : World} (h : Rdy m w) (hb : Below w.heap.size w w') : Rdy m w' :=
  ⟨Joins.tab_stays gPow h.1 hb (Nat.le_refl _), cell_later hb h.2⟩
theorem bel_drewN (w : World) (n : Nat) : Below w.heap.size w (w.drewN n) := below_drewN (Below.refl _ _) n

def txtB (n : Int) : ByteArray := ⟨(if okF n then fixTxt n else []).toArray⟩
theorem parse_rdy (m : Int) (s : ByteArray) (w : World) (hr : Rdy m w) (hs : s.size ≤ 100000) :
    Calls Tryz.prog 122 #[.string s] w fun e w' => e = .returned (.tuple #[.int .i64 (parseN s.data.toList), errN (parseE s.data.toList)]) ∧ Below w.heap.size w w' ∧ Rdy m w' := by
  refine (parse_any s w hs m hr.2).mono ?_
  rintro e w' ⟨rfl, n, rfl⟩
  exact ⟨rfl, bel_drewN w n, hr.below (bel_drewN w n)⟩
end Go.Proofs.YtobpidmlgldnmaaGreatDoor
