/-
  Joined: Ff, Fg, Pq.
-/
import Derived.Test.YtflcibmjblioaaaGreatDoorFe
import Derived.Test.YtflcibmjblioaaaGreatDoorShelf
import Derived.Test.YtflcibmjblioaaaGreatDoorFc

/-
  Contracts: a text that is read as a number, by the program.
-/
namespace Go.Proofs.YtflcibmjblioaaaGreatDoor
open Go.RowKit
set_option maxRecDepth 100000

theorem allDigits_list (l : List UInt8) (w : World) (hs : l.length ≤ 1000000) :
    Calls Tryz.prog 185 #[.string ⟨l.toArray⟩] w fun e w' => e = .returned (.bool (allD l)) ∧ w' = w :=
  allDigits_any ⟨l.toArray⟩ w (by simpa [ByteArray.size] using hs)
theorem withDigits_list (n : Nat) (l : List UInt8) (w : World) (hn : n ≤ 10000000009) (hs : l.length ≤ 1000000) (hd : allD l = true) :
    Calls Tryz.prog 186 #[.int .i64 n, .string ⟨l.toArray⟩] w fun e w' => e = .returned (.int .i64 (satD n l : Nat)) ∧ w' = w :=
  withDigits_any n ⟨l.toArray⟩ w hn (by simpa [ByteArray.size] using hs) hd

def startsB (s : ByteArray) (c : UInt8) : Bool := Lib.hasPrefix s.data.toList [c]
theorem starts_any (s : ByteArray) (c : UInt8) (w : World) :
    Calls Tryz.prog 19 #[.string s, .string ⟨#[c]⟩] w fun e w' => e = .returned (.bool (startsB s c)) ∧ w' = w := Tryz.strings_HasPrefix s ⟨#[c]⟩ w

/-- Digits behind a number, as an integer. -/
def satZ (n : Int) (l : List UInt8) : Int := (satD n.toNat l : Nat)
theorem withDigits_z (n : Int) (l : List UInt8) (w : World) (h0 : 0 ≤ n) (h1 : n ≤ 10000000009) (hs : l.length ≤ 1000000) (hd : allD l = true) :
    Calls Tryz.prog 186 #[.int .i64 n, .string ⟨l.toArray⟩] w fun e w' => e = .returned (.int .i64 (satZ n l)) ∧ w' = w := by
  have h := withDigits_list n.toNat l w (by omega) hs hd
  rw [show ((n.toNat : Nat) : Int) = n by omega] at h
  exact h
theorem satZ_bd (n : Int) (l : List UInt8) (h0 : 0 ≤ n) (h1 : n ≤ 10000000009) (hd : allD l = true) : 0 ≤ satZ n l ∧ satZ n l ≤ 10000000009 := by
  have := satD_le l n.toNat hd (by omega)
  unfold satZ; omega
theorem extract_take (P : List UInt8) : (⟨P.toArray⟩ : ByteArray).extract 0 (min (P.length : Int) 3).toNat = ⟨(P.take 3).toArray⟩ := by
  have e : (min (P.length : Int) 3).toNat = min P.length 3 := by omega
  rw [e, Lib.extract_eq]
  simp [Nat.min_comm]
theorem allD_take {l : List UInt8} (h : allD l = true) (k : Nat) : allD (l.take k) = true := List.all_eq_true.2 fun x hx => List.all_eq_true.1 h x (List.mem_of_mem_take hx)
theorem allD_rep (k : Nat) : allD (List.replicate k 48) = true := List.all_eq_true.2 fun x hx => by rw [List.eq_of_mem_replicate hx]; rfl
theorem satZ_rep (n : Int) (k : Nat) : satZ n (List.replicate (k + 1) 48) = satZ (satZ n (List.replicate k 48)) [48] := by
  unfold satZ; rw [List.replicate_succ', satD_snoc]; rfl
def finZ (W P : List UInt8) : Int := satZ (satZ (satZ 0 W) (P.take 3)) (List.replicate (3 - (P.take 3).length) 48)
theorem finZ_eq (W P : List UInt8) : finZ W P = (satD (satD (satD 0 W) (P.take 3)) (List.replicate (3 - (P.take 3).length) 48) : Nat) := rfl

set_option maxHeartbeats 1000000 in
theorem parse_none_ok (s : ByteArray) (W P Q : List UInt8) (F : Int) (f : Bool) (w : World)
    (h45 : startsB s 45 = false) (h43 : startsB s 43 = false) (_hs : s.size ≤ 100000)
    (hcut : Calls Tryz.prog 184 #[.string s, .string ⟨#[46]⟩] w fun e w' => e = .returned (.tuple #[.string ⟨W.toArray⟩, .string ⟨P.toArray⟩, .bool f]) ∧ ∃ n, w' = w.drewN n)
    (hw : W.length ≤ 100000) (hp : P.length ≤ 100000) (hW : allD W = true) (hP : allD P = true) (hl : W.length + P.length ≠ 0)
    (hx : (⟨P.toArray⟩ : ByteArray).extract 0 (min (P.length : Int) 3).toNat = ⟨Q.toArray⟩) (hQ : allD Q = true) (hQl : Q.length ≤ 3)
    (hF : F = satZ (satZ (satZ 0 W) Q) (List.replicate (3 - Q.length) 48)) (hfin : F ≤ 1000000000) :
    Calls Tryz.prog 151 #[.string s] w fun e w' => e = .returned (.tuple #[.int .i64 (F), .nilIface]) ∧ ∃ n, w' = w.drewN n := by
  have hl' : ((W.length : Int) + (P.length : Int) == 0) = false := by simp; omega
  have n1 := satZ_bd 0 W (by omega) (by omega) hW
  have n2 := satZ_bd (satZ 0 W) Q n1.1 n1.2 hQ
  have nF := satZ_bd (satZ (satZ 0 W) Q) (List.replicate (3 - Q.length) 48) n2.1 n2.2 (allD_rep _)
  rw [← hF] at nF
  have HF := hid hF
  clear hF
  go_enter Tryz.func151, Tryz.ntmps151
  go_wp2_with (first
    | (go_at_call 19; refine (starts_any _ _ _).mono ?_; rintro e w' ⟨rfl, rfl⟩)
    | (go_at_call 184; refine hcut.mono ?_; rintro e w' ⟨rfl, n, rfl⟩)
    | (go_at_call 185; refine (allDigits_list _ _ (by omega)).mono ?_; rintro e w' ⟨rfl, rfl⟩)
    | (go_at_call 186; refine (withDigits_z _ _ _ (by omega) (by omega) (by omega) (by assumption)).mono ?_; rintro e w' ⟨rfl, rfl⟩))
  go_loop [8, 53] (fun t i => ∃ k : Nat, k ≤ 3 - Q.length ∧ i = .int .i64 k ∧ t = .int .i64 (satZ (satZ (satZ 0 W) Q) (List.replicate k 48))) (fun _ i => 3 - Q.length - (intOf i).toNat)
  case atStart => exact ⟨0, Nat.zero_le _, rfl, rfl⟩
  case round =>
    obtain ⟨k, hk, rfl, rfl⟩ := hrel
    by_cases hlt : k < 3 - Q.length
    · have hlt' : (k : Int) < 3 - (Q.length : Int) := by omega
      have n3 := satZ_bd (satZ (satZ 0 W) Q) (List.replicate k 48) n2.1 n2.2 (allD_rep _)
      have HR := hid (satZ_rep (satZ (satZ 0 W) Q) k)
      have h48 : allD [48] = true := rfl
      go_wp2_with (go_at_call 186; refine (withDigits_z _ [48] _ (by omega) (by omega) (by simp) h48).mono ?_; rintro e w' ⟨rfl, rfl⟩)
      go_round
      case rel => exact ⟨k + 1, by omega, by go_num, by rw [HR.out]⟩
      case measure => simp [intOf]; omega
    · have hge : ¬ (k : Int) < 3 - (Q.length : Int) := by omega
      have ek : k = 3 - Q.length := by omega
      subst ek
      have e2 := HF.out
      rw [← e2]
      clear e2
      go_wp2_with (go_at_call 187; refine (number_ok _ _ (by omega) (by omega)).mono ?_; rintro e w' ⟨rfl, rfl⟩)
      go_ret2
      exact ⟨rfl, n, rfl⟩

set_option maxHeartbeats 1000000 in
theorem parse_none_big (s : ByteArray) (W P Q : List UInt8) (F : Int) (f : Bool) (w : World)
    (h45 : startsB s 45 = false) (h43 : startsB s 43 = false) (_hs : s.size ≤ 100000)
    (hcut : Calls Tryz.prog 184 #[.string s, .string ⟨#[46]⟩] w fun e w' => e = .returned (.tuple #[.string ⟨W.toArray⟩, .string ⟨P.toArray⟩, .bool f]) ∧ ∃ n, w' = w.drewN n)
    (hw : W.length ≤ 100000) (hp : P.length ≤ 100000) (hW : allD W = true) (hP : allD P = true) (hl : W.length + P.length ≠ 0)
    (hx : (⟨P.toArray⟩ : ByteArray).extract 0 (min (P.length : Int) 3).toNat = ⟨Q.toArray⟩) (hQ : allD Q = true) (hQl : Q.length ≤ 3)
    (hF : F = satZ (satZ (satZ 0 W) Q) (List.replicate (3 - Q.length) 48)) (hfin : 1000000000 < F) :
    Calls Tryz.prog 151 #[.string s] w fun e w' => e = .returned (.tuple #[.int .i64 0, errV 1]) ∧ ∃ n, w' = w.drewN n := by
  have hl' : ((W.length : Int) + (P.length : Int) == 0) = false := by simp; omega
  have n1 := satZ_bd 0 W (by omega) (by omega) hW
  have n2 := satZ_bd (satZ 0 W) Q n1.1 n1.2 hQ
  have nF := satZ_bd (satZ (satZ 0 W) Q) (List.replicate (3 - Q.length) 48) n2.1 n2.2 (allD_rep _)
  rw [← hF] at nF
  have HF := hid hF
  clear hF
  go_enter Tryz.func151, Tryz.ntmps151
  go_wp2_with (first
    | (go_at_call 19; refine (starts_any _ _ _).mono ?_; rintro e w' ⟨rfl, rfl⟩)
    | (go_at_call 184; refine hcut.mono ?_; rintro e w' ⟨rfl, n, rfl⟩)
    | (go_at_call 185; refine (allDigits_list _ _ (by omega)).mono ?_; rintro e w' ⟨rfl, rfl⟩)
    | (go_at_call 186; refine (withDigits_z _ _ _ (by omega) (by omega) (by omega) (by assumption)).mono ?_; rintro e w' ⟨rfl, rfl⟩))
  go_loop [8, 53] (fun t i => ∃ k : Nat, k ≤ 3 - Q.length ∧ i = .int .i64 k ∧ t = .int .i64 (satZ (satZ (satZ 0 W) Q) (List.replicate k 48))) (fun _ i => 3 - Q.length - (intOf i).toNat)
  case atStart => exact ⟨0, Nat.zero_le _, rfl, rfl⟩
  case round =>
    obtain ⟨k, hk, rfl, rfl⟩ := hrel
    by_cases hlt : k < 3 - Q.length
    · have hlt' : (k : Int) < 3 - (Q.length : Int) := by omega
      have n3 := satZ_bd (satZ (satZ 0 W) Q) (List.replicate k 48) n2.1 n2.2 (allD_rep _)
      have HR := hid (satZ_rep (satZ (satZ 0 W) Q) k)
      have h48 : allD [48] = true := rfl
      go_wp2_with (go_at_call 186; refine (withDigits_z _ [48] _ (by omega) (by omega) (by simp) h48).mono ?_; rintro e w' ⟨rfl, rfl⟩)
      go_round
      case rel => exact ⟨k + 1, by omega, by go_num, by rw [HR.out]⟩
      case measure => simp [intOf]; omega
    · have hge : ¬ (k : Int) < 3 - (Q.length : Int) := by omega
      have ek : k = 3 - Q.length := by omega
      subst ek
      have e2 := HF.out
      rw [← e2]
      clear e2
      go_wp2_with (go_at_call 187; refine (number_bad _ _ (by omega)).mono ?_; rintro e w' ⟨rfl, rfl⟩)
      go_ret2
      exact ⟨rfl, n, rfl⟩

set_option maxHeartbeats 1000000 in
theorem parse_none_len0 (s : ByteArray) (W P : List UInt8) (f : Bool) (w : World)
    (h45 : startsB s 45 = false) (h43 : startsB s 43 = false) (_hs : s.size ≤ 100000)
    (hcut : Calls Tryz.prog 184 #[.string s, .string ⟨#[46]⟩] w fun e w' => e = .returned (.tuple #[.string ⟨W.toArray⟩, .string ⟨P.toArray⟩, .bool f]) ∧ ∃ n, w' = w.drewN n)
    (hl : W.length + P.length = 0) :
    Calls Tryz.prog 151 #[.string s] w fun e w' => e = .returned (.tuple #[.int .i64 0, errV 4]) ∧ ∃ n, w' = w.drewN n := by
  have hl' : ((W.length : Int) + (P.length : Int) == 0) = true := by simp; omega
  go_enter Tryz.func151, Tryz.ntmps151
  go_wp2_with (first
    | (go_at_call 19; refine (starts_any _ _ _).mono ?_; rintro e w' ⟨rfl, rfl⟩)
    | (go_at_call 184; refine hcut.mono ?_; rintro e w' ⟨rfl, n, rfl⟩)
    | (go_at_call 185; refine (allDigits_list _ _ (by omega)).mono ?_; rintro e w' ⟨rfl, rfl⟩)
    | (go_at_call 186; refine (withDigits_z _ _ _ (by omega) (by omega) (by omega) (by assumption)).mono ?_; rintro e w' ⟨rfl, rfl⟩))
  go_ret2
  exact ⟨rfl, n, rfl⟩

set_option maxHeartbeats 1000000 in
theorem parse_none_Wbad (s : ByteArray) (W P : List UInt8) (f : Bool) (w : World)
    (h45 : startsB s 45 = false) (h43 : startsB s 43 = false) (_hs : s.size ≤ 100000)
    (hcut : Calls Tryz.prog 184 #[.string s, .string ⟨#[46]⟩] w fun e w' => e = .returned (.tuple #[.string ⟨W.toArray⟩, .string ⟨P.toArray⟩, .bool f]) ∧ ∃ n, w' = w.drewN n)
    (hw : W.length ≤ 100000) (hp : P.length ≤ 100000) (hl : W.length + P.length ≠ 0) (hW : allD W = false) :
    Calls Tryz.prog 151 #[.string s] w fun e w' => e = .returned (.tuple #[.int .i64 0, errV 4]) ∧ ∃ n, w' = w.drewN n := by
  have hl' : ((W.length : Int) + (P.length : Int) == 0) = false := by simp; omega
  go_enter Tryz.func151, Tryz.ntmps151
  go_wp2_with (first
    | (go_at_call 19; refine (starts_any _ _ _).mono ?_; rintro e w' ⟨rfl, rfl⟩)
    | (go_at_call 184; refine hcut.mono ?_; rintro e w' ⟨rfl, n, rfl⟩)
    | (go_at_call 185; refine (allDigits_list _ _ (by omega)).mono ?_; rintro e w' ⟨rfl, rfl⟩)
    | (go_at_call 186; refine (withDigits_z _ _ _ (by omega) (by omega) (by omega) (by assumption)).mono ?_; rintro e w' ⟨rfl, rfl⟩))
  go_ret2
  exact ⟨rfl, n, rfl⟩

set_option maxHeartbeats 1000000 in
theorem parse_none_Pbad (s : ByteArray) (W P : List UInt8) (f : Bool) (w : World)
    (h45 : startsB s 45 = false) (h43 : startsB s 43 = false) (_hs : s.size ≤ 100000)
    (hcut : Calls Tryz.prog 184 #[.string s, .string ⟨#[46]⟩] w fun e w' => e = .returned (.tuple #[.string ⟨W.toArray⟩, .string ⟨P.toArray⟩, .bool f]) ∧ ∃ n, w' = w.drewN n)
    (hw : W.length ≤ 100000) (hp : P.length ≤ 100000) (hl : W.length + P.length ≠ 0) (hW : allD W = true) (hP : allD P = false) :
    Calls Tryz.prog 151 #[.string s] w fun e w' => e = .returned (.tuple #[.int .i64 0, errV 4]) ∧ ∃ n, w' = w.drewN n := by
  have hl' : ((W.length : Int) + (P.length : Int) == 0) = false := by simp; omega
  go_enter Tryz.func151, Tryz.ntmps151
  go_wp2_with (first
    | (go_at_call 19; refine (starts_any _ _ _).mono ?_; rintro e w' ⟨rfl, rfl⟩)
    | (go_at_call 184; refine hcut.mono ?_; rintro e w' ⟨rfl, n, rfl⟩)
    | (go_at_call 185; refine (allDigits_list _ _ (by omega)).mono ?_; rintro e w' ⟨rfl, rfl⟩)
    | (go_at_call 186; refine (withDigits_z _ _ _ (by omega) (by omega) (by omega) (by assumption)).mono ?_; rintro e w' ⟨rfl, rfl⟩))
  go_ret2
  exact ⟨rfl, n, rfl⟩

set_option maxHeartbeats 1000000 in
theorem parse_plus_ok (s : ByteArray) (W P Q : List UInt8) (F : Int) (f : Bool) (w : World)
    (h45 : startsB s 45 = false) (h43 : startsB s 43 = true) (hsz : 1 ≤ s.size) (_hs : s.size ≤ 100000)
    (hcut : Calls Tryz.prog 184 #[.string (s.extract 1 s.size), .string ⟨#[46]⟩] w fun e w' => e = .returned (.tuple #[.string ⟨W.toArray⟩, .string ⟨P.toArray⟩, .bool f]) ∧ ∃ n, w' = w.drewN n)
    (hw : W.length ≤ 100000) (hp : P.length ≤ 100000) (hW : allD W = true) (hP : allD P = true) (hl : W.length + P.length ≠ 0)
    (hx : (⟨P.toArray⟩ : ByteArray).extract 0 (min (P.length : Int) 3).toNat = ⟨Q.toArray⟩) (hQ : allD Q = true) (hQl : Q.length ≤ 3)
    (hF : F = satZ (satZ (satZ 0 W) Q) (List.replicate (3 - Q.length) 48)) (hfin : F ≤ 1000000000) :
    Calls Tryz.prog 151 #[.string s] w fun e w' => e = .returned (.tuple #[.int .i64 (F), .nilIface]) ∧ ∃ n, w' = w.drewN n := by
  have hl' : ((W.length : Int) + (P.length : Int) == 0) = false := by simp; omega
  have n1 := satZ_bd 0 W (by omega) (by omega) hW
  have n2 := satZ_bd (satZ 0 W) Q n1.1 n1.2 hQ
  have nF := satZ_bd (satZ (satZ 0 W) Q) (List.replicate (3 - Q.length) 48) n2.1 n2.2 (allD_rep _)
  rw [← hF] at nF
  have HF := hid hF
  clear hF
  go_enter Tryz.func151, Tryz.ntmps151
  go_wp2_with (first
    | (go_at_call 19; refine (starts_any _ _ _).mono ?_; rintro e w' ⟨rfl, rfl⟩)
    | (go_at_call 184; refine hcut.mono ?_; rintro e w' ⟨rfl, n, rfl⟩)
    | (go_at_call 185; refine (allDigits_list _ _ (by omega)).mono ?_; rintro e w' ⟨rfl, rfl⟩)
    | (go_at_call 186; refine (withDigits_z _ _ _ (by omega) (by omega) (by omega) (by assumption)).mono ?_; rintro e w' ⟨rfl, rfl⟩))
  go_loop [8, 53] (fun t i => ∃ k : Nat, k ≤ 3 - Q.length ∧ i = .int .i64 k ∧ t = .int .i64 (satZ (satZ (satZ 0 W) Q) (List.replicate k 48))) (fun _ i => 3 - Q.length - (intOf i).toNat)
  case atStart => exact ⟨0, Nat.zero_le _, rfl, rfl⟩
  case round =>
    obtain ⟨k, hk, rfl, rfl⟩ := hrel
    by_cases hlt : k < 3 - Q.length
    · have hlt' : (k : Int) < 3 - (Q.length : Int) := by omega
      have n3 := satZ_bd (satZ (satZ 0 W) Q) (List.replicate k 48) n2.1 n2.2 (allD_rep _)
      have HR := hid (satZ_rep (satZ (satZ 0 W) Q) k)
      have h48 : allD [48] = true := rfl
      go_wp2_with (go_at_call 186; refine (withDigits_z _ [48] _ (by omega) (by omega) (by simp) h48).mono ?_; rintro e w' ⟨rfl, rfl⟩)
      go_round
      case rel => exact ⟨k + 1, by omega, by go_num, by rw [HR.out]⟩
      case measure => simp [intOf]; omega
    · have hge : ¬ (k : Int) < 3 - (Q.length : Int) := by omega
      have ek : k = 3 - Q.length := by omega
      subst ek
      have e2 := HF.out
      rw [← e2]
      clear e2
      go_wp2_with (go_at_call 187; refine (number_ok _ _ (by omega) (by omega)).mono ?_; rintro e w' ⟨rfl, rfl⟩)
      go_ret2
      exact ⟨rfl, n, rfl⟩

set_option maxHeartbeats 1000000 in
theorem parse_plus_big (s : ByteArray) (W P Q : List UInt8) (F : Int) (f : Bool) (w : World)
    (h45 : startsB s 45 = false) (h43 : startsB s 43 = true) (hsz : 1 ≤ s.size) (_hs : s.size ≤ 100000)
    (hcut : Calls Tryz.prog 184 #[.string (s.extract 1 s.size), .string ⟨#[46]⟩] w fun e w' => e = .returned (.tuple #[.string ⟨W.toArray⟩, .string ⟨P.toArray⟩, .bool f]) ∧ ∃ n, w' = w.drewN n)
    (hw : W.length ≤ 100000) (hp : P.length ≤ 100000) (hW : allD W = true) (hP : allD P = true) (hl : W.length + P.length ≠ 0)
    (hx : (⟨P.toArray⟩ : ByteArray).extract 0 (min (P.length : Int) 3).toNat = ⟨Q.toArray⟩) (hQ : allD Q = true) (hQl : Q.length ≤ 3)
    (hF : F = satZ (satZ (satZ 0 W) Q) (List.replicate (3 - Q.length) 48)) (hfin : 1000000000 < F) :
    Calls Tryz.prog 151 #[.string s] w fun e w' => e = .returned (.tuple #[.int .i64 0, errV 1]) ∧ ∃ n, w' = w.drewN n := by
  have hl' : ((W.length : Int) + (P.length : Int) == 0) = false := by simp; omega
  have n1 := satZ_bd 0 W (by omega) (by omega) hW
  have n2 := satZ_bd (satZ 0 W) Q n1.1 n1.2 hQ
  have nF := satZ_bd (satZ (satZ 0 W) Q) (List.replicate (3 - Q.length) 48) n2.1 n2.2 (allD_rep _)
  rw [← hF] at nF
  have HF := hid hF
  clear hF
  go_enter Tryz.func151, Tryz.ntmps151
  go_wp2_with (first
    | (go_at_call 19; refine (starts_any _ _ _).mono ?_; rintro e w' ⟨rfl, rfl⟩)
    | (go_at_call 184; refine hcut.mono ?_; rintro e w' ⟨rfl, n, rfl⟩)
    | (go_at_call 185; refine (allDigits_list _ _ (by omega)).mono ?_; rintro e w' ⟨rfl, rfl⟩)
    | (go_at_call 186; refine (withDigits_z _ _ _ (by omega) (by omega) (by omega) (by assumption)).mono ?_; rintro e w' ⟨rfl, rfl⟩))
  go_loop [8, 53] (fun t i => ∃ k : Nat, k ≤ 3 - Q.length ∧ i = .int .i64 k ∧ t = .int .i64 (satZ (satZ (satZ 0 W) Q) (List.replicate k 48))) (fun _ i => 3 - Q.length - (intOf i).toNat)
  case atStart => exact ⟨0, Nat.zero_le _, rfl, rfl⟩
  case round =>
    obtain ⟨k, hk, rfl, rfl⟩ := hrel
    by_cases hlt : k < 3 - Q.length
    · have hlt' : (k : Int) < 3 - (Q.length : Int) := by omega
      have n3 := satZ_bd (satZ (satZ 0 W) Q) (List.replicate k 48) n2.1 n2.2 (allD_rep _)
      have HR := hid (satZ_rep (satZ (satZ 0 W) Q) k)
      have h48 : allD [48] = true := rfl
      go_wp2_with (go_at_call 186; refine (withDigits_z _ [48] _ (by omega) (by omega) (by simp) h48).mono ?_; rintro e w' ⟨rfl, rfl⟩)
      go_round
      case rel => exact ⟨k + 1, by omega, by go_num, by rw [HR.out]⟩
      case measure => simp [intOf]; omega
    · have hge : ¬ (k : Int) < 3 - (Q.length : Int) := by omega
      have ek : k = 3 - Q.length := by omega
      subst ek
      have e2 := HF.out
      rw [← e2]
      clear e2
      go_wp2_with (go_at_call 187; refine (number_bad _ _ (by omega)).mono ?_; rintro e w' ⟨rfl, rfl⟩)
      go_ret2
      exact ⟨rfl, n, rfl⟩

set_option maxHeartbeats 1000000 in
theorem parse_plus_len0 (s : ByteArray) (W P : List UInt8) (f : Bool) (w : World)
    (h45 : startsB s 45 = false) (h43 : startsB s 43 = true) (hsz : 1 ≤ s.size) (_hs : s.size ≤ 100000)
    (hcut : Calls Tryz.prog 184 #[.string (s.extract 1 s.size), .string ⟨#[46]⟩] w fun e w' => e = .returned (.tuple #[.string ⟨W.toArray⟩, .string ⟨P.toArray⟩, .bool f]) ∧ ∃ n, w' = w.drewN n)
    (hl : W.length + P.length = 0) :
    Calls Tryz.prog 151 #[.string s] w fun e w' => e = .returned (.tuple #[.int .i64 0, errV 4]) ∧ ∃ n, w' = w.drewN n := by
  have hl' : ((W.length : Int) + (P.length : Int) == 0) = true := by simp; omega
  go_enter Tryz.func151, Tryz.ntmps151
  go_wp2_with (first
    | (go_at_call 19; refine (starts_any _ _ _).mono ?_; rintro e w' ⟨rfl, rfl⟩)
    | (go_at_call 184; refine hcut.mono ?_; rintro e w' ⟨rfl, n, rfl⟩)
    | (go_at_call 185; refine (allDigits_list _ _ (by omega)).mono ?_; rintro e w' ⟨rfl, rfl⟩)
    | (go_at_call 186; refine (withDigits_z _ _ _ (by omega) (by omega) (by omega) (by assumption)).mono ?_; rintro e w' ⟨rfl, rfl⟩))
  go_ret2
  exact ⟨rfl, n, rfl⟩

set_option maxHeartbeats 1000000 in
theorem parse_plus_Wbad (s : ByteArray) (W P : List UInt8) (f : Bool) (w : World)
    (h45 : startsB s 45 = false) (h43 : startsB s 43 = true) (hsz : 1 ≤ s.size) (_hs : s.size ≤ 100000)
    (hcut : Calls Tryz.prog 184 #[.string (s.extract 1 s.size), .string ⟨#[46]⟩] w fun e w' => e = .returned (.tuple #[.string ⟨W.toArray⟩, .string ⟨P.toArray⟩, .bool f]) ∧ ∃ n, w' = w.drewN n)
    (hw : W.length ≤ 100000) (hp : P.length ≤ 100000) (hl : W.length + P.length ≠ 0) (hW : allD W = false) :
    Calls Tryz.prog 151 #[.string s] w fun e w' => e = .returned (.tuple #[.int .i64 0, errV 4]) ∧ ∃ n, w' = w.drewN n := by
  have hl' : ((W.length : Int) + (P.length : Int) == 0) = false := by simp; omega
  go_enter Tryz.func151, Tryz.ntmps151
  go_wp2_with (first
    | (go_at_call 19; refine (starts_any _ _ _).mono ?_; rintro e w' ⟨rfl, rfl⟩)
    | (go_at_call 184; refine hcut.mono ?_; rintro e w' ⟨rfl, n, rfl⟩)
    | (go_at_call 185; refine (allDigits_list _ _ (by omega)).mono ?_; rintro e w' ⟨rfl, rfl⟩)
    | (go_at_call 186; refine (withDigits_z _ _ _ (by omega) (by omega) (by omega) (by assumption)).mono ?_; rintro e w' ⟨rfl, rfl⟩))
  go_ret2
  exact ⟨rfl, n, rfl⟩

set_option maxHeartbeats 1000000 in
theorem parse_plus_Pbad (s : ByteArray) (W P : List UInt8) (f : Bool) (w : World)
    (h45 : startsB s 45 = false) (h43 : startsB s 43 = true) (hsz : 1 ≤ s.size) (_hs : s.size ≤ 100000)
    (hcut : Calls Tryz.prog 184 #[.string (s.extract 1 s.size), .string ⟨#[46]⟩] w fun e w' => e = .returned (.tuple #[.string ⟨W.toArray⟩, .string ⟨P.toArray⟩, .bool f]) ∧ ∃ n, w' = w.drewN n)
    (hw : W.length ≤ 100000) (hp : P.length ≤ 100000) (hl : W.length + P.length ≠ 0) (hW : allD W = true) (hP : allD P = false) :
    Calls Tryz.prog 151 #[.string s] w fun e w' => e = .returned (.tuple #[.int .i64 0, errV 4]) ∧ ∃ n, w' = w.drewN n := by
  have hl' : ((W.length : Int) + (P.length : Int) == 0) = false := by simp; omega
  go_enter Tryz.func151, Tryz.ntmps151
  go_wp2_with (first
    | (go_at_call 19; refine (starts_any _ _ _).mono ?_; rintro e w' ⟨rfl, rfl⟩)
    | (go_at_call 184; refine hcut.mono ?_; rintro e w' ⟨rfl, n, rfl⟩)
    | (go_at_call 185; refine (allDigits_list _ _ (by omega)).mono ?_; rintro e w' ⟨rfl, rfl⟩)
    | (go_at_call 186; refine (withDigits_z _ _ _ (by omega) (by omega) (by omega) (by assumption)).mono ?_; rintro e w' ⟨rfl, rfl⟩))
  go_ret2
  exact ⟨rfl, n, rfl⟩

set_option maxHeartbeats 1000000 in
theorem parse_minus_ok (s : ByteArray) (W P Q : List UInt8) (F : Int) (f : Bool) (w : World)
    (h45 : startsB s 45 = true) (hsz : 1 ≤ s.size) (_hs : s.size ≤ 100000)
    (hcut : Calls Tryz.prog 184 #[.string (s.extract 1 s.size), .string ⟨#[46]⟩] w fun e w' => e = .returned (.tuple #[.string ⟨W.toArray⟩, .string ⟨P.toArray⟩, .bool f]) ∧ ∃ n, w' = w.drewN n)
    (hw : W.length ≤ 100000) (hp : P.length ≤ 100000) (hW : allD W = true) (hP : allD P = true) (hl : W.length + P.length ≠ 0)
    (hx : (⟨P.toArray⟩ : ByteArray).extract 0 (min (P.length : Int) 3).toNat = ⟨Q.toArray⟩) (hQ : allD Q = true) (hQl : Q.length ≤ 3)
    (hF : F = satZ (satZ (satZ 0 W) Q) (List.replicate (3 - Q.length) 48)) (hfin : F ≤ 1000000000) :
    Calls Tryz.prog 151 #[.string s] w fun e w' => e = .returned (.tuple #[.int .i64 (-F), .nilIface]) ∧ ∃ n, w' = w.drewN n := by
  have hl' : ((W.length : Int) + (P.length : Int) == 0) = false := by simp; omega
  have n1 := satZ_bd 0 W (by omega) (by omega) hW
  have n2 := satZ_bd (satZ 0 W) Q n1.1 n1.2 hQ
  have nF := satZ_bd (satZ (satZ 0 W) Q) (List.replicate (3 - Q.length) 48) n2.1 n2.2 (allD_rep _)
  rw [← hF] at nF
  have HF := hid hF
  clear hF
  go_enter Tryz.func151, Tryz.ntmps151
  go_wp2_with (first
    | (go_at_call 19; refine (starts_any _ _ _).mono ?_; rintro e w' ⟨rfl, rfl⟩)
    | (go_at_call 184; refine hcut.mono ?_; rintro e w' ⟨rfl, n, rfl⟩)
    | (go_at_call 185; refine (allDigits_list _ _ (by omega)).mono ?_; rintro e w' ⟨rfl, rfl⟩)
    | (go_at_call 186; refine (withDigits_z _ _ _ (by omega) (by omega) (by omega) (by assumption)).mono ?_; rintro e w' ⟨rfl, rfl⟩))
  go_loop [8, 53] (fun t i => ∃ k : Nat, k ≤ 3 - Q.length ∧ i = .int .i64 k ∧ t = .int .i64 (satZ (satZ (satZ 0 W) Q) (List.replicate k 48))) (fun _ i => 3 - Q.length - (intOf i).toNat)
  case atStart => exact ⟨0, Nat.zero_le _, rfl, rfl⟩
  case round =>
    obtain ⟨k, hk, rfl, rfl⟩ := hrel
    by_cases hlt : k < 3 - Q.length
    · have hlt' : (k : Int) < 3 - (Q.length : Int) := by omega
      have n3 := satZ_bd (satZ (satZ 0 W) Q) (List.replicate k 48) n2.1 n2.2 (allD_rep _)
      have HR := hid (satZ_rep (satZ (satZ 0 W) Q) k)
      have h48 : allD [48] = true := rfl
      go_wp2_with (go_at_call 186; refine (withDigits_z _ [48] _ (by omega) (by omega) (by simp) h48).mono ?_; rintro e w' ⟨rfl, rfl⟩)
      go_round
      case rel => exact ⟨k + 1, by omega, by go_num, by rw [HR.out]⟩
      case measure => simp [intOf]; omega
    · have hge : ¬ (k : Int) < 3 - (Q.length : Int) := by omega
      have ek : k = 3 - Q.length := by omega
      subst ek
      have e2 := HF.out
      rw [← e2]
      clear e2
      go_wp2_with (go_at_call 187; refine (number_ok _ _ (by omega) (by omega)).mono ?_; rintro e w' ⟨rfl, rfl⟩)
      go_ret2
      exact ⟨rfl, n, rfl⟩

set_option maxHeartbeats 1000000 in
theorem parse_minus_big (s : ByteArray) (W P Q : List UInt8) (F : Int) (f : Bool) (w : World)
    (h45 : startsB s 45 = true) (hsz : 1 ≤ s.size) (_hs : s.size ≤ 100000)
    (hcut : Calls Tryz.prog 184 #[.string (s.extract 1 s.size), .string ⟨#[46]⟩] w fun e w' => e = .returned (.tuple #[.string ⟨W.toArray⟩, .string ⟨P.toArray⟩, .bool f]) ∧ ∃ n, w' = w.drewN n)
    (hw : W.length ≤ 100000) (hp : P.length ≤ 100000) (hW : allD W = true) (hP : allD P = true) (hl : W.length + P.length ≠ 0)
    (hx : (⟨P.toArray⟩ : ByteArray).extract 0 (min (P.length : Int) 3).toNat = ⟨Q.toArray⟩) (hQ : allD Q = true) (hQl : Q.length ≤ 3)
    (hF : F = satZ (satZ (satZ 0 W) Q) (List.replicate (3 - Q.length) 48)) (hfin : 1000000000 < F) :
    Calls Tryz.prog 151 #[.string s] w fun e w' => e = .returned (.tuple #[.int .i64 0, errV 1]) ∧ ∃ n, w' = w.drewN n := by
  have hl' : ((W.length : Int) + (P.length : Int) == 0) = false := by simp; omega
  have n1 := satZ_bd 0 W (by omega) (by omega) hW
  have n2 := satZ_bd (satZ 0 W) Q n1.1 n1.2 hQ
  have nF := satZ_bd (satZ (satZ 0 W) Q) (List.replicate (3 - Q.length) 48) n2.1 n2.2 (allD_rep _)
  rw [← hF] at nF
  have HF := hid hF
  clear hF
  go_enter Tryz.func151, Tryz.ntmps151
  go_wp2_with (first
    | (go_at_call 19; refine (starts_any _ _ _).mono ?_; rintro e w' ⟨rfl, rfl⟩)
    | (go_at_call 184; refine hcut.mono ?_; rintro e w' ⟨rfl, n, rfl⟩)
    | (go_at_call 185; refine (allDigits_list _ _ (by omega)).mono ?_; rintro e w' ⟨rfl, rfl⟩)
    | (go_at_call 186; refine (withDigits_z _ _ _ (by omega) (by omega) (by omega) (by assumption)).mono ?_; rintro e w' ⟨rfl, rfl⟩))
  go_loop [8, 53] (fun t i => ∃ k : Nat, k ≤ 3 - Q.length ∧ i = .int .i64 k ∧ t = .int .i64 (satZ (satZ (satZ 0 W) Q) (List.replicate k 48))) (fun _ i => 3 - Q.length - (intOf i).toNat)
  case atStart => exact ⟨0, Nat.zero_le _, rfl, rfl⟩
  case round =>
    obtain ⟨k, hk, rfl, rfl⟩ := hrel
    by_cases hlt : k < 3 - Q.length
    · have hlt' : (k : Int) < 3 - (Q.length : Int) := by omega
      have n3 := satZ_bd (satZ (satZ 0 W) Q) (List.replicate k 48) n2.1 n2.2 (allD_rep _)
      have HR := hid (satZ_rep (satZ (satZ 0 W) Q) k)
      have h48 : allD [48] = true := rfl
      go_wp2_with (go_at_call 186; refine (withDigits_z _ [48] _ (by omega) (by omega) (by simp) h48).mono ?_; rintro e w' ⟨rfl, rfl⟩)
      go_round
      case rel => exact ⟨k + 1, by omega, by go_num, by rw [HR.out]⟩
      case measure => simp [intOf]; omega
    · have hge : ¬ (k : Int) < 3 - (Q.length : Int) := by omega
      have ek : k = 3 - Q.length := by omega
      subst ek
      have e2 := HF.out
      rw [← e2]
      clear e2
      go_wp2_with (go_at_call 187; refine (number_bad _ _ (by omega)).mono ?_; rintro e w' ⟨rfl, rfl⟩)
      go_ret2
      exact ⟨rfl, n, rfl⟩

set_option maxHeartbeats 1000000 in
theorem parse_minus_len0 (s : ByteArray) (W P : List UInt8) (f : Bool) (w : World)
    (h45 : startsB s 45 = true) (hsz : 1 ≤ s.size) (_hs : s.size ≤ 100000)
    (hcut : Calls Tryz.prog 184 #[.string (s.extract 1 s.size), .string ⟨#[46]⟩] w fun e w' => e = .returned (.tuple #[.string ⟨W.toArray⟩, .string ⟨P.toArray⟩, .bool f]) ∧ ∃ n, w' = w.drewN n)
    (hl : W.length + P.length = 0) :
    Calls Tryz.prog 151 #[.string s] w fun e w' => e = .returned (.tuple #[.int .i64 0, errV 4]) ∧ ∃ n, w' = w.drewN n := by
  have hl' : ((W.length : Int) + (P.length : Int) == 0) = true := by simp; omega
  go_enter Tryz.func151, Tryz.ntmps151
  go_wp2_with (first
    | (go_at_call 19; refine (starts_any _ _ _).mono ?_; rintro e w' ⟨rfl, rfl⟩)
    | (go_at_call 184; refine hcut.mono ?_; rintro e w' ⟨rfl, n, rfl⟩)
    | (go_at_call 185; refine (allDigits_list _ _ (by omega)).mono ?_; rintro e w' ⟨rfl, rfl⟩)
    | (go_at_call 186; refine (withDigits_z _ _ _ (by omega) (by omega) (by omega) (by assumption)).mono ?_; rintro e w' ⟨rfl, rfl⟩))
  go_ret2
  exact ⟨rfl, n, rfl⟩

set_option maxHeartbeats 1000000 in
theorem parse_minus_Wbad (s : ByteArray) (W P : List UInt8) (f : Bool) (w : World)
    (h45 : startsB s 45 = true) (hsz : 1 ≤ s.size) (_hs : s.size ≤ 100000)
    (hcut : Calls Tryz.prog 184 #[.string (s.extract 1 s.size), .string ⟨#[46]⟩] w fun e w' => e = .returned (.tuple #[.string ⟨W.toArray⟩, .string ⟨P.toArray⟩, .bool f]) ∧ ∃ n, w' = w.drewN n)
    (hw : W.length ≤ 100000) (hp : P.length ≤ 100000) (hl : W.length + P.length ≠ 0) (hW : allD W = false) :
    Calls Tryz.prog 151 #[.string s] w fun e w' => e = .returned (.tuple #[.int .i64 0, errV 4]) ∧ ∃ n, w' = w.drewN n := by
  have hl' : ((W.length : Int) + (P.length : Int) == 0) = false := by simp; omega
  go_enter Tryz.func151, Tryz.ntmps151
  go_wp2_with (first
    | (go_at_call 19; refine (starts_any _ _ _).mono ?_; rintro e w' ⟨rfl, rfl⟩)
    | (go_at_call 184; refine hcut.mono ?_; rintro e w' ⟨rfl, n, rfl⟩)
    | (go_at_call 185; refine (allDigits_list _ _ (by omega)).mono ?_; rintro e w' ⟨rfl, rfl⟩)
    | (go_at_call 186; refine (withDigits_z _ _ _ (by omega) (by omega) (by omega) (by assumption)).mono ?_; rintro e w' ⟨rfl, rfl⟩))
  go_ret2
  exact ⟨rfl, n, rfl⟩

set_option maxHeartbeats 1000000 in
theorem parse_minus_Pbad (s : ByteArray) (W P : List UInt8) (f : Bool) (w : World)
    (h45 : startsB s 45 = true) (hsz : 1 ≤ s.size) (_hs : s.size ≤ 100000)
    (hcut : Calls Tryz.prog 184 #[.string (s.extract 1 s.size), .string ⟨#[46]⟩] w fun e w' => e = .returned (.tuple #[.string ⟨W.toArray⟩, .string ⟨P.toArray⟩, .bool f]) ∧ ∃ n, w' = w.drewN n)
    (hw : W.length ≤ 100000) (hp : P.length ≤ 100000) (hl : W.length + P.length ≠ 0) (hW : allD W = true) (hP : allD P = false) :
    Calls Tryz.prog 151 #[.string s] w fun e w' => e = .returned (.tuple #[.int .i64 0, errV 4]) ∧ ∃ n, w' = w.drewN n := by
  have hl' : ((W.length : Int) + (P.length : Int) == 0) = false := by simp; omega
  go_enter Tryz.func151, Tryz.ntmps151
  go_wp2_with (first
    | (go_at_call 19; refine (starts_any _ _ _).mono ?_; rintro e w' ⟨rfl, rfl⟩)
    | (go_at_call 184; refine hcut.mono ?_; rintro e w' ⟨rfl, n, rfl⟩)
    | (go_at_call 185; refine (allDigits_list _ _ (by omega)).mono ?_; rintro e w' ⟨rfl, rfl⟩)
    | (go_at_call 186; refine (withDigits_z _ _ _ (by omega) (by omega) (by omega) (by assumption)).mono ?_; rintro e w' ⟨rfl, rfl⟩))
  go_ret2
  exact ⟨rfl, n, rfl⟩
end Go.Proofs.YtflcibmjblioaaaGreatDoor

/-
  Contract: any text that is read as a number, by the program: what it is, or what is wrong with it.
-/
namespace Go.Proofs.YtflcibmjblioaaaGreatDoor
open Go.RowKit
set_option maxRecDepth 100000

theorem startsB_nil {s : ByteArray} (h : s.data.toList = []) (c : UInt8) : startsB s c = false := by unfold startsB; rw [h]; rfl
theorem startsB_cons {s : ByteArray} {d : UInt8} {l : List UInt8} (h : s.data.toList = d :: l) (c : UInt8) : startsB s c = (c == d) := by
  unfold startsB; rw [h]; simp [Lib.hasPrefix, List.isPrefixOf]
theorem tail_list {s : ByteArray} {d : UInt8} {l : List UInt8} (h : s.data.toList = d :: l) : (s.extract 1 s.size).data.toList = l := by
  have hl : s.size = l.length + 1 := by have := congrArg List.length h; simpa using this
  rw [Lib.extract_data]
  simp [h, hl]
theorem size_list {s : ByteArray} {L : List UInt8} (h : s.data.toList = L) : s.size = L.length := by rw [← h]; simp
theorem parts_len (r : List UInt8) : (wholeOf r).length ≤ r.length ∧ (partOf r).length ≤ r.length := by
  constructor
  · exact (List.takeWhile_sublist _).length_le
  · unfold partOf; rw [List.length_drop]; have := (List.dropWhile_sublist (l := r) (· != 46)).length_le; omega

/-- The cut at the point, of whatever text. -/
theorem cut_any (R : ByteArray) (r : List UInt8) (w : World) (hr : R.data.toList = r) (hs : R.size ≤ 100000) (m : Int) (hm : w.cell? ⟨0, 0, none⟩ = some (.int .i64 m)) :
    Calls Tryz.prog 184 #[.string R, .string ⟨#[46]⟩] w fun e w' => e = .returned (.tuple #[.string ⟨(wholeOf r).toArray⟩, .string ⟨(partOf r).toArray⟩, .bool (Lib.cut r [46]).2.2]) ∧ ∃ n, w' = w.drewN n := by
  have h := Tryz.strings_Cut R ⟨#[46]⟩ m w (by omega) hm
  rw [hr] at h
  have hc := cut_dot r
  rw [show (⟨#[46]⟩ : ByteArray).data.toList = [46] from rfl, hc.1, hc.2] at h
  exact h

theorem parseE_text {s : List UInt8} (h : goodF (bodyF s) = false) : parseE s = 4 ∧ parseN s = 0 := by
  have : parseE s = 4 := by unfold parseE; rw [if_pos h]
  exact ⟨this, by unfold parseN; rw [this]; rfl⟩
theorem parseE_big {s : List UInt8} (h : goodF (bodyF s) = true) (hb : 1000000000 < magF (bodyF s)) : parseE s = 1 ∧ parseN s = 0 := by
  have : parseE s = 1 := by unfold parseE; rw [if_neg (by simp [h]), if_pos hb]
  exact ⟨this, by unfold parseN; rw [this]; rfl⟩
theorem parseE_ok {s : List UInt8} (h : goodF (bodyF s) = true) (hb : magF (bodyF s) ≤ 1000000000) : parseE s = 0 ∧ parseN s = if negF s then -(magF (bodyF s) : Int) else magF (bodyF s) := by
  have : parseE s = 0 := by unfold parseE; rw [if_neg (by simp [h]), if_neg (by omega)]
  exact ⟨this, by unfold parseN; rw [this]; rfl⟩
theorem fin_mag (r : List UInt8) : (finZ (wholeOf r) (partOf r) ≤ 1000000000 ∧ finZ (wholeOf r) (partOf r) = magF r) ∨ (1000000000 < finZ (wholeOf r) (partOf r) ∧ 1000000000 < magF r) := by
  have h := sat_mag r
  rw [finZ_eq]
  generalize satD (satD (satD 0 (wholeOf r)) ((partOf r).take 3)) (List.replicate (3 - ((partOf r).take 3).length) 48) = x at *
  rcases h with h | h
  · by_cases hx : x ≤ 1000000000
    · exact Or.inl ⟨by omega, by omega⟩
    · exact Or.inr ⟨by omega, by omega⟩
  · exact Or.inr ⟨by omega, by omega⟩
theorem errN_4 : errN 4 = errV 4 := rfl

theorem parse_none (s : ByteArray) (w : World) (hs : s.size ≤ 100000) (r : List UInt8) (hr : s.data.toList = r) (hb : bodyF s.data.toList = r) (hn : negF s.data.toList = false)
    (h45 : startsB s 45 = false) (h43 : startsB s 43 = false) (m : Int) (hm : w.cell? ⟨0, 0, none⟩ = some (.int .i64 m)) :
    Calls Tryz.prog 151 #[.string s] w fun e w' => e = .returned (.tuple #[.int .i64 (parseN s.data.toList), errN (parseE s.data.toList)]) ∧ ∃ n, w' = w.drewN n := by
  have hR := size_list hr
  have hRs : s.size ≤ 100000 := by first | exact hs | (rw [ByteArray.size_extract]; omega)
  have hcut := cut_any s r w hr hRs m hm
  have hlen := parts_len r
  have hw : (wholeOf r).length ≤ 100000 := by omega
  have hp : (partOf r).length ≤ 100000 := by omega
  by_cases hl : (wholeOf r).length + (partOf r).length = 0
  · obtain ⟨q1, q2⟩ := parseE_text (s := s.data.toList) (by rw [hb]; simp [goodF, hl])
    rw [q1, q2, errN_4]; exact parse_none_len0 s _ _ _ w h45 h43 hs hcut hl
  cases hW : allD (wholeOf r)
  · obtain ⟨q1, q2⟩ := parseE_text (s := s.data.toList) (by rw [hb]; simp [goodF, hW])
    rw [q1, q2, errN_4]; exact parse_none_Wbad s _ _ _ w h45 h43 hs hcut hw hp hl hW
  cases hP : allD (partOf r)
  · obtain ⟨q1, q2⟩ := parseE_text (s := s.data.toList) (by rw [hb]; simp [goodF, hP])
    rw [q1, q2, errN_4]; exact parse_none_Pbad s _ _ _ w h45 h43 hs hcut hw hp hl hW hP
  have hg : goodF (bodyF s.data.toList) = true := by rw [hb]; exact goodF_iff.2 ⟨hW, hP, hl⟩
  rcases fin_mag r with ⟨f1, f2⟩ | ⟨f1, f2⟩
  · obtain ⟨q1, q2⟩ := parseE_ok hg (by rw [hb]; omega)
    rw [q1, q2, errN_0, hb, hn, ← f2]
    exact parse_none_ok s _ _ _ _ _ w h45 h43 hs hcut hw hp hW hP hl (extract_take _) (allD_take hP 3) (by simp; omega) rfl f1
  · obtain ⟨q1, q2⟩ := parseE_big hg (by rw [hb]; omega)
    rw [q1, q2, errN_1]
    exact parse_none_big s _ _ _ _ _ w h45 h43 hs hcut hw hp hW hP hl (extract_take _) (allD_take hP 3) (by simp; omega) rfl f1

theorem parse_plus (s : ByteArray) (w : World) (hs : s.size ≤ 100000) (r : List UInt8) (hr : (s.extract 1 s.size).data.toList = r) (hb : bodyF s.data.toList = r) (hn : negF s.data.toList = false)
    (h45 : startsB s 45 = false) (h43 : startsB s 43 = true) (hsz : 1 ≤ s.size) (m : Int) (hm : w.cell? ⟨0, 0, none⟩ = some (.int .i64 m)) :
    Calls Tryz.prog 151 #[.string s] w fun e w' => e = .returned (.tuple #[.int .i64 (parseN s.data.toList), errN (parseE s.data.toList)]) ∧ ∃ n, w' = w.drewN n := by
  have hR := size_list hr
  have hRs : (s.extract 1 s.size).size ≤ 100000 := by first | exact hs | (rw [ByteArray.size_extract]; omega)
  have hcut := cut_any (s.extract 1 s.size) r w hr hRs m hm
  have hlen := parts_len r
  have hw : (wholeOf r).length ≤ 100000 := by omega
  have hp : (partOf r).length ≤ 100000 := by omega
  by_cases hl : (wholeOf r).length + (partOf r).length = 0
  · obtain ⟨q1, q2⟩ := parseE_text (s := s.data.toList) (by rw [hb]; simp [goodF, hl])
    rw [q1, q2, errN_4]; exact parse_plus_len0 s _ _ _ w h45 h43 hsz hs hcut hl
  cases hW : allD (wholeOf r)
  · obtain ⟨q1, q2⟩ := parseE_text (s := s.data.toList) (by rw [hb]; simp [goodF, hW])
    rw [q1, q2, errN_4]; exact parse_plus_Wbad s _ _ _ w h45 h43 hsz hs hcut hw hp hl hW
  cases hP : allD (partOf r)
  · obtain ⟨q1, q2⟩ := parseE_text (s := s.data.toList) (by rw [hb]; simp [goodF, hP])
    rw [q1, q2, errN_4]; exact parse_plus_Pbad s _ _ _ w h45 h43 hsz hs hcut hw hp hl hW hP
  have hg : goodF (bodyF s.data.toList) = true := by rw [hb]; exact goodF_iff.2 ⟨hW, hP, hl⟩
  rcases fin_mag r with ⟨f1, f2⟩ | ⟨f1, f2⟩
  · obtain ⟨q1, q2⟩ := parseE_ok hg (by rw [hb]; omega)
    rw [q1, q2, errN_0, hb, hn, ← f2]
    exact parse_plus_ok s _ _ _ _ _ w h45 h43 hsz hs hcut hw hp hW hP hl (extract_take _) (allD_take hP 3) (by simp; omega) rfl f1
  · obtain ⟨q1, q2⟩ := parseE_big hg (by rw [hb]; omega)
    rw [q1, q2, errN_1]
    exact parse_plus_big s _ _ _ _ _ w h45 h43 hsz hs hcut hw hp hW hP hl (extract_take _) (allD_take hP 3) (by simp; omega) rfl f1

theorem parse_minus (s : ByteArray) (w : World) (hs : s.size ≤ 100000) (r : List UInt8) (hr : (s.extract 1 s.size).data.toList = r) (hb : bodyF s.data.toList = r) (hn : negF s.data.toList = true)
    (h45 : startsB s 45 = true) (hsz : 1 ≤ s.size) (m : Int) (hm : w.cell? ⟨0, 0, none⟩ = some (.int .i64 m)) :
    Calls Tryz.prog 151 #[.string s] w fun e w' => e = .returned (.tuple #[.int .i64 (parseN s.data.toList), errN (parseE s.data.toList)]) ∧ ∃ n, w' = w.drewN n := by
  have hR := size_list hr
  have hRs : (s.extract 1 s.size).size ≤ 100000 := by first | exact hs | (rw [ByteArray.size_extract]; omega)
  have hcut := cut_any (s.extract 1 s.size) r w hr hRs m hm
  have hlen := parts_len r
  have hw : (wholeOf r).length ≤ 100000 := by omega
  have hp : (partOf r).length ≤ 100000 := by omega
  by_cases hl : (wholeOf r).length + (partOf r).length = 0
  · obtain ⟨q1, q2⟩ := parseE_text (s := s.data.toList) (by rw [hb]; simp [goodF, hl])
    rw [q1, q2, errN_4]; exact parse_minus_len0 s _ _ _ w h45 hsz hs hcut hl
  cases hW : allD (wholeOf r)
  · obtain ⟨q1, q2⟩ := parseE_text (s := s.data.toList) (by rw [hb]; simp [goodF, hW])
    rw [q1, q2, errN_4]; exact parse_minus_Wbad s _ _ _ w h45 hsz hs hcut hw hp hl hW
  cases hP : allD (partOf r)
  · obtain ⟨q1, q2⟩ := parseE_text (s := s.data.toList) (by rw [hb]; simp [goodF, hP])
    rw [q1, q2, errN_4]; exact parse_minus_Pbad s _ _ _ w h45 hsz hs hcut hw hp hl hW hP
  have hg : goodF (bodyF s.data.toList) = true := by rw [hb]; exact goodF_iff.2 ⟨hW, hP, hl⟩
  rcases fin_mag r with ⟨f1, f2⟩ | ⟨f1, f2⟩
  · obtain ⟨q1, q2⟩ := parseE_ok hg (by rw [hb]; omega)
    rw [q1, q2, errN_0, hb, hn, ← f2]
    exact parse_minus_ok s _ _ _ _ _ w h45 hsz hs hcut hw hp hW hP hl (extract_take _) (allD_take hP 3) (by simp; omega) rfl f1
  · obtain ⟨q1, q2⟩ := parseE_big hg (by rw [hb]; omega)
    rw [q1, q2, errN_1]
    exact parse_minus_big s _ _ _ _ _ w h45 hsz hs hcut hw hp hW hP hl (extract_take _) (allD_take hP 3) (by simp; omega) rfl f1

theorem parse_any (s : ByteArray) (w : World) (hs : s.size ≤ 100000) (m : Int) (hm : w.cell? ⟨0, 0, none⟩ = some (.int .i64 m)) :
    Calls Tryz.prog 151 #[.string s] w fun e w' => e = .returned (.tuple #[.int .i64 (parseN s.data.toList), errN (parseE s.data.toList)]) ∧ ∃ n, w' = w.drewN n := by
  cases hL : s.data.toList with
  | nil =>
    have := parse_none s w hs [] hL (by rw [hL]; rfl) (by rw [hL]; rfl) (startsB_nil hL _) (startsB_nil hL _) m hm
    rwa [hL] at this
  | cons c l =>
    have hz := size_list hL
    simp only [List.length_cons] at hz
    by_cases h1 : c = 45
    · subst h1
      have := parse_minus s w hs l (tail_list hL) (by rw [hL]; exact bodyF_neg l) (by rw [hL]; rfl) (by rw [startsB_cons hL]; rfl) (by omega) m hm
      rwa [hL] at this
    · by_cases h2 : c = 43
      · subst h2
        have := parse_plus s w hs l (tail_list hL) (by rw [hL]; exact bodyF_pos l) (by rw [hL]; rfl) (by rw [startsB_cons hL]; rfl) (by rw [startsB_cons hL]; rfl) (by omega) m hm
        rwa [hL] at this
      · have := parse_none s w hs (c :: l) hL (by rw [hL]; exact bodyF_else l h1 h2) (by rw [hL]; simp [negF, h1]) (by rw [startsB_cons hL]; simp; exact fun h => h1 h.symm) (by rw [startsB_cons hL]; simp; exact fun h => h2 h.symm) m hm
        rwa [hL] at this
end Go.Proofs.YtflcibmjblioaaaGreatDoor

/-
  Plain: a number's text is read as it.
-/
namespace Go.Proofs.YtflcibmjblioaaaGreatDoor
open Go.RowKit

theorem dgt_val {d : Nat} (h : d < 10) : (dgt d).toNat - 48 = d := by simp [dgt]; omega
theorem dgt_isD {d : Nat} (h : d < 10) : isD (dgt d) = true := by simp [isD, dgt]; omega
theorem dec_one {n : Nat} (h : n < 10) : Lib.decDigits n = [dgt n] := Lib.decDigits_one h
theorem dec_all (n : Nat) : allD (Lib.decDigits n) = true := by
  induction n using Nat.strongRecOn with
  | ind n ih =>
    by_cases h : n < 10
    · rw [dec_one h]; simp [allD, dgt_isD h]
    · rw [dec_big h]; unfold allD at *; rw [List.all_append, ih (n / 10) (by omega)]; simp [dgt_isD (show n % 10 < 10 by omega)]
theorem dec_val (n : Nat) : valD 0 (Lib.decDigits n) = n := by
  induction n using Nat.strongRecOn with
  | ind n ih =>
    by_cases h : n < 10
    · rw [dec_one h]
      show 10 * 0 + ((dgt n).toNat - 48) = n
      rw [dgt_val h]; omega
    · rw [dec_big h, valD_append, ih (n / 10) (by omega)]
      show 10 * (n / 10) + ((dgt (n % 10)).toNat - 48) = n
      rw [dgt_val (by omega)]; omega
theorem dec_ne (n : Nat) : Lib.decDigits n ≠ [] := by
  by_cases h : n < 10
  · rw [dec_one h]; simp
  · rw [dec_big h]; simp
theorem digs_all : ∀ (f n : Nat), n < 1000 → allD (digs f n) = true
  | 0, _, _ => rfl
  | f + 1, n, h => by
    rw [digs]; split
    · rfl
    · have := digs_all f (n % 100 * 10) (by omega)
      unfold allD at *; rw [List.all_cons, this, dgt_isD (by omega)]; rfl
theorem digs_frac (m : Nat) (h : m < 1000) : frac3 (digs 3 m) = m := by
  by_cases h0 : m = 0
  · subst h0; rfl
  rw [digs_step 2 m h0]
  by_cases h1 : m % 100 * 10 = 0
  · rw [h1, digs_zero]; simp only [frac3, dgt_val (show m / 100 < 10 by omega)]; omega
  rw [digs_step 1 _ h1]
  by_cases h2 : m % 100 * 10 % 100 * 10 = 0
  · rw [h2, digs_zero]; simp only [frac3, dgt_val (show m / 100 < 10 by omega), dgt_val (show m % 100 * 10 / 100 < 10 by omega)]; omega
  rw [digs_step 0 _ h2]
  simp only [frac3, dgt_val (show m / 100 < 10 by omega), dgt_val (show m % 100 * 10 / 100 < 10 by omega), dgt_val (show m % 100 * 10 % 100 * 10 / 100 < 10 by omega)]; omega
theorem text_parts (q m : Nat) (h : m < 1000) : wholeOf (Lib.decDigits q ++ frac m) = Lib.decDigits q ∧ allD (partOf (Lib.decDigits q ++ frac m)) = true ∧ frac3 (partOf (Lib.decDigits q ++ frac m)) = m := by
  by_cases h0 : m = 0
  · subst h0
    have := whole_none (dec_all q)
    rw [show frac 0 = [] from rfl, List.append_nil, this.1, this.2]
    exact ⟨rfl, rfl, rfl⟩
  · have := whole_dot (digs 3 m) (dec_all q)
    rw [frac_pos h0, this.1, this.2]
    exact ⟨rfl, digs_all 3 m h, digs_frac m h⟩
theorem text_good (q m : Nat) (h : m < 1000) : goodF (Lib.decDigits q ++ frac m) = true ∧ magF (Lib.decDigits q ++ frac m) = 1000 * q + m := by
  obtain ⟨h1, h2, h3⟩ := text_parts q m h
  have hne := dec_ne q
  have hl : 0 < (Lib.decDigits q).length := List.length_pos_iff.2 hne
  refine ⟨goodF_iff.2 ⟨by rw [h1]; exact dec_all q, h2, by rw [h1]; omega⟩, ?_⟩
  unfold magF; rw [h1, h3, dec_val]
theorem body_dec (q m : Nat) : bodyF (Lib.decDigits q ++ frac m) = Lib.decDigits q ++ frac m ∧ negF (Lib.decDigits q ++ frac m) = false := by
  cases hd : Lib.decDigits q with
  | nil => exact absurd hd (dec_ne q)
  | cons c l =>
    have hc : isD c = true := by have := dec_all q; rw [hd] at this; exact List.all_eq_true.1 this c (by simp)
    have h1 : c ≠ 45 := by rintro rfl; simp [isD] at hc
    have h2 : c ≠ 43 := by rintro rfl; simp [isD] at hc
    exact ⟨bodyF_else _ h1 h2, by simp [negF, h1]⟩
/-- A number's text is read as it. -/
theorem read_text (n : Int) (h : okF n = true) : parseE (fixTxt n) = 0 ∧ parseN (fixTxt n) = n := by
  have h' := okF_iff.1 h
  obtain ⟨u, hu⟩ : ∃ u : Nat, n.natAbs = u := ⟨_, rfl⟩
  obtain ⟨hg, hm⟩ := text_good (u / 1000) (u % 1000) (by omega)
  obtain ⟨hb, hn⟩ := body_dec (u / 1000) (u % 1000)
  by_cases hneg : n < 0
  · have ht : fixTxt n = 45 :: (Lib.decDigits (u / 1000) ++ frac (u % 1000)) := by unfold fixTxt; rw [if_pos hneg, hu]; simp
    have hb2 : bodyF (fixTxt n) = Lib.decDigits (u / 1000) ++ frac (u % 1000) := by rw [ht]; exact bodyF_neg _
    have he : parseE (fixTxt n) = 0 := by unfold parseE; rw [hb2, if_neg (by simp [hg]), if_neg (by omega)]
    refine ⟨he, ?_⟩
    unfold parseN; rw [he, hb2, hm, ht]; simp [negF]; omega
  · have ht : fixTxt n = Lib.decDigits (u / 1000) ++ frac (u % 1000) := by unfold fixTxt; rw [if_neg hneg, hu]; simp
    have he : parseE (fixTxt n) = 0 := by unfold parseE; rw [ht, hb, if_neg (by simp [hg]), if_neg (by omega)]
    refine ⟨he, ?_⟩
    unfold parseN; rw [he, ht, hb, hn, hm]; simp; omega
end Go.Proofs.YtflcibmjblioaaaGreatDoor
