/-
  Joined: Rb, Rc, Ya.
-/
import Derived.Test.YtobpidmlgldnmaaGreatDoorRa
import Derived.Deep.CutRange
import Derived.Test.YtobpidmlgldnmaaGreatDoorKb
import Derived.Deep.QuietTactic
import Derived.BigQuiet
import Derived.Deep.RegionWith
import Derived.BigRegion

/-
  Reading: what is skipped, and words: of the program and of the document's answer.
-/
namespace Go.Proofs.YtobpidmlgldnmaaGreatDoor
open Go.RowKit
set_option maxRecDepth 100000

theorem skip_step (s : ByteArray) (k : Nat) (b : Bool) (h : k < s.size) : skipL (s.data.toList.drop k) b = if !(s[k] == 37 || (b && s[k] != 10 && s[k] != 13)) && !isBl s[k] then 0 else skipL (s.data.toList.drop (k + 1)) (s[k] == 37 || (b && s[k] != 10 && s[k] != 13)) + 1 := by
  rw [List.drop_eq_getElem_cons (by simpa using h)]; rfl
theorem skip_end (s : ByteArray) (b : Bool) : skipL (s.data.toList.drop s.size) b = 0 := by
  rw [List.drop_of_length_le (by simp)]; rfl
theorem word_step (s : ByteArray) (k : Nat) (h : k < s.size) : wordL (s.data.toList.drop k) = if !isBl s[k] && !isSg s[k] then wordL (s.data.toList.drop (k + 1)) + 1 else 0 := by
  rw [List.drop_eq_getElem_cons (by simpa using h)]
  unfold wordL
  rw [List.takeWhile_cons]
  show (if (!isBl s[k] && !isSg s[k]) = true then _ else _ : List UInt8).length = _
  split <;> simp
theorem word_end (s : ByteArray) : wordL (s.data.toList.drop s.size) = 0 := by
  rw [List.drop_of_length_le (by simp)]; rfl
theorem pBlankN (c : UInt8) (n : Int) (h : n = (c.toNat : Int)) (w : World) :
    Calls Tryz.prog 77 #[.int .u8 n] w fun e w' => e = .returned (.bool (isBl c)) ∧ w' = w := by
  subst h; exact pBlank c w
set_option linter.unusedSimpArgs false in
set_option maxHeartbeats 4000000 in
theorem pSkip (s : ByteArray) (a : Int) (w : World) (hs : s.size ≤ maxLen) :
    Calls Tryz.prog 55 #[.string s, .int .i64 a] w fun e w' => e = .returned (.int .i64 (skipP s (place s a))) ∧ w' = w := by
  have hp : place s a ≤ s.size := by unfold place; omega
  have HSZ := hid hs
  unfold maxLen at hs
  go_enter Tryz.func55, Tryz.ntmps55
  go_wp2_with (go_at_call 76; refine (pWithin s a _ HSZ.out).mono ?_; rintro e w1 ⟨rfl, rfl⟩)
  go_loop [1, 5] (fun i b => ∃ (k : Nat) (n : Bool), k ≤ s.size ∧ i = .int .i64 k ∧ b = .bool n ∧ k + skipL (s.data.toList.drop k) n = skipP s (place s a)) (fun i _ => s.size - (intOf i).toNat)
  case atStart => exact ⟨place s a, false, hp, rfl, rfl, rfl⟩
  case round =>
    obtain ⟨k, n, hk, rfl, rfl, hT⟩ := hrel
    have HT := hid hT
    clear hT
    by_cases hlt : k < s.size
    · have HS := hid (skip_step s k n hlt)
      have E0 := hid (eq_u8 s[k] 37 (by omega))
      have E1 := hid (eq_u8 s[k] 10 (by omega))
      have E2 := hid (eq_u8 s[k] 13 (by omega))
      have i10 : isBl 10 = true := rfl
      have i13 : isBl 13 = true := rfl
      cases b0 : ((s[k].toNat : Int) == 37)
      case true =>
        have Q0 : Hid ((s[k] == 37) = true) := hid (E0.out.symm.trans b0)
        cases n
        all_goals
          go_wp2_with (fail)
          have hh := HT.out
          rw [HS.out, Q0.out] at hh
          simp only [bne, Bool.not_true, Bool.not_false, Bool.true_or, Bool.false_or, Bool.or_false, Bool.and_true, Bool.and_false, Bool.true_and, Bool.false_and, Bool.false_eq_true, if_false] at hh
          go_round
          case rel => exact ⟨k + 1, true, by omega, by go_num, rfl, by omega⟩
          case measure => simp [intOf]; omega
      case false =>
        have Q0 : Hid ((s[k] == 37) = false) := hid (E0.out.symm.trans b0)
        cases n
        case false =>
          cases b3 : isBl s[k]
          case true =>
            have Q3 := hid b3
            go_wp2_with (go_at_call 77; refine (pBlankN s[k] _ rfl _).mono ?_; rintro e w1 ⟨rfl, rfl⟩)
            have hh := HT.out
            rw [HS.out, Q0.out, Q3.out] at hh
            simp only [bne, Bool.not_true, Bool.not_false, Bool.true_or, Bool.false_or, Bool.or_false, Bool.and_true, Bool.and_false, Bool.true_and, Bool.false_and, Bool.false_eq_true, if_false] at hh
            go_round
            case rel => exact ⟨k + 1, false, by omega, by go_num, rfl, by omega⟩
            case measure => simp [intOf]; omega
          case false =>
            have Q3 := hid b3
            go_wp2_with (go_at_call 77; refine (pBlankN s[k] _ rfl _).mono ?_; rintro e w1 ⟨rfl, rfl⟩)
            go_ret
            have hh := HT.out
            rw [HS.out, Q0.out, Q3.out] at hh
            rw [if_pos (by simp)] at hh
            exact ⟨ret_int (by omega), rfl⟩
        case true =>
          cases b1 : ((s[k].toNat : Int) == 10)
          case true =>
            have Q1 : Hid ((s[k] == 10) = true) := hid (E1.out.symm.trans b1)
            have Q3 := hid (show isBl s[k] = true by rw [eq_of_beq Q1.out]; rfl)
            have p1 : (s[k].toNat : Int) = 10 := eq_of_beq b1
            clear b1
            go_wp2_with (go_at_call 77; refine (pBlankN 10 _ rfl _).mono ?_; rintro e w1 ⟨rfl, rfl⟩)
            have hh := HT.out
            rw [HS.out, Q0.out, Q3.out, bne, Q1.out] at hh
            simp only [bne, Bool.not_true, Bool.not_false, Bool.true_or, Bool.false_or, Bool.or_false, Bool.and_true, Bool.and_false, Bool.true_and, Bool.false_and, Bool.false_eq_true, if_false] at hh
            go_round
            case rel => exact ⟨k + 1, false, by omega, by go_num, rfl, by omega⟩
            case measure => simp [intOf]; omega
          case false =>
            have Q1 : Hid ((s[k] == 10) = false) := hid (E1.out.symm.trans b1)
            cases b2 : ((s[k].toNat : Int) == 13)
            case true =>
              have Q2 : Hid ((s[k] == 13) = true) := hid (E2.out.symm.trans b2)
              have Q3 := hid (show isBl s[k] = true by rw [eq_of_beq Q2.out]; rfl)
              have p1 : (s[k].toNat : Int) = 13 := eq_of_beq b2
              clear b2
              go_wp2_with (go_at_call 77; refine (pBlankN 13 _ rfl _).mono ?_; rintro e w1 ⟨rfl, rfl⟩)
              have hh := HT.out
              rw [HS.out, Q0.out, Q3.out, bne, bne, Q1.out, Q2.out] at hh
              simp only [bne, Bool.not_true, Bool.not_false, Bool.true_or, Bool.false_or, Bool.or_false, Bool.and_true, Bool.and_false, Bool.true_and, Bool.false_and, Bool.false_eq_true, if_false] at hh
              go_round
              case rel => exact ⟨k + 1, false, by omega, by go_num, rfl, by omega⟩
              case measure => simp [intOf]; omega
            case false =>
              have Q2 : Hid ((s[k] == 13) = false) := hid (E2.out.symm.trans b2)
              have p1 : ¬ (s[k].toNat : Int) = 10 := by simpa using b1
              have p2 : ¬ (s[k].toNat : Int) = 13 := by simpa using b2
              go_wp2_with (fail)
              have hh := HT.out
              rw [HS.out, Q0.out, bne, bne, Q1.out, Q2.out] at hh
              simp only [bne, Bool.not_true, Bool.not_false, Bool.true_or, Bool.false_or, Bool.or_false, Bool.and_true, Bool.and_false, Bool.true_and, Bool.false_and, Bool.false_eq_true, if_false] at hh
              go_round
              case rel => exact ⟨k + 1, true, by omega, by go_num, by simp [p1, p2], by omega⟩
              case measure => simp [intOf]; omega
    · have hke : k = s.size := by omega
      subst hke
      have HE := hid (skip_end s n)
      go_wp2
      go_ret
      exact ⟨ret_int (by have h1 := HT.out; have h2 := HE.out; omega), rfl⟩
end Go.Proofs.YtobpidmlgldnmaaGreatDoor

/-
  Reading: words of the program and of the document's answer; what its answer skips.
-/
namespace Go.Proofs.YtobpidmlgldnmaaGreatDoor
open Go.RowKit
set_option maxRecDepth 100000

set_option maxHeartbeats 1000000 in
theorem pWord (s : ByteArray) (a : Int) (w : World) (hs : s.size ≤ maxLen) :
    Calls Tryz.prog 56 #[.string s, .int .i64 a] w fun e w' => e = .returned (.string (wordP s (place s a))) ∧ w' = w := by
  have hp : place s a ≤ s.size := by unfold place; omega
  have HSZ := hid hs
  unfold maxLen at hs
  go_enter Tryz.func56, Tryz.ntmps56
  go_wp2_with (go_at_call 76; refine (pWithin s a _ HSZ.out).mono ?_; rintro e w1 ⟨rfl, rfl⟩)
  go_loop [5] (fun i => ∃ k : Nat, place s a ≤ k ∧ k ≤ s.size ∧ i = .int .i64 k ∧ k + wordL (s.data.toList.drop k) = place s a + wordL (s.data.toList.drop (place s a))) (fun i => s.size - (intOf i).toNat)
  case atStart => exact ⟨place s a, Nat.le_refl _, hp, rfl, rfl⟩
  case round =>
    obtain ⟨k, hpk, hk, rfl, hT⟩ := hrel
    have HT := hid hT
    clear hT
    by_cases hlt : k < s.size
    · have HS := hid (word_step s k hlt)
      cases b0 : isBl s[k]
      case true =>
        have B0 := hid b0
        go_wp2_with (first | (go_at_call 77; refine (pBlank _ _).mono ?_; rintro e w1 ⟨rfl, rfl⟩) | (go_at_call 78; refine (pSign _ _).mono ?_; rintro e w1 ⟨rfl, rfl⟩))
        go_ret
        refine ⟨?_, rfl⟩
        have h1 := HT.out
        rw [HS.out, B0.out, if_neg (by simp)] at h1
        unfold wordP
        rw [← h1]; rfl
      case false =>
        have B0 := hid b0
        cases b1 : isSg s[k]
        case true =>
          have B1 := hid b1
          go_wp2_with (first | (go_at_call 77; refine (pBlank _ _).mono ?_; rintro e w1 ⟨rfl, rfl⟩) | (go_at_call 78; refine (pSign _ _).mono ?_; rintro e w1 ⟨rfl, rfl⟩))
          go_ret
          refine ⟨?_, rfl⟩
          have h1 := HT.out
          rw [HS.out, B0.out, B1.out, if_neg (by simp)] at h1
          unfold wordP
          rw [← h1]; rfl
        case false =>
          have B1 := hid b1
          go_wp2_with (first | (go_at_call 77; refine (pBlank _ _).mono ?_; rintro e w1 ⟨rfl, rfl⟩) | (go_at_call 78; refine (pSign _ _).mono ?_; rintro e w1 ⟨rfl, rfl⟩))
          have h1 := HT.out
          rw [HS.out, B0.out, B1.out, if_pos (by simp)] at h1
          go_round
          case rel => exact ⟨k + 1, by omega, by omega, by go_num, by omega⟩
          case measure => simp [intOf]; omega
    · have hke : k = s.size := by omega
      have HE := hid (word_end s)
      go_wp2_with fail
      go_ret
      refine ⟨?_, rfl⟩
      have h1 := HT.out
      rw [hke, HE.out] at h1
      unfold wordP
      rw [← h1]; rfl
end Go.Proofs.YtobpidmlgldnmaaGreatDoor

/-
  The program's reader: its small steps.
-/
namespace Go.Proofs.YtobpidmlgldnmaaGreatDoor
open Go.RowKit
set_option maxRecDepth 100000

/-- A reader in memory: its text, and how far it has come. -/
def RdAt (w : World) (P : Nat) (s : ByteArray) (k : Nat) : Prop := At w P 130 #[.string s, .int .i64 k]
/-- It has come that far; all else is as it was. -/
structure Moved (P : Nat) (w w' : World) (s : ByteArray) (k : Nat) : Prop where
  keep : KeepBut P w w'
  at_ : RdAt w' P s k
theorem RdAt.c0 {w : World} {P : Nat} {s : ByteArray} {k : Nat} (h : RdAt w P s k) : w.cell? ⟨P, 0, none⟩ = some (.string s) := At.cell h 0
theorem RdAt.c1 {w : World} {P : Nat} {s : ByteArray} {k : Nat} (h : RdAt w P s k) : w.cell? ⟨P, 1, none⟩ = some (.int .i64 k) := At.cell h 1
theorem RdAt.set {w : World} {P : Nat} {s : ByteArray} {k : Nat} (h : RdAt w P s k) (j : Nat) : RdAt (w.setCell ⟨P, 1, none⟩ (.int .i64 j)) P s j :=
  heap_setCell_same w P 1 _ _ (.int .i64 j) h
theorem RdAt.set' {w : World} {P : Nat} {s : ByteArray} {k : Nat} (h : RdAt w P s k) {i : Int} {j : Nat} (e : i = j) : RdAt (w.setCell ⟨P, 1, none⟩ (.int .i64 i)) P s j := by
  subst e; exact h.set j
theorem RdAt.drewN {w : World} {P : Nat} {s : ByteArray} {k : Nat} (h : RdAt w P s k) (n : Nat) : RdAt (w.drewN n) P s k := by
  induction n with
  | zero => exact h
  | succ n ih => exact ih
theorem Moved.refl {P : Nat} {w : World} {s : ByteArray} {k : Nat} (h : RdAt w P s k) : Moved P w w s k := ⟨KeepBut.refl _ _, h⟩
theorem Moved.trans {P : Nat} {a b c : World} {s : ByteArray} {k j : Nat} (h : Moved P a b s k) (g : Moved P b c s j) : Moved P a c s j := ⟨h.keep.trans g.keep, g.at_⟩
theorem Moved.drewN {P : Nat} {a b : World} {s : ByteArray} {k : Nat} (h : Moved P a b s k) (n : Nat) : Moved P a (b.drewN n) s k := ⟨h.keep.drewN n, h.at_.drewN n⟩
theorem Moved.drew {P : Nat} {a b : World} {s : ByteArray} {k : Nat} (h : Moved P a b s k) : Moved P a b.drew s k := ⟨h.keep.drew, h.at_⟩
theorem Moved.set {P : Nat} {a b : World} {s : ByteArray} {k : Nat} (h : Moved P a b s k) {i : Int} {j : Nat} (e : i = j) : Moved P a (b.setCell ⟨P, 1, none⟩ (.int .i64 i)) s j := ⟨h.keep.set 1 _, h.at_.set' e⟩
theorem place_in {s : ByteArray} {k : Nat} (h : k ≤ s.size) : place s (k : Int) = k := by unfold place; omega
theorem skipL_le : ∀ (l : List UInt8) (b : Bool), skipL l b ≤ l.length
  | [], _ => by simp [skipL]
  | c :: r, b => by
    unfold skipL
    split
    · simp
    · have := skipL_le r (c == 37 || (b && c != 10 && c != 13)); simp; omega
theorem skipP_le {s : ByteArray} {k : Nat} (h : k ≤ s.size) : k ≤ skipP s k ∧ skipP s k ≤ s.size := by
  unfold skipP
  have := skipL_le (s.data.toList.drop k) false
  simp at this
  omega
theorem pSkipN (s : ByteArray) (k : Nat) (w : World) (hk : k ≤ s.size) (hs : s.size ≤ 100000) :
    Calls Tryz.prog 55 #[.string s, .int .i64 k] w fun e w' => e = .returned (.int .i64 (skipP s k : Nat)) ∧ w' = w := by
  have q := pSkip s k w (by unfold maxLen; omega)
  rw [place_in hk] at q; exact q
theorem pWordN (s : ByteArray) (k : Nat) (w : World) (hk : k ≤ s.size) (hs : s.size ≤ 100000) :
    Calls Tryz.prog 56 #[.string s, .int .i64 k] w fun e w' => e = .returned (.string (wordP s k)) ∧ w' = w := by
  have q := pWord s k w (by unfold maxLen; omega)
  rw [place_in hk] at q; exact q
/-- What skipping tells: 5 at the end. -/
def skipE (s : ByteArray) (k : Nat) : Int := if skipP s k = s.size then 5 else 0
set_option maxHeartbeats 1000000 in
theorem yAhead (P : Nat) (s p : ByteArray) (k : Nat) (w : World) (hR : RdAt w P s k) (hk : k ≤ s.size) :
    Calls Tryz.prog 91 #[.pointer (some ⟨P, 0, none⟩), .string p] w fun e w' => e = .returned (.bool (Lib.hasPrefix (s.data.toList.drop k) p.data.toList)) ∧ Moved P w w' s k := by
  have c0 := hR.c0
  have c1 := hR.c1
  have hk0 : (0 : Int) ≤ k := by omega
  have hk1 : (k : Int) ≤ s.size := by omega
  have HX := hid (fun (w : World) => Tryz.strings_HasPrefix (s.extract k s.size) p w)
  go_enter Tryz.func91, Tryz.ntmps91
  go_wp2
  go_quiet ((go_at_call 109; exact Calls.quiet_of_same (HX.out _)))
  go_wp2
  go_ret
  refine ⟨ret_bool ?_, (Moved.refl hR).drewN _⟩
  have e : (s.extract k s.size).data.toList = s.data.toList.drop k := by
    rw [ByteArray.data_extract, Array.toList_extract, List.extract_eq_take_drop, List.take_of_length_le (by simp)]
  rw [e]
set_option maxHeartbeats 1000000 in
theorem ySkip (P : Nat) (s : ByteArray) (k : Nat) (w : World) (hR : RdAt w P s k) (hk : k ≤ s.size) (hs : s.size ≤ 100000) :
    Calls Tryz.prog 90 #[.pointer (some ⟨P, 0, none⟩)] w fun e w' => e = .returned (errN (skipE s k)) ∧ Moved P w w' s (skipP s k) := by
  have c0 := hR.c0
  have c1 := hR.c1
  have f1 := At.free hR 1
  have hkl := skipP_le hk
  have HP := hid (fun (w : World) => pSkipN s k w hk hs)
  have HE := hid (show skipE s k = if skipP s k = s.size then 5 else 0 from rfl)
  generalize skipP s k = j at *
  by_cases hj : j = s.size
  · have HE5 := hid (show skipE s k = 5 by rw [HE.out, if_pos hj])
    have hj' : ((j : Int) == (s.size : Int)) = true := by rw [hj]; simp
    go_enter Tryz.func90, Tryz.ntmps90
    go_wp2
    go_region_with (go_at_call 55; refine (HP.out _).mono ?_; rintro e w1 ⟨rfl, rfl⟩)
    all_goals
      go_wp2
      go_quiet (fail)
      go_wp2
      go_ret
      exact ⟨by rw [HE5.out]; rfl, by first | exact ((Moved.refl hR).set (by omega)).drewN _ | exact ((Moved.refl hR).set (by omega)).drew.drewN _⟩
  · have HE5 := hid (show skipE s k = 0 by rw [HE.out, if_neg hj])
    have hj' : ((j : Int) == (s.size : Int)) = false := by simpa using (show ¬ (j : Int) = s.size by omega)
    go_enter Tryz.func90, Tryz.ntmps90
    go_wp2
    go_region_with (go_at_call 55; refine (HP.out _).mono ?_; rintro e w1 ⟨rfl, rfl⟩)
    all_goals
      go_wp2
      go_quiet (fail)
      go_wp2
      go_ret
      exact ⟨by rw [HE5.out]; rfl, by first | exact ((Moved.refl hR).set (by omega)).drewN _ | exact ((Moved.refl hR).set (by omega)).drew.drewN _⟩
theorem wordL_le (l : List UInt8) : wordL l ≤ l.length := by
  unfold wordL; exact (List.takeWhile_sublist _).length_le
theorem wordP_size {s : ByteArray} {k : Nat} (h : k ≤ s.size) : (wordP s k).size = wordL (s.data.toList.drop k) ∧ k + (wordP s k).size ≤ s.size := by
  have := wordL_le (s.data.toList.drop k)
  simp at this
  unfold wordP
  rw [ByteArray.size_extract]
  omega
set_option maxHeartbeats 1000000 in
theorem yWord (P : Nat) (s : ByteArray) (k : Nat) (w : World) (hR : RdAt w P s k) (hk : k ≤ s.size) (hs : s.size ≤ 100000) :
    Calls Tryz.prog 110 #[.pointer (some ⟨P, 0, none⟩)] w fun e w' => e = .returned (.string (wordP s k)) ∧ Moved P w w' s (k + (wordP s k).size) := by
  have c0 := hR.c0
  have c1 := hR.c1
  have f1 := At.free hR 1
  have hz := (wordP_size hk).2
  have HP := hid (fun (w : World) => pWordN s k w hk hs)
  generalize wordP s k = ww at *
  go_enter Tryz.func110, Tryz.ntmps110
  go_wp2
  go_quiet ((go_at_call 56; exact Calls.quiet_of_same (HP.out _)))
  go_wp2
  go_ret
  exact ⟨rfl, ((Moved.refl hR).drewN _).set (by omega)⟩
set_option maxHeartbeats 1000000 in
theorem yTakeEnd (P : Nat) (s : ByteArray) (w : World) (hR : RdAt w P s s.size) :
    Calls Tryz.prog 112 #[.pointer (some ⟨P, 0, none⟩)] w fun e w' => e = .returned (.tuple #[.int .u8 0, .iface 68 (.int .i64 5)]) ∧ Moved P w w' s s.size := by
  have c0 := hR.c0
  have c1 := hR.c1
  go_enter Tryz.func112, Tryz.ntmps112
  go_wp2
  go_quiet (fail)
  go_wp2
  go_ret2
  exact ⟨rfl, (Moved.refl hR).drewN _⟩
set_option maxHeartbeats 1000000 in
theorem yTake (P : Nat) (s : ByteArray) (k : Nat) (w : World) (hR : RdAt w P s k) (hk : k < s.size) (hs : s.size ≤ 100000) :
    Calls Tryz.prog 112 #[.pointer (some ⟨P, 0, none⟩)] w fun e w' => e = .returned (.tuple #[.int .u8 (s[k].toNat : Int), .nilIface]) ∧ Moved P w w' s (k + 1) := by
  have c0 := hR.c0
  have c1 := hR.c1
  have f1 := At.free hR 1
  have hk0 : (0 : Int) ≤ k := by omega
  have hk1 : (k : Int) < s.size := by omega
  have hne : ((k : Int) == (s.size : Int)) = false := by simpa using (show ¬ (k : Int) = s.size by omega)
  go_enter Tryz.func112, Tryz.ntmps112
  go_wp2
  go_quiet (fail)
  go_wp2
  go_quiet (fail)
  go_wp2
  go_ret2
  exact ⟨rfl, ((Moved.refl hR).drewN _).set (by omega)⟩
end Go.Proofs.YtobpidmlgldnmaaGreatDoor
