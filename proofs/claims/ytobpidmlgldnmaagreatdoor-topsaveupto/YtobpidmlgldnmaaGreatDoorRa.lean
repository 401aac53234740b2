/-
  Joined: Qa, Pa, Ra.
-/
import Derived.RowKit
import Derived.IntWalk
import Derived.Test.YtobpidmlgldnmaaGreatDoorPt
import Derived.Test.YtobpidmlgldnmaaGreatDoorShelf
import Derived.PlainAid

/-
  Filters, plain: what each makes of bytes, and takes apart; no program.
-/
namespace Go.Proofs.YtobpidmlgldnmaaGreatDoor
open Go.RowKit

def isBl (c : UInt8) : Bool := c == 0 || c == 9 || c == 10 || c == 12 || c == 13 || c == 32
def hexV (c : UInt8) : Int := if 48 ≤ c.toNat ∧ c.toNat ≤ 57 then c.toNat - 48 else if 65 ≤ c.toNat ∧ c.toNat ≤ 70 then c.toNat - 55 else if 97 ≤ c.toNat ∧ c.toNat ≤ 102 then c.toNat - 87 else -1
def hexD (n : Nat) : UInt8 := if n < 10 then UInt8.ofNat (48 + n) else UInt8.ofNat (55 + n)
/-- What stands in half a byte. -/
def pend : Option Nat → List UInt8
  | none => []
  | some x => [UInt8.ofNat (16 * x)]
/-- What digits up to '>' are: an error's number, the bytes, and where it goes on. -/
def hexTk : List UInt8 → Option Nat → List UInt8 → Nat → Int × List UInt8 × Nat
  | [], _, _, _ => (5, [], 0)
  | c :: r, p, b, k =>
    if c == 62 then (0, b ++ pend p, k + 1)
    else if isBl c then hexTk r p b (k + 1)
    else if hexV c < 0 then (4, [], 0)
    else match p with
      | some x => hexTk r none (b ++ [UInt8.ofNat (16 * x + (hexV c).toNat)]) (k + 1)
      | none => hexTk r (some (hexV c).toNat) b (k + 1)
theorem hexV_rng (c : UInt8) : hexV c = -1 ∨ (0 ≤ hexV c ∧ hexV c < 16) := by
  unfold hexV; (repeat' split) <;> omega
end Go.Proofs.YtobpidmlgldnmaaGreatDoor

/-
  Reading, plain: names, strings in brackets; no program.
-/
namespace Go.Proofs.YtobpidmlgldnmaaGreatDoor
open Go.RowKit

/-- What stands for a name, byte by byte. -/
def nameL : List UInt8 → Option (List UInt8)
  | [] => some []
  | c :: r =>
    if c == 35 then
      match r with
      | x :: y :: r' => if hexV x < 0 ∨ hexV y < 0 then none else (nameL r').map (UInt8.ofNat (16 * (hexV x).toNat + (hexV y).toNat) :: ·)
      | _ => none
    else (nameL r).map (c :: ·)
theorem nameL_nil : nameL [] = some [] := by rw [nameL]
theorem nameL_plain {c : UInt8} (h : (c == 35) = false) (r : List UInt8) : nameL (c :: r) = (nameL r).map (c :: ·) := by
  rw [nameL.eq_def]; simp only [h]; rfl
theorem nameL_pair (x y : UInt8) (r : List UInt8) : nameL (35 :: x :: y :: r) = if hexV x < 0 ∨ hexV y < 0 then none else (nameL r).map (UInt8.ofNat (16 * (hexV x).toNat + (hexV y).toNat) :: ·) := by
  rw [nameL.eq_def]; rfl
theorem nameL_short1 : nameL [35] = none := by rw [nameL.eq_def]; rfl
theorem nameL_short2 (x : UInt8) : nameL [35, x] = none := by rw [nameL.eq_def]; rfl
def isOct (c : UInt8) : Bool := 48 ≤ c.toNat && c.toNat ≤ 55
/-- Up to so many digits to the base 8: how many, and their number. -/
def octN : Nat → List UInt8 → Nat
  | 0, _ => 0
  | _ + 1, [] => 0
  | m + 1, c :: r => if isOct c then octN m r + 1 else 0
def octV : Nat → List UInt8 → Nat → Nat
  | 0, _, n => n
  | _ + 1, [], n => n
  | m + 1, c :: r, n => if isOct c then octV m r (8 * n + (c.toNat - 48)) else n
/-- What stands behind a '\': the bytes that it is, and how many were read; none: there is nothing. -/
def escL : List UInt8 → Option (List UInt8 × Nat)
  | [] => none
  | e :: r =>
    if isOct e then some ([UInt8.ofNat (octV 3 (e :: r) 0 % 256)], octN 3 (e :: r))
    else if e == 110 then some ([10], 1)
    else if e == 114 then some ([13], 1)
    else if e == 116 then some ([9], 1)
    else if e == 98 then some ([8], 1)
    else if e == 102 then some ([12], 1)
    else if e == 10 then some ([], 1)
    else if e == 13 then some ([], if r.head? = some 10 then 2 else 1)
    else some ([e], 1)
def litF : Nat → List UInt8 → Nat → List UInt8 → Nat → Int × List UInt8 × Nat
  | 0, _, _, _, _ => (5, [], 0)
  | _ + 1, [], _, _, _ => (5, [], 0)
  | f + 1, c :: r, deep, b, k =>
    if c == 41 then (if deep = 1 then (0, b, k + 1) else litF f r (deep - 1) (b ++ [c]) (k + 1))
    else if c == 40 then litF f r (deep + 1) (b ++ [c]) (k + 1)
    else if c == 92 then
      match escL r with
      | none => (5, [], 0)
      | some (x, m) => litF f (r.drop m) deep (b ++ x) (k + 1 + m)
    else litF f r deep (b ++ [c]) (k + 1)
theorem octN_le : ∀ (m : Nat) (l : List UInt8), octN m l ≤ l.length ∧ octN m l ≤ m
  | 0, _ => by simp [octN]
  | _ + 1, [] => by simp [octN]
  | m + 1, c :: r => by have := octN_le m r; unfold octN; split <;> simp <;> omega
theorem escL_le {l x : List UInt8} {m : Nat} (h : escL l = some (x, m)) : 1 ≤ m ∧ m ≤ l.length ∧ x.length ≤ 1 := by
  cases l with
  | nil => cases h
  | cons e r =>
    change (if isOct e = true then _ else _) = _ at h
    by_cases h0 : isOct e = true
    · rw [if_pos h0] at h
      simp only [Option.some.injEq, Prod.mk.injEq] at h
      obtain ⟨rfl, rfl⟩ := h
      have := octN_le 3 (e :: r)
      refine ⟨?_, this.1, by simp⟩
      unfold octN; rw [if_pos h0]; omega
    · rw [if_neg h0] at h
      by_cases h13 : (e == 13) = true
      · have e13 : e = 13 := by simpa using h13
        subst e13
        simp only [show ((13 : UInt8) == 110) = false from rfl, show ((13 : UInt8) == 114) = false from rfl, show ((13 : UInt8) == 116) = false from rfl, show ((13 : UInt8) == 98) = false from rfl, show ((13 : UInt8) == 102) = false from rfl, show ((13 : UInt8) == 10) = false from rfl] at h
        simp only [Bool.false_eq_true, if_false, beq_self_eq_true, if_true, Option.some.injEq, Prod.mk.injEq] at h
        obtain ⟨rfl, rfl⟩ := h
        split
        · rename_i hh
          cases r with
          | nil => simp at hh
          | cons a r => simp
        · simp
      · (repeat' split at h) <;> simp_all only [Option.some.injEq, Prod.mk.injEq] <;> (obtain ⟨rfl, rfl⟩ := h; simp)
theorem litF_fuel : ∀ (f g : Nat) (l : List UInt8) (deep : Nat) (b : List UInt8) (k : Nat), l.length ≤ f → l.length ≤ g → litF f l deep b k = litF g l deep b k
  | 0, 0, _, _, _, _, _, _ => rfl
  | 0, g + 1, [], _, _, _, _, _ => rfl
  | f + 1, 0, [], _, _, _, _, _ => rfl
  | f + 1, g + 1, [], _, _, _, _, _ => rfl
  | f + 1, g + 1, c :: r, deep, b, k, hf, hg => by
    simp only [List.length_cons] at hf hg
    unfold litF
    rw [litF_fuel f g r (deep - 1) (b ++ [c]) (k + 1) (by omega) (by omega), litF_fuel f g r (deep + 1) (b ++ [c]) (k + 1) (by omega) (by omega), litF_fuel f g r deep (b ++ [c]) (k + 1) (by omega) (by omega)]
    cases he : escL r with
    | none => rfl
    | some q =>
      obtain ⟨x, m⟩ := q
      simp only
      rw [litF_fuel f g (r.drop m) deep (b ++ x) (k + 1 + m) (by simp; omega) (by simp; omega)]
def litT (l : List UInt8) (deep : Nat) (b : List UInt8) (k : Nat) : Int × List UInt8 × Nat := litF l.length l deep b k
theorem litT_nil (deep : Nat) (b : List UInt8) (k : Nat) : litT [] deep b k = (5, [], 0) := rfl
theorem litT_cons (c : UInt8) (r : List UInt8) (deep : Nat) (b : List UInt8) (k : Nat) : litT (c :: r) deep b k =
    if c == 41 then (if deep = 1 then (0, b, k + 1) else litT r (deep - 1) (b ++ [c]) (k + 1))
    else if c == 40 then litT r (deep + 1) (b ++ [c]) (k + 1)
    else if c == 92 then
      match escL r with
      | none => (5, [], 0)
      | some (x, m) => litT (r.drop m) deep (b ++ x) (k + 1 + m)
    else litT r deep (b ++ [c]) (k + 1) := by
  unfold litT
  rw [List.length_cons, litF]
  cases he : escL r with
  | none => rfl
  | some q =>
    obtain ⟨x, m⟩ := q
    simp only
    rw [litF_fuel r.length (r.drop m).length (r.drop m) deep (b ++ x) (k + 1 + m) (by simp) (Nat.le_refl _)]
end Go.Proofs.YtobpidmlgldnmaaGreatDoor

/-
  Reading: blanks, signs, digits; what is skipped, and words: of the program and of the document's answer.
-/
namespace Go.Proofs.YtobpidmlgldnmaaGreatDoor
open Go.RowKit
set_option maxRecDepth 100000

def isSg (c : UInt8) : Bool := c == 40 || c == 41 || c == 60 || c == 62 || c == 91 || c == 93 || c == 123 || c == 125 || c == 47 || c == 37
/-- How many bytes tell nothing; inside of a note? -/
def skipL : List UInt8 → Bool → Nat
  | [], _ => 0
  | c :: r, note => if !(c == 37 || (note && c != 10 && c != 13)) && !isBl c then 0 else skipL r (c == 37 || (note && c != 10 && c != 13)) + 1
/-- The place of s that is next to at. -/
def place (s : ByteArray) (at_ : Int) : Nat := min at_.toNat s.size
def skipP (s : ByteArray) (k : Nat) : Nat := k + skipL (s.data.toList.drop k) false
def wordL (l : List UInt8) : Nat := (l.takeWhile fun c => !isBl c && !isSg c).length
def wordP (s : ByteArray) (k : Nat) : ByteArray := s.extract k (k + wordL (s.data.toList.drop k))

theorem eq_u8 (c : UInt8) (k : Nat) (hk : k < 256) : ((c.toNat : Int) == (k : Int)) = (c == k.toUInt8) := by
  rw [Bool.eq_iff_iff, beq_iff_eq, beq_iff_eq, ← UInt8.toNat_inj]
  simp only [Nat.toUInt8, UInt8.toNat_ofNat', Nat.mod_eq_of_lt hk]
  omega

theorem pBlank (c : UInt8) (w : World) :
    Calls Tryz.prog 77 #[.int .u8 (c.toNat : Int)] w fun e w' => e = .returned (.bool (isBl c)) ∧ w' = w := by
  go_enter Tryz.func77, Tryz.ntmps77
  go_wp2_with (go_at_call 83; refine (Tryz.strings_IndexByte _ _ _).mono ?_; rintro e w1 ⟨rfl, rfl⟩)
  go_ret
  refine ⟨ret_bool ?_, rfl⟩
  have h := indexByte_neg [0, 9, 10, 12, 13, 32] c
  have e : isBl c = [0, 9, 10, 12, 13, 32].contains c := by simp only [isBl, List.contains_cons, List.contains_nil, Bool.or_false, Bool.or_assoc]
  rw [e]
  rw [Bool.eq_iff_iff, decide_eq_true_iff]
  cases hc : [0, 9, 10, 12, 13, 32].contains c
  · have := h.2 hc
    simp; omega
  · have : ¬ Lib.indexByte [0, 9, 10, 12, 13, 32] c < 0 := fun hh => by rw [h.1 hh] at hc; cases hc
    simp; omega
theorem pSign (c : UInt8) (w : World) :
    Calls Tryz.prog 78 #[.int .u8 (c.toNat : Int)] w fun e w' => e = .returned (.bool (isSg c)) ∧ w' = w := by
  go_enter Tryz.func78, Tryz.ntmps78
  go_wp2_with (go_at_call 83; refine (Tryz.strings_IndexByte _ _ _).mono ?_; rintro e w1 ⟨rfl, rfl⟩)
  go_ret
  refine ⟨ret_bool ?_, rfl⟩
  have h := indexByte_neg [40, 41, 60, 62, 91, 93, 123, 125, 47, 37] c
  have e : isSg c = [40, 41, 60, 62, 91, 93, 123, 125, 47, 37].contains c := by simp only [isSg, List.contains_cons, List.contains_nil, Bool.or_false, Bool.or_assoc]
  rw [e]
  rw [Bool.eq_iff_iff, decide_eq_true_iff]
  cases hc : [40, 41, 60, 62, 91, 93, 123, 125, 47, 37].contains c
  · have := h.2 hc
    simp; omega
  · have : ¬ Lib.indexByte [40, 41, 60, 62, 91, 93, 123, 125, 47, 37] c < 0 := fun hh => by rw [h.1 hh] at hc; cases hc
    simp; omega
theorem pWithin (s : ByteArray) (a : Int) (w : World) (hs : s.size ≤ maxLen) :
    Calls Tryz.prog 76 #[.string s, .int .i64 a] w fun e w' => e = .returned (.int .i64 (place s a)) ∧ w' = w := by
  unfold maxLen at hs
  go_enter Tryz.func76, Tryz.ntmps76
  by_cases h0 : 0 ≤ a
  · by_cases h1 : a ≤ s.size
    · go_wp2
      go_ret
      exact ⟨ret_int (by unfold place; omega), rfl⟩
    · go_wp2
      go_ret
      exact ⟨ret_int (by unfold place; omega), rfl⟩
  · go_wp2
    go_ret
    exact ⟨ret_int (by unfold place; omega), rfl⟩
theorem pHex (c : UInt8) (w : World) :
    Calls Tryz.prog 119 #[.int .u8 (c.toNat : Int)] w fun e w' => e = .returned (.int .i64 (hexV c)) ∧ w' = w := by
  have hc := c.toNat_lt
  generalize hn : (c.toNat : Int) = n
  have h0 : 0 ≤ n := by omega
  have h1 : n < 256 := by omega
  have HV := hid (show hexV c = if 48 ≤ n ∧ n ≤ 57 then n - 48 else if 65 ≤ n ∧ n ≤ 70 then n - 55 else if 97 ≤ n ∧ n ≤ 102 then n - 87 else -1 by
    unfold hexV; subst hn; (repeat' split) <;> omega)
  clear hn hc
  go_enter Tryz.func119, Tryz.ntmps119
  by_cases a1 : 48 ≤ n
  · by_cases a2 : n ≤ 57
    · go_wp2
      go_ret
      exact ⟨ret_int (by rw [HV.out, if_pos ⟨a1, a2⟩]), rfl⟩
    by_cases a3 : 65 ≤ n
    · by_cases a4 : n ≤ 70
      · go_wp2
        go_ret
        exact ⟨ret_int (by rw [HV.out, if_neg (by omega), if_pos ⟨a3, a4⟩]; omega), rfl⟩
      by_cases a5 : 97 ≤ n
      · by_cases a6 : n ≤ 102
        · go_wp2
          go_ret
          exact ⟨ret_int (by rw [HV.out, if_neg (by omega), if_neg (by omega), if_pos ⟨a5, a6⟩]; omega), rfl⟩
        · go_wp2
          go_ret
          exact ⟨ret_int (by rw [HV.out, if_neg (by omega), if_neg (by omega), if_neg (by omega)]), rfl⟩
      · go_wp2
        go_ret
        exact ⟨ret_int (by rw [HV.out, if_neg (by omega), if_neg (by omega), if_neg (by omega)]), rfl⟩
    · have a5 : ¬ 97 ≤ n := by omega
      go_wp2
      go_ret
      exact ⟨ret_int (by rw [HV.out, if_neg (by omega), if_neg (by omega), if_neg (by omega)]), rfl⟩
  · have a3 : ¬ 65 ≤ n := by omega
    have a5 : ¬ 97 ≤ n := by omega
    go_wp2
    go_ret
    exact ⟨ret_int (by rw [HV.out, if_neg (by omega), if_neg (by omega), if_neg (by omega)]), rfl⟩
end Go.Proofs.YtobpidmlgldnmaaGreatDoor
