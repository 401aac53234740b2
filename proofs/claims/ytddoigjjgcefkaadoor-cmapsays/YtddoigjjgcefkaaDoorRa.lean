/-
  Reading: blanks, signs, digits; what is skipped, and words: of the program and of the document's answer.
-/
import Derived.Test.YtddoigjjgcefkaaDoorBx
import Derived.Test.YtddoigjjgcefkaaDoorShelf
import Derived.PlainAid
import Derived.Test.YtddoigjjgcefkaaDoorQa
namespace Go.Proofs.YtddoigjjgcefkaaDoor
open Go.RowKit
set_option maxRecDepth 100000

def isSg (c : UInt8) : Bool := c == 40 || c == 41 || c == 60 || c == 62 || c == 91 || c == 93 || c == 123 || c == 125 || c == 47 || c == 37
/-- How many bytes tell nothing; inside of a note? -/
def skipL : List UInt8 → Bool → Nat
  | [], _ => 0
  | c :: r, note => if !(c == 37 || (note && c != 10 && c != 13)) && !isBl c then 0 else skipL r (c == 37 || (note && c != 10 && c != 13)) + 1
/-- The place of s that is next to at. -/
def place (s : ByteArray) (at_ : Int) : Nat := min at_.toNat s.size
def skipP (s : ByteArray) (k : Nat) : Nat := k + skipL (s.data.toList.drop k) false
def wordL (l : List UInt8) : Nat := (l.takeWhile fun c => !isBl c && !isSg c).length
def wordP (s : ByteArray) (k : Nat) : ByteArray := s.extract k (k + wordL (s.data.toList.drop k))

theorem u8_back (c : UInt8) : ((c.toNat : Int).toNat).toUInt8 = c := by simp
theorem eq_u8 (c : UInt8) (k : Nat) (hk : k < 256) : ((c.toNat : Int) == (k : Int)) = (c == k.toUInt8) := by
  rw [Bool.eq_iff_iff, beq_iff_eq, beq_iff_eq, ← UInt8.toNat_inj]
  simp only [Nat.toUInt8, UInt8.toNat_ofNat', Nat.mod_eq_of_lt hk]
  omega

theorem pBlank (c : UInt8) (w : World) :
    Calls Tryd.prog 168 #[.int .u8 (c.toNat : Int)] w fun e w' => e = .returned (.bool (isBl c)) ∧ w' = w := by
  go_enter Tryd.func168, Tryd.ntmps168
  go_wp2_with (go_at_call 81; refine (Tryd.strings_IndexByte _ _ _).mono ?_; rintro e w1 ⟨rfl, rfl⟩)
  go_ret
  refine ⟨ret_bool ?_, rfl⟩
  have h := indexByte_neg [0, 9, 10, 12, 13, 32] c
  have e : isBl c = [0, 9, 10, 12, 13, 32].contains c := by simp only [isBl, List.contains_cons, List.contains_nil, Bool.or_false, Bool.or_assoc]
  rw [e]
  rw [Bool.eq_iff_iff, decide_eq_true_iff]
  cases hc : [0, 9, 10, 12, 13, 32].contains c
  · have := h.2 hc
    simp; omega
  · have : ¬ Lib.indexByte [0, 9, 10, 12, 13, 32] c < 0 := fun hh => by rw [h.1 hh] at hc; cases hc
    simp; omega
theorem pSign (c : UInt8) (w : World) :
    Calls Tryd.prog 169 #[.int .u8 (c.toNat : Int)] w fun e w' => e = .returned (.bool (isSg c)) ∧ w' = w := by
  go_enter Tryd.func169, Tryd.ntmps169
  go_wp2_with (go_at_call 81; refine (Tryd.strings_IndexByte _ _ _).mono ?_; rintro e w1 ⟨rfl, rfl⟩)
  go_ret
  refine ⟨ret_bool ?_, rfl⟩
  have h := indexByte_neg [40, 41, 60, 62, 91, 93, 123, 125, 47, 37] c
  have e : isSg c = [40, 41, 60, 62, 91, 93, 123, 125, 47, 37].contains c := by simp only [isSg, List.contains_cons, List.contains_nil, Bool.or_false, Bool.or_assoc]
  rw [e]
  rw [Bool.eq_iff_iff, decide_eq_true_iff]
  cases hc : [40, 41, 60, 62, 91, 93, 123, 125, 47, 37].contains c
  · have := h.2 hc
    simp; omega
  · have : ¬ Lib.indexByte [40, 41, 60, 62, 91, 93, 123, 125, 47, 37] c < 0 := fun hh => by rw [h.1 hh] at hc; cases hc
    simp; omega
theorem pWithin (s : ByteArray) (a : Int) (w : World) (hs : s.size ≤ maxLen) :
    Calls Tryd.prog 167 #[.string s, .int .i64 a] w fun e w' => e = .returned (.int .i64 (place s a)) ∧ w' = w := by
  unfold maxLen at hs
  go_enter Tryd.func167, Tryd.ntmps167
  by_cases h0 : 0 ≤ a
  · by_cases h1 : a ≤ s.size
    · go_wp2
      go_ret
      exact ⟨ret_int (by unfold place; omega), rfl⟩
    · go_wp2
      go_ret
      exact ⟨ret_int (by unfold place; omega), rfl⟩
  · go_wp2
    go_ret
    exact ⟨ret_int (by unfold place; omega), rfl⟩
theorem pHex (c : UInt8) (w : World) :
    Calls Tryd.prog 172 #[.int .u8 (c.toNat : Int)] w fun e w' => e = .returned (.int .i64 (hexV c)) ∧ w' = w := by
  have hc := c.toNat_lt
  generalize hn : (c.toNat : Int) = n
  have h0 : 0 ≤ n := by omega
  have h1 : n < 256 := by omega
  have HV := hid (show hexV c = if 48 ≤ n ∧ n ≤ 57 then n - 48 else if 65 ≤ n ∧ n ≤ 70 then n - 55 else if 97 ≤ n ∧ n ≤ 102 then n - 87 else -1 by
    unfold hexV; subst hn; (repeat' split) <;> omega)
  clear hn hc
  go_enter Tryd.func172, Tryd.ntmps172
  by_cases a1 : 48 ≤ n
  · by_cases a2 : n ≤ 57
    · go_wp2
      go_ret
      exact ⟨ret_int (by rw [HV.out, if_pos ⟨a1, a2⟩]), rfl⟩
    by_cases a3 : 65 ≤ n
    · by_cases a4 : n ≤ 70
      · go_wp2
        go_ret
        exact ⟨ret_int (by rw [HV.out, if_neg (by omega), if_pos ⟨a3, a4⟩]; omega), rfl⟩
      by_cases a5 : 97 ≤ n
      · by_cases a6 : n ≤ 102
        · go_wp2
          go_ret
          exact ⟨ret_int (by rw [HV.out, if_neg (by omega), if_neg (by omega), if_pos ⟨a5, a6⟩]; omega), rfl⟩
        · go_wp2
          go_ret
          exact ⟨ret_int (by rw [HV.out, if_neg (by omega), if_neg (by omega), if_neg (by omega)]), rfl⟩
      · go_wp2
        go_ret
        exact ⟨ret_int (by rw [HV.out, if_neg (by omega), if_neg (by omega), if_neg (by omega)]), rfl⟩
    · have a5 : ¬ 97 ≤ n := by omega
      go_wp2
      go_ret
      exact ⟨ret_int (by rw [HV.out, if_neg (by omega), if_neg (by omega), if_neg (by omega)]), rfl⟩
  · have a3 : ¬ 65 ≤ n := by omega
    have a5 : ¬ 97 ≤ n := by omega
    go_wp2
    go_ret
    exact ⟨ret_int (by rw [HV.out, if_neg (by omega), if_neg (by omega), if_neg (by omega)]), rfl⟩
end Go.Proofs.YtddoigjjgcefkaaDoor
