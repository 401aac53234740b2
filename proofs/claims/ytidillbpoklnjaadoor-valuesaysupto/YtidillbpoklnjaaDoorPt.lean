/-
  Plain: the text of a number of thousandths, and the digits behind its point.
-/
import Derived.Test.YtidillbpoklnjaaDoorPl
import Derived.Lib.ItoaMem
import Derived.Lib.ItoaLen
namespace Go.Proofs.YtidillbpoklnjaaDoor
open Go.RowKit

/-- A digit's letter. -/
def dgt (d : Nat) : UInt8 := UInt8.ofNat (48 + d)
/-- The digits behind the point, as many as fuel allows, no noughts behind. -/
def digs : Nat → Nat → List UInt8
  | 0, _ => []
  | f + 1, n => if n = 0 then [] else dgt (n / 100) :: digs f (n % 100 * 10)
def frac (m : Nat) : List UInt8 := if m = 0 then [] else 46 :: digs 3 m
/-- The text of a number. -/
def fixTxt (n : Int) : List UInt8 := (if n < 0 then [45] else []) ++ Lib.decDigits (n.natAbs / 1000) ++ frac (n.natAbs % 1000)

theorem digs_zero (f : Nat) : digs f 0 = [] := by cases f <;> rfl
theorem digs_step (f n : Nat) (h : n ≠ 0) : digs (f + 1) n = dgt (n / 100) :: digs f (n % 100 * 10) := by rw [digs, if_neg h]
theorem frac_pos {m : Nat} (h : m ≠ 0) : frac m = 46 :: digs 3 m := by rw [frac, if_neg h]
/-- Round by round: what was written, and what is left; 'f': how many digits may follow. -/
def Left (m : Nat) (d : List UInt8) (f n : Nat) : Prop := digs 3 m = d ++ digs f n ∧ n < 1000 ∧ f ≤ 3 ∧ d.length + f = 3 ∧ (f = 2 → n % 10 = 0) ∧ (f = 1 → n % 100 = 0) ∧ (f = 0 → n = 0)
theorem left_start (m : Nat) (h : m < 1000) : Left m [] 3 m := ⟨rfl, h, by omega, rfl, by omega, by omega, by omega⟩
theorem left_step {m : Nat} {d : List UInt8} {f n : Nat} (h : Left m d f n) (hn : n ≠ 0) : ∃ g, f = g + 1 ∧ Left m (d ++ [dgt (n / 100)]) g (n % 100 * 10) := by
  obtain ⟨h1, h2, h3, h4, h5, h6, h7⟩ := h
  match f, h3 with
  | 0, _ => exact absurd (h7 rfl) hn
  | g + 1, h3 =>
    refine ⟨g, rfl, ?_, by omega, by omega, by simp; omega, by omega, by omega, ?_⟩
    · rw [h1, digs_step g n hn]; simp
    · intro hg; subst hg; have := h6 rfl; omega
theorem left_end {m : Nat} {d : List UInt8} {f : Nat} (h : Left m d f 0) : digs 3 m = d := by rw [h.1, digs_zero]; simp

theorem ba_append (a b : List UInt8) : (⟨a.toArray⟩ : ByteArray) ++ (⟨b.toArray⟩ : ByteArray) = ⟨(a ++ b).toArray⟩ := by
  apply ByteArray.ext; simp
theorem ba_append3 (a b : List UInt8) : (⟨a.toArray⟩ : ByteArray).append (⟨b.toArray⟩ : ByteArray) = ⟨(a ++ b).toArray⟩ := ba_append a b
theorem dec_big {n : Nat} (h : ¬ n < 10) : Lib.decDigits n = Lib.decDigits (n / 10) ++ [dgt (n % 10)] := by rw [Lib.decDigits, dif_neg h]; rfl
theorem dec_len (n : Nat) (h : n ≤ 9223372036854775807) : ((Lib.decDigits n).length : Int) ≤ 8388608 := by
  have := Lib.itoa_length_le n (by omega) (by omega)
  rw [Lib.itoa_nonneg] at this; omega
end Go.Proofs.YtidillbpoklnjaaDoor
