/-
  Joined: Pg, Vm, Vn.
-/
import Derived.Test.YtflcibmjblioaaaGreatDoorPc
import Derived.Test.YtflcibmjblioaaaGreatDoorZg
import Derived.Test.YtflcibmjblioaaaGreatDoorMh
import Derived.Test.YtflcibmjblioaaaGreatDoorPq
import Derived.Test.YtflcibmjblioaaaGreatDoorFe
import Derived.Test.YtflcibmjblioaaaGreatDoorYc
import Derived.Test.YtflcibmjblioaaaGreatDoorPa
import Derived.BigRegion
import Derived.Deep.CutRange

/-
  Reading, plainly: what stands behind a value, parted by a blank, tells nothing.
-/
namespace Go.Proofs.YtflcibmjblioaaaGreatDoor
open Go.RowKit
set_option maxRecDepth 100000

section
variable {k : Nat} {s t : ByteArray}
/-- What may be looked at behind a number is the same. -/
theorem Upto.ref (h : Upto k s t) {z : Nat} (h1 : skipP s z < k) (h2 : skipP s z + (wordP s (skipP s z)).size ≤ k)
    (h3 : wordP s (skipP s z) = w0 → skipP s (skipP s z + 1) < k ∧ skipP s (skipP s z + 1) + (wordP s (skipP s (skipP s z + 1))).size ≤ k) : refP t z = refP s z := by
  unfold refP
  rw [h.skip h1, h.word (Nat.le_of_lt h1) h2]
  by_cases e : wordP s (skipP s z) = w0
  · obtain ⟨a, b⟩ := h3 e
    rw [if_pos e, if_pos e, h.skip a, h.word (Nat.le_of_lt a) b]
  · rw [if_neg e, if_neg e]
variable {f g : Nat → Rd}
end
end Go.Proofs.YtflcibmjblioaaaGreatDoor

/-
  The document's own texts of strings and names.
-/
namespace Go.Proofs.YtflcibmjblioaaaGreatDoor
open Go.RowKit
set_option maxRecDepth 100000

/-- A byte in a string's text. -/
def escS (c : UInt8) : List UInt8 := if c = 40 ∨ c = 41 ∨ c = 92 then [92, c] else if 32 ≤ c.toNat ∧ c.toNat < 127 then [c] else [92, UInt8.ofNat (48 + c.toNat / 64), UInt8.ofNat (48 + c.toNat / 8 % 8), UInt8.ofNat (48 + c.toNat % 8)]
def strT (s : List UInt8) : List UInt8 := 40 :: s.flatMap escS ++ [41]
theorem escS_len (c : UInt8) : (escS c).length ≤ 4 := by
  unfold escS; split
  · simp
  · split <;> simp
theorem flat_len (l : List UInt8) : (l.flatMap escS).length ≤ 4 * l.length := by
  induction l with
  | nil => simp
  | cons c l ih => have := escS_len c; rw [List.flatMap_cons, List.length_append, List.length_cons]; omega
theorem u8_of {c : UInt8} {k : UInt8} (h : (c.toNat : Int) = (k.toNat : Int)) : c = k := UInt8.toNat_inj.1 (by omega)

end Go.Proofs.YtflcibmjblioaaaGreatDoor

/-
  The document's own text of a name.
-/
namespace Go.Proofs.YtflcibmjblioaaaGreatDoor
open Go.RowKit
set_option maxRecDepth 100000

/-- Signs that stand in a name's text as digits. -/
def hardN (c : UInt8) : Bool := c == 40 || c == 41 || c == 60 || c == 62 || c == 91 || c == 93 || c == 123 || c == 125 || c == 47 || c == 37 || c == 35
/-- A byte in a name's text. -/
def escN (c : UInt8) : List UInt8 := if 32 < c.toNat ∧ c.toNat < 127 ∧ hardN c = false then [c] else [35, hexD (c.toNat / 16), hexD (c.toNat % 16)]
def nameT (s : List UInt8) : List UInt8 := 47 :: s.flatMap escN
theorem escN_len (c : UInt8) : (escN c).length ≤ 3 := by
  unfold escN; split <;> simp
theorem flatN_len (l : List UInt8) : (l.flatMap escN).length ≤ 3 * l.length := by
  induction l with
  | nil => simp
  | cons c l ih => have := escN_len c; rw [List.flatMap_cons, List.length_append, List.length_cons]; omega

theorem hexD_tbl (a : Nat) (h : a < 16) : (⟨#[48, 49, 50, 51, 52, 53, 54, 55, 56, 57, 65, 66, 67, 68, 69, 70]⟩ : ByteArray)[a]'h = hexD a := by
  have : ∀ x : Fin 16, (⟨#[48, 49, 50, 51, 52, 53, 54, 55, 56, 57, 65, 66, 67, 68, 69, 70]⟩ : ByteArray)[x.1]'x.2 = hexD x.1 := by decide
  exact this ⟨a, h⟩
end Go.Proofs.YtflcibmjblioaaaGreatDoor
