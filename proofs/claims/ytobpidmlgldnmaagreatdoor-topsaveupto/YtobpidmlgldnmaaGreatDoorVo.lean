/-
  Joined: Vm, Vn, Vo.
-/
import Derived.Test.YtobpidmlgldnmaaGreatDoorFh
import Derived.Test.YtobpidmlgldnmaaGreatDoorFe
import Derived.Test.YtobpidmlgldnmaaGreatDoorYd
import Derived.Test.YtobpidmlgldnmaaGreatDoorRa
import Derived.BigRegion
import Derived.Deep.CutRange
import Derived.Test.YtobpidmlgldnmaaGreatDoorVe

/-
  The document's own texts of strings and names.
-/
namespace Go.Proofs.YtobpidmlgldnmaaGreatDoor
open Go.RowKit
set_option maxRecDepth 100000

/-- A byte in a string's text. -/
def escS (c : UInt8) : List UInt8 := if c = 40 ∨ c = 41 ∨ c = 92 then [92, c] else if 32 ≤ c.toNat ∧ c.toNat < 127 then [c] else [92, UInt8.ofNat (48 + c.toNat / 64), UInt8.ofNat (48 + c.toNat / 8 % 8), UInt8.ofNat (48 + c.toNat % 8)]
def strT (s : List UInt8) : List UInt8 := 40 :: s.flatMap escS ++ [41]
end Go.Proofs.YtobpidmlgldnmaaGreatDoor

/-
  The document's own text of a name.
-/
namespace Go.Proofs.YtobpidmlgldnmaaGreatDoor
open Go.RowKit
set_option maxRecDepth 100000

/-- Signs that stand in a name's text as digits. -/
def hardN (c : UInt8) : Bool := c == 40 || c == 41 || c == 60 || c == 62 || c == 91 || c == 93 || c == 123 || c == 125 || c == 47 || c == 37 || c == 35
/-- A byte in a name's text. -/
def escN (c : UInt8) : List UInt8 := if 32 < c.toNat ∧ c.toNat < 127 ∧ hardN c = false then [c] else [35, hexD (c.toNat / 16), hexD (c.toNat % 16)]
def nameT (s : List UInt8) : List UInt8 := 47 :: s.flatMap escN
end Go.Proofs.YtobpidmlgldnmaaGreatDoor

/-
  A value's text; the document's own.
-/
namespace Go.Proofs.YtobpidmlgldnmaaGreatDoor
open Go.RowKit
set_option maxRecDepth 100000

mutual
/-- The text of a value that may be. -/
def V.txt : V → List UInt8
  | ⟨k, n, s, l, f⟩ =>
    if k = 1 then (if n = 1 then [116, 114, 117, 101] else [102, 97, 108, 115, 101])
    else if k = 2 then (txtB n).data.toList
    else if k = 3 then strT s.data.toList
    else if k = 4 then nameT s.data.toList
    else if k = 5 then 91 :: (sepsL l).drop 1 ++ [93]
    else if k = 6 then 60 :: 60 :: sepsF f ++ [32, 62, 62]
    else if k = 7 then Lib.decDigits (n.toNat % 100) ++ [32, 48, 32, 82]
    else [110, 117, 108, 108]
def sepsL : List V → List UInt8
  | [] => []
  | x :: l => 32 :: V.txt x ++ sepsL l
def sepsF : List (ByteArray × V) → List UInt8
  | [] => []
  | q :: l => 32 :: fieldT q ++ sepsF l
def fieldT : ByteArray × V → List UInt8
  | (n, x) => nameT n.data.toList ++ 32 :: V.txt x
end
end Go.Proofs.YtobpidmlgldnmaaGreatDoor
