/-
  Joined: Tf, Fs, Vm.
-/
import Derived.Test.YtddoigjjgcefkaaGreatDoorRd
import Derived.Test.YtddoigjjgcefkaaGreatDoorRf
import Derived.Test.YtddoigjjgcefkaaGreatDoorYc

/-
  The walks of the law TopFix, for every two numbers.
-/
namespace Go.Proofs.YtddoigjjgcefkaaGreatDoor
open Go.RowKit
set_option maxRecDepth 100000

theorem txt1250 : txtB 1250 = ⟨#[49, 46, 50, 53]⟩ := by rw [txtB_ok rfl, text_1250]
theorem chain2 {a b c : World} (h1 : Below a.heap.size a b) (h2 : Below b.heap.size b c) : Below a.heap.size a c := h1.trans (h2.mono h1.size)
theorem chain4 {a b c d e : World} (h1 : Below a.heap.size a b) (h2 : Below b.heap.size b c) (h3 : Below c.heap.size c d) (h4 : Below d.heap.size d e) : Below a.heap.size a e := chain2 (chain2 (chain2 h1 h2) h3) h4
theorem err1250 : errN (flt 1250) = .nilIface := rfl
theorem errBad {a : Int} (h : okF a = false) : errN (flt a) = .iface 44 (.int .i64 1) := by rw [flt_bad h]; rfl
theorem errOk {a : Int} (h : okF a = true) : errN (flt a) = .nilIface := by rw [flt_ok h]; rfl

theorem chain6 {a b c d e f g : World} (h1 : Below a.heap.size a b) (h2 : Below b.heap.size b c) (h3 : Below c.heap.size c d) (h4 : Below d.heap.size d e) (h5 : Below e.heap.size e f) (h6 : Below f.heap.size f g) : Below a.heap.size a g := chain2 (chain4 h1 h2 h3 h4) (chain2 h5 h6)

end Go.Proofs.YtddoigjjgcefkaaGreatDoor

/-
  The walks of the law FixSays, for every two numbers and every text.
-/
namespace Go.Proofs.YtddoigjjgcefkaaGreatDoor
open Go.RowKit
set_option maxRecDepth 100000

theorem parseE_nn (l : List UInt8) : 0 ≤ parseE l := by unfold parseE; split <;> (try split) <;> omega
theorem addE_01 (a b : Int) : 0 ≤ addE a b ∧ addE a b ≤ 1 := by unfold addE; split <;> omega
theorem okm1500 : okF (-1500) = true := rfl
theorem txtm1500 : txtB (-1500) = ⟨#[45, 49, 46, 53]⟩ := by rw [txtB_ok rfl, text_m1500]
theorem fltm1500 : flt (-1500) = 0 := rfl

theorem chain5 {a b c d e f : World} (h1 : Below a.heap.size a b) (h2 : Below b.heap.size b c) (h3 : Below c.heap.size c d) (h4 : Below d.heap.size d e) (h5 : Below e.heap.size e f) : Below a.heap.size a f := chain2 (chain4 h1 h2 h3 h4) h5
end Go.Proofs.YtddoigjjgcefkaaGreatDoor

/-
  The document's own texts of strings and names.
-/
namespace Go.Proofs.YtddoigjjgcefkaaGreatDoor
open Go.RowKit
set_option maxRecDepth 100000

/-- A byte in a string's text. -/
def escS (c : UInt8) : List UInt8 := if c = 40 ∨ c = 41 ∨ c = 92 then [92, c] else if 32 ≤ c.toNat ∧ c.toNat < 127 then [c] else [92, UInt8.ofNat (48 + c.toNat / 64), UInt8.ofNat (48 + c.toNat / 8 % 8), UInt8.ofNat (48 + c.toNat % 8)]
def strT (s : List UInt8) : List UInt8 := 40 :: s.flatMap escS ++ [41]
theorem conv_new {W : World} {xs : List UInt8} {cells : Array Value} {n c : Nat} {t : TypeId} (hc : cells = (xs.map byteV).toArray) (hn : xs.length = n) :
    (convert 56 9 (.slice (some ⟨W.heap.size, 0, none⟩) n c)).run Tryz.prog (W.alloc (.cells cells t)) = .ok (.string ⟨xs.toArray⟩) (W.alloc (.cells cells t)) := by
  subst hc
  refine conv_row hn fun k hk => ?_
  rw [Lib.add_plain, World.cell?_alloc_new]
  simp [hk, byteV]
theorem escS_len (c : UInt8) : (escS c).length ≤ 4 := by
  unfold escS; split
  · simp
  · split <;> simp
theorem flat_len (l : List UInt8) : (l.flatMap escS).length ≤ 4 * l.length := by
  induction l with
  | nil => simp
  | cons c l ih => have := escS_len c; rw [List.flatMap_cons, List.length_append, List.length_cons]; omega
theorem u8_of {c : UInt8} {k : UInt8} (h : (c.toNat : Int) = (k.toNat : Int)) : c = k := UInt8.toNat_inj.1 (by omega)

theorem add_big {x y z : List UInt8} (hx : x.length ≤ 1000000) (hy : y.length ≤ 1000000) (hz : z = x ++ y) (w : World) : (Op.stringOp .add ⟨x.toArray⟩ ⟨y.toArray⟩).run Tryz.prog w = .ok (.string ⟨z.toArray⟩) w := by
  rw [hz]; exact run_string_add_lists w x y (by omega) (by omega)
end Go.Proofs.YtddoigjjgcefkaaGreatDoor
