/-
  Joined: Fb, Bx, Pt.
-/
import Derived.Test.YtefbfgcbbpmhlabGreatDoorFa
import Derived.Deep.QuietTactic
import Derived.BigQuiet
import Derived.BigRegion
import Derived.Lib.ItoaMem
import Derived.Lib.Bytealg
import Derived.Lib.ItoaLen

/-
  Contracts: is one of some numbers none; products and sums, of the program and of the document's answer.
-/
namespace Go.Proofs.YtefbfgcbbpmhlabGreatDoor
open Go.RowKit
set_option maxRecDepth 100000

def anyBad (zs : List Int) : Bool := zs.any fun z => !okF z
theorem anyBad_take_succ (zs : List Int) (k : Nat) (h : k < zs.length) : anyBad (zs.take (k + 1)) = (anyBad (zs.take k) || !okF zs[k]) := by
  unfold anyBad; rw [List.take_succ_eq_append_getElem h, List.any_append]; simp only [List.any_cons, List.any_nil, Bool.or_false]

theorem anyBad_2 (a b : Int) : anyBad [a, b] = (!okF a || !okF b) := by simp [anyBad]

theorem prod_eq (a b : Int) : (a * b + 0 * 0) / 1000 + 0 = a * b / 1000 := by simp

end Go.Proofs.YtefbfgcbbpmhlabGreatDoor

/-
  Bytes in memory, and as a text: what every walk over them shares.
-/
namespace Go.Proofs.YtefbfgcbbpmhlabGreatDoor
open Go.RowKit
set_option maxRecDepth 100000

theorem bcell1 {W w1 : World} (hb : Below W.heap.size W w1) {b : Nat} {v : Value} (h : W.cell? ⟨b, 0, none⟩ = some v) : w1.cell? ⟨b, 0, none⟩ = some v := cell_later hb h
theorem bel1 {w w' : World} {o : Obj} (hb : Below (w.alloc o).drew.heap.size (w.alloc o).drew w') : Below w.heap.size w w' :=
  ((Below.refl _ _).alloc (Nat.le_refl _) o).drew.trans (hb.mono (by simp))
theorem bel2 {w w' : World} (hb : Below w.drew.heap.size w.drew w') (o : Obj) : Below w.heap.size w (w'.alloc o) :=
  ((Below.refl _ _).drew.trans hb).alloc hb.size o
/-- A byte as a cell. -/
def byteV (b : UInt8) : Value := .int .u8 (b.toNat : Int)
theorem one_new {w : World} {x v : Value} {e : TypeId} (hx : x = v) (j : Nat) (u : Value) (h : [v][j]? = some u) : (w.alloc (.cells #[x] e)).cell? ((⟨w.heap.size, 0, none⟩ : Addr).add j) = some u := by
  subst hx
  match j, h with
  | 0, h => rw [Lib.add_plain, World.cell?_alloc_new]; simpa using h
theorem bytes_of_own {w : World} {b : Nat} {v : Value} {n : Nat} {d : List UInt8} (h : w.ownsRow b 5 1 v n (d.map byteV)) (hn : 0 < n) : ∃ g c, v = .slice (some ⟨g, 0, none⟩) n c ∧ ∀ (k : Nat) (hk : k < d.length), w.cell? ((⟨g, 0, none⟩ : Addr).add k) = some (.int .u8 (d[k].toNat : Int)) := by
  have h0 := h
  obtain ⟨_, ⟨_, h2⟩ | ⟨g, cap, cur, rfl, _⟩⟩ := h
  · omega
  · exact ⟨g, cap, rfl, fun k hk => h0.cells (g := g) rfl k _ (by simp [hk, byteV])⟩
theorem conv_row {w : World} {d : List UInt8} {n g c : Nat} (hn : d.length = n) (hc : ∀ (k : Nat) (hk : k < d.length), w.cell? ((⟨g, 0, none⟩ : Addr).add k) = some (.int .u8 (d[k].toNat : Int))) :
    (convert 149 9 (.slice (some ⟨g, 0, none⟩) n c)).run Tryz.prog w = .ok (.string ⟨d.toArray⟩) w := by
  subst hn
  exact run_convert_bytes_back (P := Tryz.prog) w 149 9 5 ⟨g, 0, none⟩ c d Tryz.underlying149 Tryz.underlying5 Tryz.underlying9 hc
theorem ret_str {a b : ByteArray} (h : a = b) : Ending.returned (.string a) = .returned (.string b) := by rw [h]
theorem info5 : (Tryz.prog.info? 5).map (fun i => (i.zero, i.size, i.bytes)) = some (some (.int .u8 0), 1, 1) := by kernel_rfl
theorem take_snoc (s : ByteArray) (k : Nat) (h : k < s.size) : s.data.toList.take (k + 1) = s.data.toList.take k ++ [s[k]] := by
  rw [List.take_succ_eq_append_getElem (by simpa using h)]; rfl

theorem indexByte_neg : ∀ (l : List UInt8) (c : UInt8), (Lib.indexByte l c < 0 ↔ l.contains c = false)
  | [], c => by simp [Lib.indexByte]
  | a :: l, c => by
    have ih := indexByte_neg l c
    have ge := Lib.indexByte_ge l c
    unfold Lib.indexByte
    rw [List.contains_cons]
    by_cases hac : a = c
    · subst hac; simp
    · rw [if_neg (by simpa using hac), show (c == a) = false from by simpa using fun e => hac e.symm, Bool.false_or, ← ih]
      split
      · rename_i h; simp at h; omega
      · rename_i h; simp at h; omega
end Go.Proofs.YtefbfgcbbpmhlabGreatDoor

/-
  Plain: the text of a number of thousandths, and the digits behind its point.
-/
namespace Go.Proofs.YtefbfgcbbpmhlabGreatDoor
open Go.RowKit

/-- A digit's letter. -/
def dgt (d : Nat) : UInt8 := UInt8.ofNat (48 + d)
/-- The digits behind the point, as many as fuel allows, no noughts behind. -/
def digs : Nat → Nat → List UInt8
  | 0, _ => []
  | f + 1, n => if n = 0 then [] else dgt (n / 100) :: digs f (n % 100 * 10)
def frac (m : Nat) : List UInt8 := if m = 0 then [] else 46 :: digs 3 m
/-- The text of a number. -/
def fixTxt (n : Int) : List UInt8 := (if n < 0 then [45] else []) ++ Lib.decDigits (n.natAbs / 1000) ++ frac (n.natAbs % 1000)

theorem digs_zero (f : Nat) : digs f 0 = [] := by cases f <;> rfl
theorem digs_step (f n : Nat) (h : n ≠ 0) : digs (f + 1) n = dgt (n / 100) :: digs f (n % 100 * 10) := by rw [digs, if_neg h]
theorem frac_pos {m : Nat} (h : m ≠ 0) : frac m = 46 :: digs 3 m := by rw [frac, if_neg h]
/-- Round by round: what was written, and what is left; 'f': how many digits may follow. -/
def Left (m : Nat) (d : List UInt8) (f n : Nat) : Prop := digs 3 m = d ++ digs f n ∧ n < 1000 ∧ f ≤ 3 ∧ d.length + f = 3 ∧ (f = 2 → n % 10 = 0) ∧ (f = 1 → n % 100 = 0) ∧ (f = 0 → n = 0)
theorem left_start (m : Nat) (h : m < 1000) : Left m [] 3 m := ⟨rfl, h, by omega, rfl, by omega, by omega, by omega⟩
theorem left_step {m : Nat} {d : List UInt8} {f n : Nat} (h : Left m d f n) (hn : n ≠ 0) : ∃ g, f = g + 1 ∧ Left m (d ++ [dgt (n / 100)]) g (n % 100 * 10) := by
  obtain ⟨h1, h2, h3, h4, h5, h6, h7⟩ := h
  match f, h3 with
  | 0, _ => exact absurd (h7 rfl) hn
  | g + 1, h3 =>
    refine ⟨g, rfl, ?_, by omega, by omega, by simp; omega, by omega, by omega, ?_⟩
    · rw [h1, digs_step g n hn]; simp
    · intro hg; subst hg; have := h6 rfl; omega
theorem left_end {m : Nat} {d : List UInt8} {f : Nat} (h : Left m d f 0) : digs 3 m = d := by rw [h.1, digs_zero]; simp

theorem ba_append (a b : List UInt8) : (⟨a.toArray⟩ : ByteArray) ++ (⟨b.toArray⟩ : ByteArray) = ⟨(a ++ b).toArray⟩ := by
  apply ByteArray.ext; simp
theorem ba_append3 (a b : List UInt8) : (⟨a.toArray⟩ : ByteArray).append (⟨b.toArray⟩ : ByteArray) = ⟨(a ++ b).toArray⟩ := ba_append a b
theorem dec_big {n : Nat} (h : ¬ n < 10) : Lib.decDigits n = Lib.decDigits (n / 10) ++ [dgt (n % 10)] := by rw [Lib.decDigits, dif_neg h]; rfl
theorem dec_len (n : Nat) (h : n ≤ 9223372036854775807) : ((Lib.decDigits n).length : Int) ≤ 8388608 := by
  have := Lib.itoa_length_le n (by omega) (by omega)
  rw [Lib.itoa_nonneg] at this; omega
end Go.Proofs.YtefbfgcbbpmhlabGreatDoor
