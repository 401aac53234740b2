/-
  Bytes in memory, and as a text: what every walk over them shares.
-/
import Derived.Test.YtogdfjkbkhnobaaFa
import Derived.BigRegion
import Derived.Lib.ItoaMem
import Derived.Lib.Bytealg
namespace Go.Proofs.Ytogdfjkbkhnobaa
open Go.RowKit
set_option maxRecDepth 100000

theorem bcell1 {W w1 : World} (hb : Below W.heap.size W w1) {b : Nat} {v : Value} (h : W.cell? ⟨b, 0, none⟩ = some v) : w1.cell? ⟨b, 0, none⟩ = some v := cell_later hb h
theorem bel1 {w w' : World} {o : Obj} (hb : Below (w.alloc o).drew.heap.size (w.alloc o).drew w') : Below w.heap.size w w' :=
  ((Below.refl _ _).alloc (Nat.le_refl _) o).drew.trans (hb.mono (by simp))
theorem bel2 {w w' : World} (hb : Below w.drew.heap.size w.drew w') (o : Obj) : Below w.heap.size w (w'.alloc o) :=
  ((Below.refl _ _).drew.trans hb).alloc hb.size o
/-- A byte as a cell. -/
def byteV (b : UInt8) : Value := .int .u8 (b.toNat : Int)
theorem one_new {w : World} {x v : Value} {e : TypeId} (hx : x = v) (j : Nat) (u : Value) (h : [v][j]? = some u) : (w.alloc (.cells #[x] e)).cell? ((⟨w.heap.size, 0, none⟩ : Addr).add j) = some u := by
  subst hx
  match j, h with
  | 0, h => rw [Lib.add_plain, World.cell?_alloc_new]; simpa using h
theorem bytes_of_own {w : World} {b : Nat} {v : Value} {n : Nat} {d : List UInt8} (h : w.ownsRow b 5 1 v n (d.map byteV)) (hn : 0 < n) : ∃ g c, v = .slice (some ⟨g, 0, none⟩) n c ∧ ∀ (k : Nat) (hk : k < d.length), w.cell? ((⟨g, 0, none⟩ : Addr).add k) = some (.int .u8 (d[k].toNat : Int)) := by
  have h0 := h
  obtain ⟨_, ⟨_, h2⟩ | ⟨g, cap, cur, rfl, _⟩⟩ := h
  · omega
  · exact ⟨g, cap, rfl, fun k hk => h0.cells (g := g) rfl k _ (by simp [hk, byteV])⟩
theorem ret_str {a b : ByteArray} (h : a = b) : Ending.returned (.string a) = .returned (.string b) := by rw [h]
theorem info5 : (Try.prog.info? 5).map (fun i => (i.zero, i.size, i.bytes)) = some (some (.int .u8 0), 1, 1) := by kernel_rfl
theorem take_snoc (s : ByteArray) (k : Nat) (h : k < s.size) : s.data.toList.take (k + 1) = s.data.toList.take k ++ [s[k]] := by
  rw [List.take_succ_eq_append_getElem (by simpa using h)]; rfl

theorem indexByte_neg : ∀ (l : List UInt8) (c : UInt8), (Lib.indexByte l c < 0 ↔ l.contains c = false)
  | [], c => by simp [Lib.indexByte]
  | a :: l, c => by
    have ih := indexByte_neg l c
    have ge := Lib.indexByte_ge l c
    unfold Lib.indexByte
    rw [List.contains_cons]
    by_cases hac : a = c
    · subst hac; simp
    · rw [if_neg (by simpa using hac), show (c == a) = false from by simpa using fun e => hac e.symm, Bool.false_or, ← ih]
      split
      · rename_i h; simp at h; omega
      · rename_i h; simp at h; omega
end Go.Proofs.Ytogdfjkbkhnobaa
