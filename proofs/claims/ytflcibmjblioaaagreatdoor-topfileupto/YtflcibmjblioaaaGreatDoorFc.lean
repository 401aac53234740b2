/-
  Joined: Bx, Pt, Fc.
-/
import Derived.Test.YtflcibmjblioaaaGreatDoorFa
import Derived.BigRegion
import Derived.Lib.ItoaMem
import Derived.Lib.Bytealg
import Derived.Lib.ItoaLen
import Derived.Test.YtflcibmjblioaaaGreatDoorShelf
import Derived.Deep.QuietTactic
import Derived.BigQuiet

/-
  Bytes in memory, and as a text: what every walk over them shares.
-/
namespace Go.Proofs.YtflcibmjblioaaaGreatDoor
open Go.RowKit
set_option maxRecDepth 100000

/-- A byte as a cell. -/
def byteV (b : UInt8) : Value := .int .u8 (b.toNat : Int)
theorem one_new {w : World} {x v : Value} {e : TypeId} (hx : x = v) (j : Nat) (u : Value) (h : [v][j]? = some u) : (w.alloc (.cells #[x] e)).cell? ((⟨w.heap.size, 0, none⟩ : Addr).add j) = some u := by
  subst hx
  match j, h with
  | 0, h => rw [Lib.add_plain, World.cell?_alloc_new]; simpa using h
theorem bytes_of_own {w : World} {b : Nat} {v : Value} {n : Nat} {d : List UInt8} (h : w.ownsRow b 5 1 v n (d.map byteV)) (hn : 0 < n) : ∃ g c, v = .slice (some ⟨g, 0, none⟩) n c ∧ ∀ (k : Nat) (hk : k < d.length), w.cell? ((⟨g, 0, none⟩ : Addr).add k) = some (.int .u8 (d[k].toNat : Int)) := by
  have h0 := h
  obtain ⟨_, ⟨_, h2⟩ | ⟨g, cap, cur, rfl, _⟩⟩ := h
  · omega
  · exact ⟨g, cap, rfl, fun k hk => h0.cells (g := g) rfl k _ (by simp [hk, byteV])⟩
theorem conv_row {w : World} {d : List UInt8} {n g c : Nat} (hn : d.length = n) (hc : ∀ (k : Nat) (hk : k < d.length), w.cell? ((⟨g, 0, none⟩ : Addr).add k) = some (.int .u8 (d[k].toNat : Int))) :
    (convert 81 9 (.slice (some ⟨g, 0, none⟩) n c)).run Tryz.prog w = .ok (.string ⟨d.toArray⟩) w := by
  subst hn
  exact run_convert_bytes_back (P := Tryz.prog) w 81 9 5 ⟨g, 0, none⟩ c d Tryz.underlying81 Tryz.underlying5 Tryz.underlying9 hc
theorem ret_str {a b : ByteArray} (h : a = b) : Ending.returned (.string a) = .returned (.string b) := by rw [h]
theorem info5 : (Tryz.prog.info? 5).map (fun i => (i.zero, i.size, i.bytes)) = some (some (.int .u8 0), 1, 1) := by kernel_rfl
theorem take_snoc (s : ByteArray) (k : Nat) (h : k < s.size) : s.data.toList.take (k + 1) = s.data.toList.take k ++ [s[k]] := by
  rw [List.take_succ_eq_append_getElem (by simpa using h)]; rfl

theorem indexByte_neg : ∀ (l : List UInt8) (c : UInt8), (Lib.indexByte l c < 0 ↔ l.contains c = false)
  | [], c => by simp [Lib.indexByte]
  | a :: l, c => by
    have ih := indexByte_neg l c
    have ge := Lib.indexByte_ge l c
    unfold Lib.indexByte
    rw [List.contains_cons]
    by_cases hac : a = c
    · subst hac; simp
    · rw [if_neg (by simpa using hac), show (c == a) = false from by simpa using fun e => hac e.symm, Bool.false_or, ← ih]
      split
      · rename_i h; simp at h; omega
      · rename_i h; simp at h; omega
end Go.Proofs.YtflcibmjblioaaaGreatDoor

/-
  Plain: the text of a number of thousandths, and the digits behind its point.
-/
namespace Go.Proofs.YtflcibmjblioaaaGreatDoor
open Go.RowKit

/-- A digit's letter. -/
def dgt (d : Nat) : UInt8 := UInt8.ofNat (48 + d)
/-- The digits behind the point, as many as fuel allows, no noughts behind. -/
def digs : Nat → Nat → List UInt8
  | 0, _ => []
  | f + 1, n => if n = 0 then [] else dgt (n / 100) :: digs f (n % 100 * 10)
def frac (m : Nat) : List UInt8 := if m = 0 then [] else 46 :: digs 3 m
/-- The text of a number. -/
def fixTxt (n : Int) : List UInt8 := (if n < 0 then [45] else []) ++ Lib.decDigits (n.natAbs / 1000) ++ frac (n.natAbs % 1000)

theorem digs_zero (f : Nat) : digs f 0 = [] := by cases f <;> rfl
theorem digs_step (f n : Nat) (h : n ≠ 0) : digs (f + 1) n = dgt (n / 100) :: digs f (n % 100 * 10) := by rw [digs, if_neg h]
theorem frac_pos {m : Nat} (h : m ≠ 0) : frac m = 46 :: digs 3 m := by rw [frac, if_neg h]
/-- Round by round: what was written, and what is left; 'f': how many digits may follow. -/
def Left (m : Nat) (d : List UInt8) (f n : Nat) : Prop := digs 3 m = d ++ digs f n ∧ n < 1000 ∧ f ≤ 3 ∧ d.length + f = 3 ∧ (f = 2 → n % 10 = 0) ∧ (f = 1 → n % 100 = 0) ∧ (f = 0 → n = 0)
theorem left_start (m : Nat) (h : m < 1000) : Left m [] 3 m := ⟨rfl, h, by omega, rfl, by omega, by omega, by omega⟩
theorem left_step {m : Nat} {d : List UInt8} {f n : Nat} (h : Left m d f n) (hn : n ≠ 0) : ∃ g, f = g + 1 ∧ Left m (d ++ [dgt (n / 100)]) g (n % 100 * 10) := by
  obtain ⟨h1, h2, h3, h4, h5, h6, h7⟩ := h
  match f, h3 with
  | 0, _ => exact absurd (h7 rfl) hn
  | g + 1, h3 =>
    refine ⟨g, rfl, ?_, by omega, by omega, by simp; omega, by omega, by omega, ?_⟩
    · rw [h1, digs_step g n hn]; simp
    · intro hg; subst hg; have := h6 rfl; omega
theorem left_end {m : Nat} {d : List UInt8} {f : Nat} (h : Left m d f 0) : digs 3 m = d := by rw [h.1, digs_zero]; simp

theorem ba_append (a b : List UInt8) : (⟨a.toArray⟩ : ByteArray) ++ (⟨b.toArray⟩ : ByteArray) = ⟨(a ++ b).toArray⟩ := by
  apply ByteArray.ext; simp
theorem dec_big {n : Nat} (h : ¬ n < 10) : Lib.decDigits n = Lib.decDigits (n / 10) ++ [dgt (n % 10)] := by rw [Lib.decDigits, dif_neg h]; rfl
end Go.Proofs.YtflcibmjblioaaaGreatDoor

/-
  Contracts: the texts of numbers, of the program and of the document's answer.
-/
namespace Go.Proofs.YtflcibmjblioaaaGreatDoor
open Go.RowKit
set_option maxRecDepth 100000

theorem dgt_toNat {d : Nat} (h : d < 10) : (dgt d).toNat = 48 + d := by simp [dgt]; omega
theorem dig_cell {n : Nat} (h : n < 1000) : Value.int .u8 (48 + (n : Int) * 10 / 1000) = byteV (dgt (n / 100)) := by
  unfold byteV; rw [dgt_toNat (by omega)]; congr 1; omega
set_option maxHeartbeats 400000 in
theorem fraction_zero (w : World) :
    Calls Tryz.prog 160 #[.int .i64 0] w fun e w' => e = .returned (.string ⟨#[]⟩) ∧ w' = w := by
  go_enter Tryz.func160, Tryz.ntmps160
  go_wp2
  go_ret
  exact ⟨rfl, rfl⟩
set_option maxHeartbeats 400000 in
theorem fraction_pos (m : Nat) (w : World) (h0 : m ≠ 0) (h : m < 1000) :
    Calls Tryz.prog 160 #[.int .i64 m] w fun e w' => e = .returned (.string ⟨(frac m).toArray⟩) ∧ Below w.heap.size w w' := by
  obtain ⟨i0, hi, hz0, hz1, hz2⟩ := info_parts info5
  have hm0 : ((m : Int) == 0) = false := by simp; omega
  go_enter Tryz.func160, Tryz.ntmps160
  go_wp2
  go_loopw [0, 3, 7] (fun t v i wr => ∃ (n k : Nat) (d : List UInt8), Left m d (3 - k) n ∧ t = .int .i64 n ∧ i = .int .i64 k ∧ k ≤ 3 ∧ d.length = k ∧ wr.ownsRow w.heap.size 5 1 v (k + 1) ((46 :: d).map byteV) ∧ Below w.heap.size w wr) (fun _ _ i _ => 3 - (intOf i).toNat)
  case atStart => exact ⟨m, 0, [], left_start m h, rfl, rfl, by omega, rfl, World.ownsRow_lit w #[.int .u8 46] 1 (Nat.le_refl _) (by decide) rfl, (Below.refl _ _).alloc (Nat.le_refl _) _⟩
  case round =>
    obtain ⟨n, k, d, hL, rfl, rfl, hk, hd, hown, hb⟩ := hrel
    by_cases hgo : k < 3 ∧ n ≠ 0
    · obtain ⟨hk3, hn⟩ := hgo
      obtain ⟨g, hg, hL'⟩ := left_step hL hn
      have hn1 := hL.2.1
      have HL := hid hL'
      have hn0 : ((n : Int) == 0) = false := by simp; omega
      have HG := hid hg
      have HD := hid hd
      clear hL hL' hg hd
      go_wp2_with (at_builtin; refine wpList_append_own _ rfl (.tmp 13) (.tmp 18) 81 rfl w.heap.size 5 i0 (.int .u8 0) 1 1 Tryz.underlying81 hi hz0 hz1 hz2 rfl (by decide) _ _ _ rfl (hown.alloc _) ⟨wr.heap.size, 0, none⟩ 1 1 [byteV (dgt (n / 100))] rfl rfl ?c1 ?c2 ?c3 ?c4 ?c5 ?_)
      case c1 => intro j u hj; exact one_new (dig_cell hn1) j u hj
      case c2 => intro u hu; simp at hu; subst hu; rfl
      case c3 => unfold maxLen; omega
      case c4 => omega
      case c5 => have := hb.size; simp; omega
      · intro v' w1 hown' hgrow _
        have hb1 : Below w.heap.size w w1 := (hb.alloc hb.size _).grown hgrow (by have := hb.size; simp; omega) (fun q hq => (hown.lt q hq).1)
        clear hgrow hown
        go_wp2
        go_roundw
        case rel =>
          have e : 3 - (k + 1) = g := by have := HG.out; omega
          refine ⟨n % 100 * 10, k + 1, d ++ [dgt (n / 100)], by rw [e]; exact HL.out, by congr 1; omega, by go_num, by omega, by simp; exact HD.out, ?_, hb1⟩
          rw [List.map_cons, List.map_append, ← List.cons_append]
          exact hown'
        case measure => simp [intOf]; omega
    · have hn0 : n = 0 := by
        by_cases hk3 : k < 3
        · by_cases e : n = 0
          · exact e
          · exact absurd ⟨hk3, e⟩ hgo
        · exact hL.2.2.2.2.2.2 (by omega)
      subst hn0
      have he := left_end hL
      obtain ⟨g, c, hv, hcells⟩ := bytes_of_own hown (by omega)
      have hcv := conv_row (d := 46 :: d) (n := k + 1) (c := c) (by simp; omega) hcells
      have HE := hid he
      clear hgo hL hown hcells hd he
      rw [hv]
      clear hv
      by_cases hk3 : k < 3
      all_goals
        go_wp2
        go_ret
        exact ⟨ret_str (by rw [frac_pos h0, HE.out]), hb⟩

theorem dec_len' (n : Nat) (h : n ≤ 9223372036854775807) : (Lib.decDigits n).length ≤ 21 := by
  have := Lib.itoa_length_le n (by omega) (by omega)
  rwa [Lib.itoa_nonneg] at this
theorem frac_len (m : Nat) : (frac m).length ≤ 4 := by
  have hd : ∀ f n, (digs f n).length ≤ f := by
    intro f; induction f with
    | zero => intro n; simp [digs]
    | succ f ih => intro n; rw [digs]; split <;> simp; exact ih _
  unfold frac; split
  · simp
  · have := hd 3 m; simp; omega

end Go.Proofs.YtflcibmjblioaaaGreatDoor
