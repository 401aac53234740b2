/-
  Joined: Mh, Kb, Qa.
-/
import Derived.Test.YtefbfgcbbpmhlabGreatDoorFa
import Derived.Laws.Rows
import Derived.Laws.Tables
import Derived.RowKit
import Derived.IntWalk

/-
  A block of cells that a call made, through later worlds.
-/
namespace Go.Proofs.YtefbfgcbbpmhlabGreatDoor
open Go.RowKit
/-- A block of cells, written out, in a world. -/
structure Holds (w : World) (b : Nat) (cs : Array Value) : Prop where
  lt : b < w.heap.size
  cell : ∀ o, w.cell? ⟨b, o, none⟩ = cs[o]?
  free : ∀ o, w.frozen? ⟨b, o, none⟩ = false
theorem Holds.later {w w' : World} {b : Nat} {cs : Array Value} (h : Holds w b cs) (hb : Below w.heap.size w w') : Holds w' b cs :=
  ⟨Nat.lt_of_lt_of_le h.lt hb.size, fun o => (hb.cell (p := ⟨b, o, none⟩) h.lt).trans (h.cell o), fun o => (hb.frozen (p := ⟨b, o, none⟩) h.lt).trans (h.free o)⟩
theorem Holds.alloc {w : World} {b : Nat} {cs : Array Value} (h : Holds w b cs) (o : Obj) : Holds (w.alloc o) b cs := h.later ((Below.refl _ _).alloc (Nat.le_refl _) o)
theorem Holds.new (w : World) (cs : Array Value) (t : TypeId) : Holds (w.alloc (.cells cs t)) w.heap.size cs :=
  ⟨by simp, fun o => World.cell?_alloc_new .., fun o => World.frozen?_alloc_new _ _ _ _⟩
theorem Holds.at {w : World} {b b' : Nat} {cs : Array Value} (h : Holds w b cs) (e : b' = b) : Holds w b' cs := by subst e; exact h

theorem Holds.other {w : World} {b b' o : Nat} {cs : Array Value} {v : Value} (h : Holds w b cs) (hne : b ≠ b') : Holds (w.setCell ⟨b', o, none⟩ v) b cs :=
  ⟨by simpa [World.setCell] using h.lt, fun q => by rw [World.cell?_setCell_other _ _ _ _ (by simp)]; exact h.cell q, fun q => by rw [World.frozen?_setCell]; exact h.free q⟩
theorem Holds.set {w : World} {b o : Nat} {cs : Array Value} {v : Value} (h : Holds w b cs) (ho : o < cs.size) : Holds (w.setCell ⟨b, o, none⟩ v) b (cs.set o v ho) := by
  refine ⟨by simpa [World.setCell] using h.lt, fun q => ?_, fun q => by rw [World.frozen?_setCell]; exact h.free q⟩
  by_cases e : q = o
  · subst e
    have hc := h.cell q
    rw [Array.getElem?_eq_getElem ho] at hc
    rw [World.cell?_setCell_same _ _ _ hc]; simp
  · rw [World.cell?_setCell_other _ _ _ _ (by simp), h.cell q, Array.getElem?_set_ne _ (by omega)]
theorem Holds.set2 {w : World} {b : Nat} {p q x y : Value} (h : Holds w b #[p, q]) : Holds ((w.setCell ⟨b, 0, none⟩ x).setCell ⟨b, 1, none⟩ y) b #[x, y] :=
  (h.set (v := x) (by simp : 0 < #[p, q].size)).set (v := y) (by simp)
theorem below_undrew {w w' : World} (h : Below w.drew.heap.size w.drew w') : Below w.heap.size w w' := (Below.refl _ w).drew.trans h
/-- A block that a call made: its cells, and that none is marked. -/
def At (w : World) (b : Nat) (t : TypeId) (cs : Array Value) : Prop := w.heap[b]? = some (.cells cs t (0, 0))
theorem At.lt {w : World} {b : Nat} {t : TypeId} {cs : Array Value} (h : At w b t cs) : b < w.heap.size := by
  unfold At at h; exact (Array.getElem?_eq_some_iff.1 h).1
theorem At.later {w w' : World} {b : Nat} {t : TypeId} {cs : Array Value} (h : At w b t cs) (hb : Below w.heap.size w w') : At w' b t cs := (hb.block b h.lt).trans h
theorem At.alloc {w : World} {b : Nat} {t : TypeId} {cs : Array Value} (h : At w b t cs) (o : Obj) : At (w.alloc o) b t cs := h.later ((Below.refl _ _).alloc (Nat.le_refl _) o)
theorem At.drew {w : World} {b : Nat} {t : TypeId} {cs : Array Value} (h : At w b t cs) : At w.drew b t cs := h
theorem At.new (w : World) (cs : Array Value) (t : TypeId) {b : Nat} (e : b = w.heap.size) : At (w.alloc (.cells cs t)) b t cs := by subst e; exact heap_alloc_new w _
theorem At.cell {w : World} {b : Nat} {t : TypeId} {cs : Array Value} (h : At w b t cs) (o : Nat) : w.cell? ⟨b, o, none⟩ = cs[o]? := cell_of_row w b o cs t (0, 0) h
theorem At.free {w : World} {b : Nat} {t : TypeId} {cs : Array Value} (h : At w b t cs) (o : Nat) : w.frozen? ⟨b, o, none⟩ = false := frozen_of_row w b o cs t h
theorem At.setRow {w : World} {b : Nat} {t : TypeId} {cs : Array Value} (h : At w b t cs) (ds : Array Value) : At (w.setRow b ds) b t ds := by
  unfold At at *; simp [World.setRow, Array.getElem?_modify, h]
theorem below_setRow {B : Nat} {a w : World} (h : Below B a w) {b : Nat} (hb : B ≤ b) (ds : Array Value) : Below B a (w.setRow b ds) :=
  h.trans ⟨rfl, rfl, rfl, by simp [World.setRow], fun k hk => by simp only [World.setRow, Array.getElem?_modify]; rw [if_neg (by omega)]⟩
theorem ones6 (a b c d e f : Int) : (#[.int .i64 a, .int .i64 b, .int .i64 c, .int .i64 d, .int .i64 e, .int .i64 f] : Array Value).all (·.oneCell') = true := by simp [Value.oneCell']
end Go.Proofs.YtefbfgcbbpmhlabGreatDoor

/-
  All that was there is as it was, but for one block.
-/
namespace Go.Proofs.YtefbfgcbbpmhlabGreatDoor
open Go.RowKit
set_option maxRecDepth 100000

/-- All that was there is as it was, but for one block. -/
structure KeepBut (P : Nat) (w w' : World) : Prop where
  os : w'.os = w.os
  tape : w'.tape = w.tape
  output : w'.output = w.output
  size : w.heap.size ≤ w'.heap.size
  block : ∀ k, k < w.heap.size → k ≠ P → w'.heap[k]? = w.heap[k]?
theorem KeepBut.refl (P : Nat) (w : World) : KeepBut P w w := ⟨rfl, rfl, rfl, Nat.le_refl _, fun _ _ _ => rfl⟩
theorem KeepBut.trans {P : Nat} {a b c : World} (h : KeepBut P a b) (k : KeepBut P b c) : KeepBut P a c :=
  ⟨k.os.trans h.os, k.tape.trans h.tape, k.output.trans h.output, Nat.le_trans h.size k.size, fun i hi hp => (k.block i (Nat.lt_of_lt_of_le hi h.size) hp).trans (h.block i hi hp)⟩
theorem KeepBut.of {P : Nat} {w w' : World} (h : Below w.heap.size w w') : KeepBut P w w' := ⟨h.os, h.tape, h.output, h.size, fun k hk _ => h.block k hk⟩
theorem KeepBut.below {P : Nat} {w0 w w' : World} (h : KeepBut P w w') (hb : Below w0.heap.size w0 w) (hP : w0.heap.size ≤ P) : Below w0.heap.size w0 w' :=
  ⟨h.os.trans hb.os, h.tape.trans hb.tape, h.output.trans hb.output, Nat.le_trans hb.size h.size, fun k hk => (h.block k (Nat.lt_of_lt_of_le hk hb.size) (by omega)).trans (hb.block k hk)⟩
theorem KeepBut.at {P : Nat} {w w' : World} {b : Nat} {t : TypeId} {cs : Array Value} (h : KeepBut P w w') (ha : At w b t cs) (hb : b ≠ P) : At w' b t cs := (h.block b ha.lt hb).trans ha
theorem KeepBut.cell {P : Nat} {w w' : World} (h : KeepBut P w w') {b : Nat} (hb : b < w.heap.size) (hp : b ≠ P) (o : Nat) : w'.cell? ⟨b, o, none⟩ = w.cell? ⟨b, o, none⟩ := by
  have B : Below b.succ w w' → _ := fun hB => hB.cell (p := ⟨b, o, none⟩) (Nat.lt_succ_self b)
  unfold World.cell?
  simp only [h.block b hb hp]

theorem KeepBut.drew {P : Nat} {a w : World} (h : KeepBut P a w) : KeepBut P a w.drew := h.trans (.of (Below.refl _ _).drew)
theorem KeepBut.set {P : Nat} {w w' : World} (h : KeepBut P w w') (o : Nat) (v : Value) : KeepBut P w (w'.setCell ⟨P, o, none⟩ v) :=
  h.trans ⟨rfl, rfl, rfl, by simp [World.setCell], fun k _ hp => Below.heap_setCell _ _ _ _ hp⟩
theorem KeepBut.then {P : Nat} {a b c : World} (h : KeepBut P a b) (k : Below b.heap.size b c) : KeepBut P a c := h.trans (.of k)
theorem KeepBut.drewN {P : Nat} {a w : World} (h : KeepBut P a w) (n : Nat) : KeepBut P a (w.drewN n) := by
  induction n with
  | zero => exact h
  | succ n ih => exact ih.drew
end Go.Proofs.YtefbfgcbbpmhlabGreatDoor

/-
  Filters, plain: what each makes of bytes, and takes apart; no program.
-/
namespace Go.Proofs.YtefbfgcbbpmhlabGreatDoor
open Go.RowKit

def isBl (c : UInt8) : Bool := c == 0 || c == 9 || c == 10 || c == 12 || c == 13 || c == 32
def hexV (c : UInt8) : Int := if 48 ≤ c.toNat ∧ c.toNat ≤ 57 then c.toNat - 48 else if 65 ≤ c.toNat ∧ c.toNat ≤ 70 then c.toNat - 55 else if 97 ≤ c.toNat ∧ c.toNat ≤ 102 then c.toNat - 87 else -1
def hexD (n : Nat) : UInt8 := if n < 10 then UInt8.ofNat (48 + n) else UInt8.ofNat (55 + n)
/-- Digits to the base 16, and '>'. -/
def hexB (c : UInt8) : List UInt8 := [hexD (c.toNat / 16), hexD (c.toNat % 16)]
def hexMk (l : List UInt8) : List UInt8 := l.flatMap hexB ++ [62]
/-- What stands in half a byte. -/
def pend : Option Nat → List UInt8
  | none => []
  | some x => [UInt8.ofNat (16 * x)]
/-- What digits up to '>' are: an error's number, the bytes, and where it goes on. -/
def hexTk : List UInt8 → Option Nat → List UInt8 → Nat → Int × List UInt8 × Nat
  | [], _, _, _ => (5, [], 0)
  | c :: r, p, b, k =>
    if c == 62 then (0, b ++ pend p, k + 1)
    else if isBl c then hexTk r p b (k + 1)
    else if hexV c < 0 then (4, [], 0)
    else match p with
      | some x => hexTk r none (b ++ [UInt8.ofNat (16 * x + (hexV c).toNat)]) (k + 1)
      | none => hexTk r (some (hexV c).toNat) b (k + 1)
theorem hexMk_len (l : List UInt8) : (hexMk l).length = 2 * l.length + 1 := by
  unfold hexMk
  have : (l.flatMap hexB).length = 2 * l.length := by
    induction l with
    | nil => rfl
    | cons c l ih => rw [List.flatMap_cons, List.length_append, List.length_cons, ih]; simp [hexB]; omega
  rw [List.length_append, this]; rfl
theorem hexD_facts : ∀ x : Fin 16, (hexD x.1 == 62) = false ∧ isBl (hexD x.1) = false ∧ hexV (hexD x.1) = (x.1 : Int) := by decide
theorem hexV_rng (c : UInt8) : hexV c = -1 ∨ (0 ≤ hexV c ∧ hexV c < 16) := by
  unfold hexV; (repeat' split) <;> omega
theorem hexTk_mk (l : List UInt8) : ∀ (r b : List UInt8) (k : Nat), hexTk (l.flatMap hexB ++ 62 :: r) none b k = (0, b ++ l, k + 2 * l.length + 1) := by
  induction l with
  | nil => intro r b k; simp [hexTk, pend]
  | cons c l ih =>
    intro r b k
    have hc := c.toNat_lt
    obtain ⟨a1, a2, a3⟩ := hexD_facts ⟨c.toNat / 16, by omega⟩
    obtain ⟨b1, b2, b3⟩ := hexD_facts ⟨c.toNat % 16, by omega⟩
    simp only at a1 a2 a3 b1 b2 b3
    show hexTk (hexD (c.toNat / 16) :: hexD (c.toNat % 16) :: (l.flatMap hexB ++ 62 :: r)) none b k = _
    rw [hexTk, a1, a2, a3, if_neg (by simp), if_neg (by simp), if_neg (by omega)]
    show hexTk (hexD (c.toNat % 16) :: (l.flatMap hexB ++ 62 :: r)) (some _) b (k + 1) = _
    rw [hexTk, b1, b2, b3, if_neg (by simp), if_neg (by simp), if_neg (by omega)]
    show hexTk _ none _ _ = _
    rw [ih]
    have : UInt8.ofNat (16 * ((c.toNat / 16 : Nat) : Int).toNat + ((c.toNat % 16 : Nat) : Int).toNat) = c := by
      apply UInt8.toNat_inj.1
      simp only [UInt8.toNat_ofNat', Int.toNat_natCast]
      omega
    rw [this]
    simp; omega

/-- Four bytes as a number; noughts behind what is there. -/
def num4 (l : List UInt8) : Nat := (l.getD 0 0).toNat * 16777216 + (l.getD 1 0).toNat * 65536 + (l.getD 2 0).toNat * 256 + (l.getD 3 0).toNat
theorem num4_lt (l : List UInt8) : num4 l < 4294967296 := by
  have a := (l.getD 0 0).toNat_lt
  have b := (l.getD 1 0).toNat_lt
  have c := (l.getD 2 0).toNat_lt
  have d := (l.getD 3 0).toNat_lt
  unfold num4; omega
/-- Its digits to the base 85, as signs. -/
def dig5 (n : Nat) (i : Nat) : Nat := n / (if i = 0 then 52200625 else if i = 1 then 614125 else if i = 2 then 7225 else if i = 3 then 85 else 1) % 85
def sgn5 (n : Nat) (m : Nat) : List UInt8 := (List.range m).map fun i => UInt8.ofNat (33 + dig5 n i)
def five4 (n : Nat) : List UInt8 := if n = 0 then [122] else sgn5 n 5
def fiveMk : List UInt8 → List UInt8
  | [] => [126, 62]
  | [a] => sgn5 (num4 [a]) 2 ++ [126, 62]
  | [a, b] => sgn5 (num4 [a, b]) 3 ++ [126, 62]
  | [a, b, c] => sgn5 (num4 [a, b, c]) 4 ++ [126, 62]
  | a :: b :: c :: d :: r => five4 (num4 [a, b, c, d]) ++ fiveMk r
theorem sgn5_len (n m : Nat) : (sgn5 n m).length = m := by simp [sgn5]
theorem five4_len (n : Nat) : (five4 n).length ≤ 5 := by unfold five4; split <;> simp [sgn5_len]
theorem fiveMk_len : ∀ (l : List UInt8), (fiveMk l).length ≤ 2 * l.length + 4
  | [] => by simp [fiveMk]
  | [a] => by simp [fiveMk, sgn5_len]
  | [a, b] => by simp [fiveMk, sgn5_len]
  | [a, b, c] => by simp [fiveMk, sgn5_len]
  | a :: b :: c :: d :: r => by
    have := fiveMk_len r
    have := five4_len (num4 [a, b, c, d])
    rw [fiveMk, List.length_append]; simp only [List.length_cons]; omega
/-- The number of digits, the highest first. -/
def val85 (g : List Nat) : Nat := g.foldl (fun n d => 85 * n + d) 0
def byte4 (n : Nat) : List UInt8 := [UInt8.ofNat (n / 16777216), UInt8.ofNat (n / 65536 % 256), UInt8.ofNat (n / 256 % 256), UInt8.ofNat (n % 256)]
/-- Digits that are left at the end. -/
def fiveEnd (g : List Nat) (b : List UInt8) : Int × List UInt8 :=
  if g.length = 0 then (0, b) else if g.length = 1 then (4, []) else
  if val85 (g ++ List.replicate (5 - g.length) 84) < 4294967296 then (0, b ++ (byte4 (val85 (g ++ List.replicate (5 - g.length) 84))).take (g.length - 1)) else (4, [])
def fiveTk : List UInt8 → List Nat → List UInt8 → Int × List UInt8
  | [], _, _ => (5, [])
  | c :: r, g, b =>
    if isBl c then fiveTk r g b
    else if c == 126 then (if r.head? = some 62 then fiveEnd g b else (4, []))
    else if c == 122 && g.length == 0 then fiveTk r g (b ++ [0, 0, 0, 0])
    else if c.toNat < 33 ∨ 117 < c.toNat then (4, [])
    else if g.length = 4 then (if val85 (g ++ [c.toNat - 33]) < 4294967296 then fiveTk r [] (b ++ byte4 (val85 (g ++ [c.toNat - 33]))) else (4, []))
    else fiveTk r (g ++ [c.toNat - 33]) b
theorem val85_snoc (g : List Nat) (d : Nat) : val85 (g ++ [d]) = 85 * val85 g + d := by simp [val85]
theorem isBl_ge {c : UInt8} (h : 33 ≤ c.toNat) : isBl c = false := by
  unfold isBl
  have h0 : ∀ x : UInt8, x.toNat < 33 → (c == x) = false := fun x hx => by
    rw [beq_eq_false_iff_ne]; intro e; rw [e] at h; omega
  rw [h0 0 (by decide), h0 9 (by decide), h0 10 (by decide), h0 12 (by decide), h0 13 (by decide), h0 32 (by decide)]; rfl
theorem u8_ne {c x : UInt8} (h : c.toNat ≠ x.toNat) : (c == x) = false := by
  rw [beq_eq_false_iff_ne]; intro e; rw [e] at h; exact h rfl
theorem dig5_lt (n i : Nat) : dig5 n i < 85 := Nat.mod_lt _ (by omega)
/-- One digit. -/
theorem fiveTk_dig {n : Nat} (h : n < 85) (r : List UInt8) (g : List Nat) (b : List UInt8) :
    fiveTk (UInt8.ofNat (33 + n) :: r) g b = if g.length = 4 then (if val85 (g ++ [n]) < 4294967296 then fiveTk r [] (b ++ byte4 (val85 (g ++ [n]))) else (4, [])) else fiveTk r (g ++ [n]) b := by
  have hc : (UInt8.ofNat (33 + n)).toNat = 33 + n := by simp only [UInt8.toNat_ofNat']; omega
  rw [fiveTk, isBl_ge (by omega), u8_ne (x := 126) (by rw [hc]; simp; omega), u8_ne (x := 122) (by rw [hc]; simp; omega), if_neg (by simp), if_neg (by simp), if_neg (by simp), if_neg (by omega)]
  rw [hc, show 33 + n - 33 = n by omega]
theorem top2 (n : Nat) (hn : n < 4294967296) : 85 * dig5 n 0 + dig5 n 1 = n / 614125 := by
  have d0 : dig5 n 0 = n / 52200625 % 85 := rfl
  have d1 : dig5 n 1 = n / 614125 % 85 := rfl
  have e : n / 52200625 = n / 614125 / 85 := by rw [Nat.div_div_eq_div_mul]
  rw [d0, d1, e]
  have : n / 614125 < 7225 := by omega
  generalize n / 614125 = m at *
  omega
theorem top3 (n : Nat) (hn : n < 4294967296) : 85 * (85 * dig5 n 0 + dig5 n 1) + dig5 n 2 = n / 7225 := by
  have d2 : dig5 n 2 = n / 7225 % 85 := rfl
  have e : n / 614125 = n / 7225 / 85 := by rw [Nat.div_div_eq_div_mul]
  rw [top2 n hn, d2, e]
  omega
theorem top4 (n : Nat) (hn : n < 4294967296) : 85 * (85 * (85 * dig5 n 0 + dig5 n 1) + dig5 n 2) + dig5 n 3 = n / 85 := by
  have d3 : dig5 n 3 = n / 85 % 85 := rfl
  have e : n / 7225 = n / 85 / 85 := by rw [Nat.div_div_eq_div_mul]
  rw [top3 n hn, d3, e]
  omega
theorem fiveTk_5 {n : Nat} (hn : n < 4294967296) (r : List UInt8) (b : List UInt8) : fiveTk (sgn5 n 5 ++ r) [] b = fiveTk r [] (b ++ byte4 n) := by
  show fiveTk (UInt8.ofNat (33 + dig5 n 0) :: UInt8.ofNat (33 + dig5 n 1) :: UInt8.ofNat (33 + dig5 n 2) :: UInt8.ofNat (33 + dig5 n 3) :: UInt8.ofNat (33 + dig5 n 4) :: r) [] b = _
  rw [fiveTk_dig (dig5_lt _ _), if_neg (by simp), fiveTk_dig (dig5_lt _ _), if_neg (by simp), fiveTk_dig (dig5_lt _ _), if_neg (by simp), fiveTk_dig (dig5_lt _ _), if_neg (by simp), fiveTk_dig (dig5_lt _ _), if_pos (by simp)]
  have e : val85 ([] ++ [dig5 n 0] ++ [dig5 n 1] ++ [dig5 n 2] ++ [dig5 n 3] ++ [dig5 n 4]) = n := by
    simp only [val85_snoc]
    show 85 * (85 * (85 * (85 * (85 * 0 + dig5 n 0) + dig5 n 1) + dig5 n 2) + dig5 n 3) + dig5 n 4 = n
    rw [show 85 * 0 + dig5 n 0 = dig5 n 0 by omega, top4 n hn]
    show 85 * (n / 85) + n / 1 % 85 = n
    omega
  rw [e, if_pos hn]
theorem byte4_num4 (a b c d : UInt8) : byte4 (num4 [a, b, c, d]) = [a, b, c, d] := by
  have h1 := a.toNat_lt
  have h2 := b.toNat_lt
  have h3 := c.toNat_lt
  have h4 := d.toNat_lt
  have e : num4 [a, b, c, d] = a.toNat * 16777216 + b.toNat * 65536 + c.toNat * 256 + d.toNat := rfl
  rw [e]
  unfold byte4
  have q1 : UInt8.ofNat ((a.toNat * 16777216 + b.toNat * 65536 + c.toNat * 256 + d.toNat) / 16777216) = a := by
    apply UInt8.toNat_inj.1; simp only [UInt8.toNat_ofNat']; omega
  have q2 : UInt8.ofNat ((a.toNat * 16777216 + b.toNat * 65536 + c.toNat * 256 + d.toNat) / 65536 % 256) = b := by
    apply UInt8.toNat_inj.1; simp only [UInt8.toNat_ofNat']; omega
  have q3 : UInt8.ofNat ((a.toNat * 16777216 + b.toNat * 65536 + c.toNat * 256 + d.toNat) / 256 % 256) = c := by
    apply UInt8.toNat_inj.1; simp only [UInt8.toNat_ofNat']; omega
  have q4 : UInt8.ofNat ((a.toNat * 16777216 + b.toNat * 65536 + c.toNat * 256 + d.toNat) % 256) = d := by
    apply UInt8.toNat_inj.1; simp only [UInt8.toNat_ofNat']; omega
  rw [q1, q2, q3, q4]
theorem fiveTk_4 (a b c d : UInt8) (r x : List UInt8) : fiveTk (five4 (num4 [a, b, c, d]) ++ r) [] x = fiveTk r [] (x ++ [a, b, c, d]) := by
  unfold five4
  by_cases h : num4 [a, b, c, d] = 0
  · rw [if_pos h]
    have q := byte4_num4 a b c d
    rw [h] at q
    show fiveTk (122 :: r) [] x = _
    rw [fiveTk, if_neg (by decide), if_neg (by decide), if_pos (by decide), ← q]; rfl
  · rw [if_neg h, fiveTk_5 (num4_lt _), byte4_num4]
theorem fiveTk_end (r : List UInt8) (g : List Nat) (b : List UInt8) : fiveTk (126 :: 62 :: r) g b = fiveEnd g b := by
  rw [fiveTk, if_neg (by decide), if_pos (by decide), if_pos (by simp)]
theorem last2 (n : Nat) (k : Nat) (hk : 1 ≤ k) (hk' : k ≤ 3) (hn : n < 4294967296) (h0 : n % (if k = 1 then 16777216 else if k = 2 then 65536 else 256) = 0) (b : List UInt8) :
    fiveEnd ((List.range (k + 1)).map (dig5 n)) b = (0, b ++ (byte4 n).take k) := by
  unfold fiveEnd
  have hl : ((List.range (k + 1)).map (dig5 n)).length = k + 1 := by simp
  rw [hl, if_neg (by omega), if_neg (by omega)]
  rcases (by omega : k = 1 ∨ k = 2 ∨ k = 3) with rfl | rfl | rfl
  · have e : val85 ((List.range 2).map (dig5 n) ++ List.replicate 3 84) = 85 * (85 * (85 * (85 * dig5 n 0 + dig5 n 1) + 84) + 84) + 84 := by
      show val85 [dig5 n 0, dig5 n 1, 84, 84, 84] = _
      unfold val85; simp
    simp only [Nat.reduceAdd, Nat.reduceSub]
    rw [e, top2 n hn]
    simp only [reduceIte] at h0
    have t2 : (85 * (85 * (85 * (n / 614125) + 84) + 84) + 84) / 16777216 = n / 16777216 := by omega
    rw [if_pos (by omega)]
    simp only [byte4, List.take, t2]
  · have e : val85 ((List.range 3).map (dig5 n) ++ List.replicate 2 84) = 85 * (85 * (85 * (85 * dig5 n 0 + dig5 n 1) + dig5 n 2) + 84) + 84 := by
      show val85 [dig5 n 0, dig5 n 1, dig5 n 2, 84, 84] = _
      unfold val85; simp
    simp only [Nat.reduceAdd, Nat.reduceSub]
    rw [e, top3 n hn]
    simp only [reduceIte, Nat.reduceEqDiff] at h0
    have t1 : (85 * (85 * (n / 7225) + 84) + 84) / 65536 = n / 65536 := by omega
    rw [if_pos (by omega)]
    have t2 : (85 * (85 * (n / 7225) + 84) + 84) / 16777216 = n / 16777216 := by omega
    simp only [byte4, List.take, t1, t2]
  · have e : val85 ((List.range 4).map (dig5 n) ++ List.replicate 1 84) = 85 * (85 * (85 * (85 * dig5 n 0 + dig5 n 1) + dig5 n 2) + dig5 n 3) + 84 := by
      show val85 [dig5 n 0, dig5 n 1, dig5 n 2, dig5 n 3, 84] = _
      unfold val85; simp
    simp only [Nat.reduceAdd, Nat.reduceSub]
    rw [e, top4 n hn]
    simp only [reduceIte, Nat.reduceEqDiff] at h0
    have t1 : (85 * (n / 85) + 84) / 256 = n / 256 := by omega
    rw [if_pos (by omega)]
    have t2 : (85 * (n / 85) + 84) / 16777216 = n / 16777216 := by omega
    have t3 : (85 * (n / 85) + 84) / 65536 = n / 65536 := by omega
    simp only [byte4, List.take, t1, t2, t3]
theorem fiveTk_last (n m : Nat) (hm : m ≤ 4) (r b : List UInt8) : ∀ (j : Nat), j ≤ m → fiveTk (((List.range m).drop j).map (fun i => UInt8.ofNat (33 + dig5 n i)) ++ r) ((List.range j).map (dig5 n)) b = fiveTk r ((List.range m).map (dig5 n)) b := by
  intro j hj
  induction h : m - j generalizing j with
  | zero =>
    obtain rfl : j = m := by omega
    rw [List.drop_of_length_le (by simp)]; rfl
  | succ t ih =>
    rw [List.drop_eq_getElem_cons (by simp; omega)]
    simp only [List.map_cons, List.cons_append, List.getElem_range]
    rw [fiveTk_dig (dig5_lt _ _), if_neg (by simp; omega)]
    rw [← ih (j + 1) (by omega) (by omega), List.range_succ, List.map_append]
    rfl
theorem fiveTk_mk : ∀ (l r b : List UInt8), fiveTk (fiveMk l ++ r) [] b = (0, b ++ l)
  | [], r, b => by
    show fiveTk (126 :: 62 :: r) [] b = _
    rw [fiveTk_end]; simp [fiveEnd]
  | [x], r, b => by
    have h := fiveTk_last (num4 [x]) 2 (by omega) (126 :: 62 :: r) b 0 (by omega)
    rw [fiveTk_end] at h
    have hb : byte4 (num4 [x]) = [x, 0, 0, 0] := byte4_num4 x 0 0 0
    have hx := x.toNat_lt
    have e : num4 [x] = x.toNat * 16777216 := by simp [num4]
    have q := last2 (num4 [x]) 1 (by omega) (by omega) (num4_lt _) (by rw [e]; simp) b
    rw [hb] at q
    rw [fiveMk, List.append_assoc]
    exact h.trans q
  | [x, y], r, b => by
    have h := fiveTk_last (num4 [x, y]) 3 (by omega) (126 :: 62 :: r) b 0 (by omega)
    rw [fiveTk_end] at h
    have hb : byte4 (num4 [x, y]) = [x, y, 0, 0] := byte4_num4 x y 0 0
    have e : num4 [x, y] = x.toNat * 16777216 + y.toNat * 65536 := by simp [num4]
    have q := last2 (num4 [x, y]) 2 (by omega) (by omega) (num4_lt _) (by rw [e]; simp only [reduceIte, Nat.reduceEqDiff]; omega) b
    rw [hb] at q
    rw [fiveMk, List.append_assoc]
    exact h.trans q
  | [x, y, z], r, b => by
    have h := fiveTk_last (num4 [x, y, z]) 4 (by omega) (126 :: 62 :: r) b 0 (by omega)
    rw [fiveTk_end] at h
    have hb : byte4 (num4 [x, y, z]) = [x, y, z, 0] := byte4_num4 x y z 0
    have e : num4 [x, y, z] = x.toNat * 16777216 + y.toNat * 65536 + z.toNat * 256 := by simp [num4]
    have q := last2 (num4 [x, y, z]) 3 (by omega) (by omega) (num4_lt _) (by rw [e]; simp only [reduceIte, Nat.reduceEqDiff]; omega) b
    rw [hb] at q
    rw [fiveMk, List.append_assoc]
    exact h.trans q
  | x :: y :: z :: u :: l, r, b => by
    rw [fiveMk, List.append_assoc, fiveTk_4, fiveTk_mk l]
    simp
end Go.Proofs.YtefbfgcbbpmhlabGreatDoor
