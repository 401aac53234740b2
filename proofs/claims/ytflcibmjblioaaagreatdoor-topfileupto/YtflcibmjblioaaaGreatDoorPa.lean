/-
  Joined: Kb, Qa, Pa.
-/
import Derived.Test.YtflcibmjblioaaaGreatDoorMh
import Derived.RowKit
import Derived.IntWalk

/-
  All that was there is as it was, but for one block.
-/
namespace Go.Proofs.YtflcibmjblioaaaGreatDoor
open Go.RowKit
set_option maxRecDepth 100000

/-- All that was there is as it was, but for one block. -/
structure KeepBut (P : Nat) (w w' : World) : Prop where
  os : w'.os = w.os
  tape : w'.tape = w.tape
  output : w'.output = w.output
  size : w.heap.size ≤ w'.heap.size
  block : ∀ k, k < w.heap.size → k ≠ P → w'.heap[k]? = w.heap[k]?
theorem KeepBut.refl (P : Nat) (w : World) : KeepBut P w w := ⟨rfl, rfl, rfl, Nat.le_refl _, fun _ _ _ => rfl⟩
theorem KeepBut.trans {P : Nat} {a b c : World} (h : KeepBut P a b) (k : KeepBut P b c) : KeepBut P a c :=
  ⟨k.os.trans h.os, k.tape.trans h.tape, k.output.trans h.output, Nat.le_trans h.size k.size, fun i hi hp => (k.block i (Nat.lt_of_lt_of_le hi h.size) hp).trans (h.block i hi hp)⟩
theorem KeepBut.of {P : Nat} {w w' : World} (h : Below w.heap.size w w') : KeepBut P w w' := ⟨h.os, h.tape, h.output, h.size, fun k hk _ => h.block k hk⟩
theorem KeepBut.below {P : Nat} {w0 w w' : World} (h : KeepBut P w w') (hb : Below w0.heap.size w0 w) (hP : w0.heap.size ≤ P) : Below w0.heap.size w0 w' :=
  ⟨h.os.trans hb.os, h.tape.trans hb.tape, h.output.trans hb.output, Nat.le_trans hb.size h.size, fun k hk => (h.block k (Nat.lt_of_lt_of_le hk hb.size) (by omega)).trans (hb.block k hk)⟩
theorem KeepBut.at {P : Nat} {w w' : World} {b : Nat} {t : TypeId} {cs : Array Value} (h : KeepBut P w w') (ha : At w b t cs) (hb : b ≠ P) : At w' b t cs := (h.block b ha.lt hb).trans ha
theorem KeepBut.cell {P : Nat} {w w' : World} (h : KeepBut P w w') {b : Nat} (hb : b < w.heap.size) (hp : b ≠ P) (o : Nat) : w'.cell? ⟨b, o, none⟩ = w.cell? ⟨b, o, none⟩ := by
  have B : Below b.succ w w' → _ := fun hB => hB.cell (p := ⟨b, o, none⟩) (Nat.lt_succ_self b)
  unfold World.cell?
  simp only [h.block b hb hp]

theorem KeepBut.drew {P : Nat} {a w : World} (h : KeepBut P a w) : KeepBut P a w.drew := h.trans (.of (Below.refl _ _).drew)
theorem KeepBut.set {P : Nat} {w w' : World} (h : KeepBut P w w') (o : Nat) (v : Value) : KeepBut P w (w'.setCell ⟨P, o, none⟩ v) :=
  h.trans ⟨rfl, rfl, rfl, by simp [World.setCell], fun k _ hp => Below.heap_setCell _ _ _ _ hp⟩
theorem KeepBut.then {P : Nat} {a b c : World} (h : KeepBut P a b) (k : Below b.heap.size b c) : KeepBut P a c := h.trans (.of k)
theorem KeepBut.drewN {P : Nat} {a w : World} (h : KeepBut P a w) (n : Nat) : KeepBut P a (w.drewN n) := by
  induction n with
  | zero => exact h
  | succ n ih => exact ih.drew
end Go.Proofs.YtflcibmjblioaaaGreatDoor

/-
  Filters, plain: what each makes of bytes, and takes apart; no program.
-/
namespace Go.Proofs.YtflcibmjblioaaaGreatDoor
open Go.RowKit

def isBl (c : UInt8) : Bool := c == 0 || c == 9 || c == 10 || c == 12 || c == 13 || c == 32
def hexV (c : UInt8) : Int := if 48 ≤ c.toNat ∧ c.toNat ≤ 57 then c.toNat - 48 else if 65 ≤ c.toNat ∧ c.toNat ≤ 70 then c.toNat - 55 else if 97 ≤ c.toNat ∧ c.toNat ≤ 102 then c.toNat - 87 else -1
def hexD (n : Nat) : UInt8 := if n < 10 then UInt8.ofNat (48 + n) else UInt8.ofNat (55 + n)
/-- What stands in half a byte. -/
def pend : Option Nat → List UInt8
  | none => []
  | some x => [UInt8.ofNat (16 * x)]
/-- What digits up to '>' are: an error's number, the bytes, and where it goes on. -/
def hexTk : List UInt8 → Option Nat → List UInt8 → Nat → Int × List UInt8 × Nat
  | [], _, _, _ => (5, [], 0)
  | c :: r, p, b, k =>
    if c == 62 then (0, b ++ pend p, k + 1)
    else if isBl c then hexTk r p b (k + 1)
    else if hexV c < 0 then (4, [], 0)
    else match p with
      | some x => hexTk r none (b ++ [UInt8.ofNat (16 * x + (hexV c).toNat)]) (k + 1)
      | none => hexTk r (some (hexV c).toNat) b (k + 1)
theorem hexV_rng (c : UInt8) : hexV c = -1 ∨ (0 ≤ hexV c ∧ hexV c < 16) := by
  unfold hexV; (repeat' split) <;> omega
end Go.Proofs.YtflcibmjblioaaaGreatDoor

/-
  Reading, plain: names, strings in brackets; no program.
-/
namespace Go.Proofs.YtflcibmjblioaaaGreatDoor
open Go.RowKit

/-- What stands for a name, byte by byte. -/
def nameL : List UInt8 → Option (List UInt8)
  | [] => some []
  | c :: r =>
    if c == 35 then
      match r with
      | x :: y :: r' => if hexV x < 0 ∨ hexV y < 0 then none else (nameL r').map (UInt8.ofNat (16 * (hexV x).toNat + (hexV y).toNat) :: ·)
      | _ => none
    else (nameL r).map (c :: ·)
theorem nameL_nil : nameL [] = some [] := by rw [nameL]
theorem nameL_plain {c : UInt8} (h : (c == 35) = false) (r : List UInt8) : nameL (c :: r) = (nameL r).map (c :: ·) := by
  rw [nameL.eq_def]; simp only [h]; rfl
theorem nameL_pair (x y : UInt8) (r : List UInt8) : nameL (35 :: x :: y :: r) = if hexV x < 0 ∨ hexV y < 0 then none else (nameL r).map (UInt8.ofNat (16 * (hexV x).toNat + (hexV y).toNat) :: ·) := by
  rw [nameL.eq_def]; rfl
theorem nameL_short1 : nameL [35] = none := by rw [nameL.eq_def]; rfl
theorem nameL_short2 (x : UInt8) : nameL [35, x] = none := by rw [nameL.eq_def]; rfl
def isOct (c : UInt8) : Bool := 48 ≤ c.toNat && c.toNat ≤ 55
/-- Up to so many digits to the base 8: how many, and their number. -/
def octN : Nat → List UInt8 → Nat
  | 0, _ => 0
  | _ + 1, [] => 0
  | m + 1, c :: r => if isOct c then octN m r + 1 else 0
def octV : Nat → List UInt8 → Nat → Nat
  | 0, _, n => n
  | _ + 1, [], n => n
  | m + 1, c :: r, n => if isOct c then octV m r (8 * n + (c.toNat - 48)) else n
/-- What stands behind a '\': the bytes that it is, and how many were read; none: there is nothing. -/
def escL : List UInt8 → Option (List UInt8 × Nat)
  | [] => none
  | e :: r =>
    if isOct e then some ([UInt8.ofNat (octV 3 (e :: r) 0 % 256)], octN 3 (e :: r))
    else if e == 110 then some ([10], 1)
    else if e == 114 then some ([13], 1)
    else if e == 116 then some ([9], 1)
    else if e == 98 then some ([8], 1)
    else if e == 102 then some ([12], 1)
    else if e == 10 then some ([], 1)
    else if e == 13 then some ([], if r.head? = some 10 then 2 else 1)
    else some ([e], 1)
def litF : Nat → List UInt8 → Nat → List UInt8 → Nat → Int × List UInt8 × Nat
  | 0, _, _, _, _ => (5, [], 0)
  | _ + 1, [], _, _, _ => (5, [], 0)
  | f + 1, c :: r, deep, b, k =>
    if c == 41 then (if deep = 1 then (0, b, k + 1) else litF f r (deep - 1) (b ++ [c]) (k + 1))
    else if c == 40 then litF f r (deep + 1) (b ++ [c]) (k + 1)
    else if c == 92 then
      match escL r with
      | none => (5, [], 0)
      | some (x, m) => litF f (r.drop m) deep (b ++ x) (k + 1 + m)
    else litF f r deep (b ++ [c]) (k + 1)
theorem octN_le : ∀ (m : Nat) (l : List UInt8), octN m l ≤ l.length ∧ octN m l ≤ m
  | 0, _ => by simp [octN]
  | _ + 1, [] => by simp [octN]
  | m + 1, c :: r => by have := octN_le m r; unfold octN; split <;> simp <;> omega
theorem escL_le {l x : List UInt8} {m : Nat} (h : escL l = some (x, m)) : 1 ≤ m ∧ m ≤ l.length ∧ x.length ≤ 1 := by
  cases l with
  | nil => cases h
  | cons e r =>
    change (if isOct e = true then _ else _) = _ at h
    by_cases h0 : isOct e = true
    · rw [if_pos h0] at h
      simp only [Option.some.injEq, Prod.mk.injEq] at h
      obtain ⟨rfl, rfl⟩ := h
      have := octN_le 3 (e :: r)
      refine ⟨?_, this.1, by simp⟩
      unfold octN; rw [if_pos h0]; omega
    · rw [if_neg h0] at h
      by_cases h13 : (e == 13) = true
      · have e13 : e = 13 := by simpa using h13
        subst e13
        simp only [show ((13 : UInt8) == 110) = false from rfl, show ((13 : UInt8) == 114) = false from rfl, show ((13 : UInt8) == 116) = false from rfl, show ((13 : UInt8) == 98) = false from rfl, show ((13 : UInt8) == 102) = false from rfl, show ((13 : UInt8) == 10) = false from rfl] at h
        simp only [Bool.false_eq_true, if_false, beq_self_eq_true, if_true, Option.some.injEq, Prod.mk.injEq] at h
        obtain ⟨rfl, rfl⟩ := h
        split
        · rename_i hh
          cases r with
          | nil => simp at hh
          | cons a r => simp
        · simp
      · (repeat' split at h) <;> simp_all only [Option.some.injEq, Prod.mk.injEq] <;> (obtain ⟨rfl, rfl⟩ := h; simp)
theorem litF_fuel : ∀ (f g : Nat) (l : List UInt8) (deep : Nat) (b : List UInt8) (k : Nat), l.length ≤ f → l.length ≤ g → litF f l deep b k = litF g l deep b k
  | 0, 0, _, _, _, _, _, _ => rfl
  | 0, g + 1, [], _, _, _, _, _ => rfl
  | f + 1, 0, [], _, _, _, _, _ => rfl
  | f + 1, g + 1, [], _, _, _, _, _ => rfl
  | f + 1, g + 1, c :: r, deep, b, k, hf, hg => by
    simp only [List.length_cons] at hf hg
    unfold litF
    rw [litF_fuel f g r (deep - 1) (b ++ [c]) (k + 1) (by omega) (by omega), litF_fuel f g r (deep + 1) (b ++ [c]) (k + 1) (by omega) (by omega), litF_fuel f g r deep (b ++ [c]) (k + 1) (by omega) (by omega)]
    cases he : escL r with
    | none => rfl
    | some q =>
      obtain ⟨x, m⟩ := q
      simp only
      rw [litF_fuel f g (r.drop m) deep (b ++ x) (k + 1 + m) (by simp; omega) (by simp; omega)]
def litT (l : List UInt8) (deep : Nat) (b : List UInt8) (k : Nat) : Int × List UInt8 × Nat := litF l.length l deep b k
theorem litT_nil (deep : Nat) (b : List UInt8) (k : Nat) : litT [] deep b k = (5, [], 0) := rfl
theorem litT_cons (c : UInt8) (r : List UInt8) (deep : Nat) (b : List UInt8) (k : Nat) : litT (c :: r) deep b k =
    if c == 41 then (if deep = 1 then (0, b, k + 1) else litT r (deep - 1) (b ++ [c]) (k + 1))
    else if c == 40 then litT r (deep + 1) (b ++ [c]) (k + 1)
    else if c == 92 then
      match escL r with
      | none => (5, [], 0)
      | some (x, m) => litT (r.drop m) deep (b ++ x) (k + 1 + m)
    else litT r deep (b ++ [c]) (k + 1) := by
  unfold litT
  rw [List.length_cons, litF]
  cases he : escL r with
  | none => rfl
  | some q =>
    obtain ⟨x, m⟩ := q
    simp only
    rw [litF_fuel r.length (r.drop m).length (r.drop m) deep (b ++ x) (k + 1 + m) (by simp) (Nat.le_refl _)]
end Go.Proofs.YtflcibmjblioaaaGreatDoor
