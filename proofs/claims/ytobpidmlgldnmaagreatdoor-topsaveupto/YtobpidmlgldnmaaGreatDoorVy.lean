/-
  Joined: Vd1, Vf, Vy.
-/
import Derived.Test.YtobpidmlgldnmaaGreatDoorVe
import Derived.Test.YtobpidmlgldnmaaGreatDoorVh
import Derived.Test.YtobpidmlgldnmaaGreatDoorFh
import Derived.BigQuiet
import Derived.Deep.RegionHeld3
import Derived.Deep.DrawnRows

/-
  Names in order; what a dictionary is behind a field was set. No walk.
-/
namespace Go.Proofs.YtobpidmlgldnmaaGreatDoor
open Go.RowKit
set_option maxRecDepth 100000

theorem bl_irrefl : ∀ x : List UInt8, Op.bytesLess x x = false
  | [] => rfl
  | a :: x => by simp [Op.bytesLess, bl_irrefl x]
theorem bl_trans : ∀ x y z : List UInt8, Op.bytesLess x y = true → Op.bytesLess y z = true → Op.bytesLess x z = true
  | x, [], z, h, _ => by cases x <;> simp [Op.bytesLess] at h
  | x, _ :: _, [], _, h => by simp [Op.bytesLess] at h
  | [], b :: y, c :: z, _, _ => rfl
  | a :: x, b :: y, c :: z, h1, h2 => by
    have ih := bl_trans x y z
    simp only [Op.bytesLess, Bool.or_eq_true, Bool.and_eq_true, decide_eq_true_eq, beq_iff_eq, UInt8.lt_iff_toNat_lt] at *
    rcases h1 with h1 | ⟨rfl, h1⟩
    · rcases h2 with h2 | ⟨rfl, h2⟩
      · exact .inl (by omega)
      · exact .inl h1
    · rcases h2 with h2 | ⟨rfl, h2⟩
      · exact .inl h2
      · exact .inr ⟨rfl, ih h1 h2⟩
theorem bl_tri : ∀ x y : List UInt8, Op.bytesLess x y = true ∨ x = y ∨ Op.bytesLess y x = true
  | [], [] => .inr (.inl rfl)
  | [], _ :: _ => .inl rfl
  | _ :: _, [] => .inr (.inr rfl)
  | a :: x, b :: y => by
    have ih := bl_tri x y
    simp only [Op.bytesLess, Bool.or_eq_true, Bool.and_eq_true, decide_eq_true_eq, beq_iff_eq, UInt8.lt_iff_toNat_lt, List.cons.injEq]
    rcases Nat.lt_trichotomy a.toNat b.toNat with h | h | h
    · exact .inl (.inl h)
    · have e := UInt8.toNat_inj.1 h
      subst e
      rcases ih with h | h | h
      · exact .inl (.inr ⟨rfl, h⟩)
      · exact .inr (.inl ⟨rfl, h⟩)
      · exact .inr (.inr (.inr ⟨rfl, h⟩))
    · exact .inr (.inr (.inl h))
theorem toList_eq {a b : ByteArray} (h : a.toList = b.toList) : a = b := by
  rw [ByteArray.toList_eq, ByteArray.toList_eq] at h
  cases a; cases b; simp_all
/-- One name is below another one. -/
def Lt (a b : ByteArray) : Prop := Op.bytesLess a.toList b.toList = true
theorem Lt.trans {a b c : ByteArray} (h : Lt a b) (k : Lt b c) : Lt a c := bl_trans _ _ _ h k
theorem Lt.ne {a b : ByteArray} (h : Lt a b) : a ≠ b := fun e => by subst e; unfold Lt at h; rw [bl_irrefl] at h; cases h
theorem Lt.not {a b : ByteArray} (h : Lt a b) : ¬ Lt b a := fun k => (h.trans k).ne rfl
theorem lt_tri (a b : ByteArray) : Lt a b ∨ a = b ∨ Lt b a := by
  rcases bl_tri a.toList b.toList with h | h | h
  · exact .inl h
  · exact .inr (.inl (toList_eq h))
  · exact .inr (.inr h)
/-- 'name is not above q', as the program asks it. -/
def leB (name q : ByteArray) : Bool := Op.bytesLess name.toList q.toList || name.toList == q.toList
theorem leB_iff {a b : ByteArray} : leB a b = true ↔ Lt a b ∨ a = b := by
  unfold leB Lt
  rw [Bool.or_eq_true, beq_iff_eq]
  exact or_congr Iff.rfl ⟨toList_eq, fun h => by rw [h]⟩
theorem leB_not {a b : ByteArray} (h : Lt b a) : leB a b = false := by
  cases hh : leB a b
  · rfl
  · rcases leB_iff.1 hh with k | k
    · exact absurd k h.not
    · exact absurd k.symm h.ne
section
variable (name : ByteArray) (x : V)
/-- What the document's own setting makes, field by field. -/
def rsetF : List (ByteArray × V) → Bool → List (ByteArray × V)
  | [], laid => if laid then [] else [(name, x)]
  | q :: l, laid => (if !laid && leB name q.1 then [(name, x)] else []) ++ (if q.1.toList == name.toList then [] else [q]) ++ rsetF l (laid || leB name q.1)
theorem rsetF_laid : ∀ l : List (ByteArray × V), (∀ q ∈ l, q.1 ≠ name) → rsetF name x l true = l
  | [], _ => rfl
  | q :: l, h => by
    have h1 : (q.1.toList == name.toList) = false := by simpa using fun e => h q (by simp) (toList_eq e)
    rw [rsetF, h1]
    simp [rsetF_laid l (fun p hp => h p (by simp [hp]))]
theorem rset_new : ∀ (f : List (ByteArray × V)) (t : Nat), (f.Pairwise fun p q => Lt p.1 q.1) → (∀ q ∈ f, q.1 ≠ name) → t ≤ f.length → (∀ (i : Nat) (q : ByteArray × V), i < t → f[i]? = some q → ¬ Lt name q.1) → (∀ q, f[t]? = some q → Lt name q.1) → rsetF name x f false = f.take t ++ (name, x) :: f.drop t
  | [], t, _, _, ht, _, _ => by simp at ht; subst ht; simp [rsetF]
  | p :: l, 0, hp, hn, _, _, h2 => by
    have h1 : leB name p.1 = true := leB_iff.2 (.inl (h2 p rfl))
    have h3 : (p.1.toList == name.toList) = false := by simpa using fun e => hn p (by simp) (toList_eq e)
    rw [rsetF, h1, h3]
    simp [rsetF_laid name x l (fun r hr => hn r (by simp [hr]))]
  | p :: l, t + 1, hp, hn, ht, h1, h2 => by
    have hl := List.pairwise_cons.1 hp
    have hnp := hn p (by simp)
    have hlt : Lt p.1 name := by
      rcases lt_tri p.1 name with h | h | h
      · exact h
      · exact absurd h hnp
      · exact absurd h (h1 0 p (by omega) rfl)
    have h3 := leB_not hlt
    have h4 : (p.1.toList == name.toList) = false := by simpa using fun e => hnp (toList_eq e)
    rw [rsetF, h3, h4]
    simp [rset_new l t hl.2 (fun r hr => hn r (by simp [hr])) (by simpa using ht) (fun i q hi hq => h1 (i + 1) q (by omega) (by simpa using hq)) (fun q hq => h2 q (by simpa using hq))]
end
end Go.Proofs.YtobpidmlgldnmaaGreatDoor

/-
  The document's own answer to 'are two the same': two trees are one.
-/
namespace Go.Proofs.YtobpidmlgldnmaaGreatDoor
open Go.RowKit
set_option maxRecDepth 100000

theorem V.ext' {a b : V} (h1 : a.k = b.k) (h2 : a.n = b.n) (h3 : a.s = b.s) (h4 : a.l = b.l) (h5 : a.f = b.f) : a = b := by
  cases a; cases b; simp_all
end Go.Proofs.YtobpidmlgldnmaaGreatDoor

/-
  Two values, the same but for the values in them.
-/
namespace Go.Proofs.YtobpidmlgldnmaaGreatDoor
open Go.RowKit
set_option maxRecDepth 100000
attribute [local go_sem ↓] Go.wp_at_zero Go.wp_at_succ

/-- The elements of a list, and the fields of a dictionary, as they lie. -/
abbrev LAt (d : Nat) (w : World) (l : List V) (al : Option Addr) : Prop := ∀ (i : Nat) (x : V), l[i]? = some x → ∃ b off c, al = some ⟨b, off, none⟩ ∧ b < w.heap.size ∧ CellsAt w b (off + i * 5) c ∧ RepN d w x c
abbrev FAt (d : Nat) (w : World) (l : List (ByteArray × V)) (af : Option Addr) : Prop := ∀ (i : Nat) (q : ByteArray × V), l[i]? = some q → ∃ b off c, af = some ⟨b, off, none⟩ ∧ b < w.heap.size ∧ q.1.size ≤ maxLen ∧ w.cell? ⟨b, off + i * 6, none⟩ = some (.string q.1) ∧ CellsAt w b (off + i * 6 + 1) c ∧ RepN d w q.2 c

theorem FAt.later {d : Nat} {w w' : World} {l : List (ByteArray × V)} {af : Option Addr} (h : FAt d w l af) (hB : Below w.heap.size w w') : FAt d w' l af := fun i q hq => by
  obtain ⟨b, off, c, e, hb, hs, hn, hc, hr⟩ := h i q hq
  exact ⟨b, off, c, e, Nat.lt_of_lt_of_le hb hB.size, hs, (hB.cell (p := ⟨b, off + i * 6, none⟩) hb).trans hn, hc.later hb hB, hr.later hB⟩
theorem LAt.later {d : Nat} {w w' : World} {l : List V} {al : Option Addr} (h : LAt d w l al) (hB : Below w.heap.size w w') : LAt d w' l al := fun i q hq => by
  obtain ⟨b, off, c, e, hb, hc, hr⟩ := h i q hq
  exact ⟨b, off, c, e, Nat.lt_of_lt_of_le hb hB.size, hc.later hb hB, hr.later hB⟩
end Go.Proofs.YtobpidmlgldnmaaGreatDoor
