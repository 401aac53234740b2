/-
  Joined: Ve, Vd1, Vf.
-/
import Derived.Test.YtflcibmjblioaaaGreatDoorYc

/-
  What may be: values: the document's own answer (look only).
-/
namespace Go.Proofs.YtflcibmjblioaaaGreatDoor
open Go.RowKit
set_option maxRecDepth 100000

/-- One name rises above another one. -/
def risesB (p q : ByteArray) : Bool := !(Op.bytesLess q.toList p.toList || q.toList == p.toList)
/-- Names that may be, and rise. -/
def Names (f : List (ByteArray × V)) : Prop := ∀ (i : Nat) (q : ByteArray × V), f[i]? = some q → nmOk q.1 = true ∧ ∀ (j : Nat) (p : ByteArray × V), i = j + 1 → f[j]? = some p → risesB p.1 q.1 = true
def Own (v : V) : Prop :=
  (v.k = 0 ∧ v.n = 0 ∧ v.s.size = 0 ∧ v.l.length = 0 ∧ v.f.length = 0) ∨
  (v.k = 1 ∧ (v.n = 0 ∨ v.n = 1) ∧ v.s.size = 0 ∧ v.l.length = 0 ∧ v.f.length = 0) ∨
  (v.k = 2 ∧ okF v.n = true ∧ v.s.size = 0 ∧ v.l.length = 0 ∧ v.f.length = 0) ∨
  (v.k = 3 ∧ v.n = 0 ∧ v.s.size ≤ 200 ∧ v.l.length = 0 ∧ v.f.length = 0) ∨
  (v.k = 4 ∧ v.n = 0 ∧ nmOk v.s = true ∧ v.l.length = 0 ∧ v.f.length = 0) ∨
  (v.k = 5 ∧ v.n = 0 ∧ v.s.size = 0 ∧ v.f.length = 0) ∨
  (v.k = 6 ∧ v.n = 0 ∧ v.s.size = 0 ∧ v.l.length = 0 ∧ Names v.f) ∨
  (v.k = 7 ∧ 1 ≤ v.n ∧ v.n ≤ 60 ∧ v.s.size = 0 ∧ v.l.length = 0 ∧ v.f.length = 0)
mutual
/-- It, and all that is in it, may be. -/
def V.Shp : V → Prop
  | ⟨k, n, s, l, f⟩ => Own ⟨k, n, s, l, f⟩ ∧ ShpL l ∧ ShpF f
def ShpL : List V → Prop
  | [] => True
  | x :: l => V.Shp x ∧ ShpL l
def ShpF : List (ByteArray × V) → Prop
  | [] => True
  | q :: l => ShpP q ∧ ShpF l
def ShpP : ByteArray × V → Prop
  | (_, x) => V.Shp x
end
theorem shp_eq (v : V) : v.Shp ↔ Own v ∧ ShpL v.l ∧ ShpF v.f := by cases v; rw [V.Shp]
theorem shpL_iff : ∀ (l : List V), ShpL l ↔ ∀ (i : Nat) (x : V), l[i]? = some x → x.Shp
  | [] => by simp [ShpL]
  | y :: l => by
    rw [ShpL, shpL_iff l]
    refine ⟨fun h i x hx => ?_, fun h => ⟨h 0 y rfl, fun i x hx => h (i + 1) x (by simpa using hx)⟩⟩
    cases i with
    | zero => simp at hx; subst hx; exact h.1
    | succ i => exact h.2 i x (by simpa using hx)
theorem shpF_iff : ∀ (l : List (ByteArray × V)), ShpF l ↔ ∀ (i : Nat) (q : ByteArray × V), l[i]? = some q → q.2.Shp
  | [] => by simp [ShpF]
  | y :: l => by
    rw [ShpF, shpF_iff l]
    have e : ShpP y ↔ y.2.Shp := by cases y; rw [ShpP]
    rw [e]
    refine ⟨fun h i x hx => ?_, fun h => ⟨h 0 y rfl, fun i x hx => h (i + 1) x (by simpa using hx)⟩⟩
    cases i with
    | zero => simp at hx; subst hx; exact h.1
    | succ i => exact h.2 i x (by simpa using hx)
theorem own_names {v : V} (h : Own v) : Names v.f := by
  have nil : v.f.length = 0 → Names v.f := fun e i q hq => by
    rw [List.eq_nil_of_length_eq_zero e] at hq; simp at hq
  rcases h with h | h | h | h | h | h | h | h
  · exact nil h.2.2.2.2
  · exact nil h.2.2.2.2
  · exact nil h.2.2.2.2
  · exact nil h.2.2.2.2
  · exact nil h.2.2.2.2
  · exact nil h.2.2.2
  · exact h.2.2.2.2
  · exact nil h.2.2.2.2.2

theorem own0 {v : V} (h : v.k = 0) : Own v ↔ v.n = 0 ∧ v.s.size = 0 ∧ v.l.length = 0 ∧ v.f.length = 0 := by simp [Own, h]
theorem own1 {v : V} (h : v.k = 1) : Own v ↔ (v.n = 0 ∨ v.n = 1) ∧ v.s.size = 0 ∧ v.l.length = 0 ∧ v.f.length = 0 := by simp [Own, h]
theorem own2 {v : V} (h : v.k = 2) : Own v ↔ okF v.n = true ∧ v.s.size = 0 ∧ v.l.length = 0 ∧ v.f.length = 0 := by simp [Own, h]
theorem own3 {v : V} (h : v.k = 3) : Own v ↔ v.n = 0 ∧ v.s.size ≤ 200 ∧ v.l.length = 0 ∧ v.f.length = 0 := by simp [Own, h]
theorem own4 {v : V} (h : v.k = 4) : Own v ↔ v.n = 0 ∧ nmOk v.s = true ∧ v.l.length = 0 ∧ v.f.length = 0 := by simp [Own, h]
theorem own5 {v : V} (h : v.k = 5) : Own v ↔ v.n = 0 ∧ v.s.size = 0 ∧ v.f.length = 0 := by simp [Own, h]
theorem own6 {v : V} (h : v.k = 6) : Own v ↔ v.n = 0 ∧ v.s.size = 0 ∧ v.l.length = 0 ∧ Names v.f := by simp [Own, h]
theorem own7 {v : V} (h : v.k = 7) : Own v ↔ 1 ≤ v.n ∧ v.n ≤ 60 ∧ v.s.size = 0 ∧ v.l.length = 0 ∧ v.f.length = 0 := by simp [Own, h]
theorem own8 {v : V} (h : v.k < 0 ∨ 7 < v.k) : ¬ Own v := by
  intro o
  rcases o with o | o | o | o | o | o | o | o <;> omega
theorem toList_nil (s : ByteArray) : s.toList = [] ↔ s.size = 0 := by
  rw [ByteArray.toList_eq, ← List.length_eq_zero_iff]
  simp

end Go.Proofs.YtflcibmjblioaaaGreatDoor

/-
  Names in order; what a dictionary is behind a field was set. No walk.
-/
namespace Go.Proofs.YtflcibmjblioaaaGreatDoor
open Go.RowKit
set_option maxRecDepth 100000

theorem bl_irrefl : ∀ x : List UInt8, Op.bytesLess x x = false
  | [] => rfl
  | a :: x => by simp [Op.bytesLess, bl_irrefl x]
theorem bl_trans : ∀ x y z : List UInt8, Op.bytesLess x y = true → Op.bytesLess y z = true → Op.bytesLess x z = true
  | x, [], z, h, _ => by cases x <;> simp [Op.bytesLess] at h
  | x, _ :: _, [], _, h => by simp [Op.bytesLess] at h
  | [], b :: y, c :: z, _, _ => rfl
  | a :: x, b :: y, c :: z, h1, h2 => by
    have ih := bl_trans x y z
    simp only [Op.bytesLess, Bool.or_eq_true, Bool.and_eq_true, decide_eq_true_eq, beq_iff_eq, UInt8.lt_iff_toNat_lt] at *
    rcases h1 with h1 | ⟨rfl, h1⟩
    · rcases h2 with h2 | ⟨rfl, h2⟩
      · exact .inl (by omega)
      · exact .inl h1
    · rcases h2 with h2 | ⟨rfl, h2⟩
      · exact .inl h2
      · exact .inr ⟨rfl, ih h1 h2⟩
theorem bl_tri : ∀ x y : List UInt8, Op.bytesLess x y = true ∨ x = y ∨ Op.bytesLess y x = true
  | [], [] => .inr (.inl rfl)
  | [], _ :: _ => .inl rfl
  | _ :: _, [] => .inr (.inr rfl)
  | a :: x, b :: y => by
    have ih := bl_tri x y
    simp only [Op.bytesLess, Bool.or_eq_true, Bool.and_eq_true, decide_eq_true_eq, beq_iff_eq, UInt8.lt_iff_toNat_lt, List.cons.injEq]
    rcases Nat.lt_trichotomy a.toNat b.toNat with h | h | h
    · exact .inl (.inl h)
    · have e := UInt8.toNat_inj.1 h
      subst e
      rcases ih with h | h | h
      · exact .inl (.inr ⟨rfl, h⟩)
      · exact .inr (.inl ⟨rfl, h⟩)
      · exact .inr (.inr (.inr ⟨rfl, h⟩))
    · exact .inr (.inr (.inl h))
theorem toList_eq {a b : ByteArray} (h : a.toList = b.toList) : a = b := by
  rw [ByteArray.toList_eq, ByteArray.toList_eq] at h
  cases a; cases b; simp_all
/-- One name is below another one. -/
def Lt (a b : ByteArray) : Prop := Op.bytesLess a.toList b.toList = true
theorem Lt.trans {a b c : ByteArray} (h : Lt a b) (k : Lt b c) : Lt a c := bl_trans _ _ _ h k
theorem Lt.ne {a b : ByteArray} (h : Lt a b) : a ≠ b := fun e => by subst e; unfold Lt at h; rw [bl_irrefl] at h; cases h
theorem Lt.not {a b : ByteArray} (h : Lt a b) : ¬ Lt b a := fun k => (h.trans k).ne rfl
theorem lt_tri (a b : ByteArray) : Lt a b ∨ a = b ∨ Lt b a := by
  rcases bl_tri a.toList b.toList with h | h | h
  · exact .inl h
  · exact .inr (.inl (toList_eq h))
  · exact .inr (.inr h)
theorem rises_iff {p q : ByteArray} : risesB p q = true ↔ Lt p q := by
  unfold risesB
  rcases lt_tri p q with h | h | h
  · have n1 : Op.bytesLess q.toList p.toList = false := by have := h.not; unfold Lt at this; simpa using this
    have n2 : (q.toList == p.toList) = false := by simpa using fun e => h.ne (toList_eq e).symm
    rw [n1, n2]; exact iff_of_true rfl h
  · subst h
    refine iff_of_false (by simp) (fun h => h.ne rfl)
  · have : Op.bytesLess q.toList p.toList = true := h
    rw [this]; exact iff_of_false (by simp) h.not
/-- 'name is not above q', as the program asks it. -/
def leB (name q : ByteArray) : Bool := Op.bytesLess name.toList q.toList || name.toList == q.toList
theorem leB_iff {a b : ByteArray} : leB a b = true ↔ Lt a b ∨ a = b := by
  unfold leB Lt
  rw [Bool.or_eq_true, beq_iff_eq]
  exact or_congr Iff.rfl ⟨toList_eq, fun h => by rw [h]⟩
theorem leB_not {a b : ByteArray} (h : Lt b a) : leB a b = false := by
  cases hh : leB a b
  · rfl
  · rcases leB_iff.1 hh with k | k
    · exact absurd k h.not
    · exact absurd k.symm h.ne
theorem names_pw : ∀ {f : List (ByteArray × V)}, Names f → f.Pairwise fun p q => Lt p.1 q.1
  | [], _ => List.Pairwise.nil
  | q :: l, h => by
    have ht : Names l := fun i p hp => by
      have := h (i + 1) p (by simpa using hp)
      exact ⟨this.1, fun j r e hr => this.2 (j + 1) r (by omega) (by simpa using hr)⟩
    have ih := names_pw ht
    refine List.pairwise_cons.2 ⟨fun p hp => ?_, ih⟩
    cases l with
    | nil => simp at hp
    | cons p0 l =>
      have h0 : Lt q.1 p0.1 := rises_iff.1 ((h 1 p0 rfl).2 0 q rfl rfl)
      rcases List.mem_cons.1 hp with rfl | hp
      · exact h0
      · exact h0.trans ((List.pairwise_cons.1 ih).1 p hp)
section
variable (name : ByteArray) (x : V)
/-- What the document's own setting makes, field by field. -/
def rsetF : List (ByteArray × V) → Bool → List (ByteArray × V)
  | [], laid => if laid then [] else [(name, x)]
  | q :: l, laid => (if !laid && leB name q.1 then [(name, x)] else []) ++ (if q.1.toList == name.toList then [] else [q]) ++ rsetF l (laid || leB name q.1)
theorem rsetF_laid : ∀ l : List (ByteArray × V), (∀ q ∈ l, q.1 ≠ name) → rsetF name x l true = l
  | [], _ => rfl
  | q :: l, h => by
    have h1 : (q.1.toList == name.toList) = false := by simpa using fun e => h q (by simp) (toList_eq e)
    rw [rsetF, h1]
    simp [rsetF_laid l (fun p hp => h p (by simp [hp]))]
theorem rset_new : ∀ (f : List (ByteArray × V)) (t : Nat), (f.Pairwise fun p q => Lt p.1 q.1) → (∀ q ∈ f, q.1 ≠ name) → t ≤ f.length → (∀ (i : Nat) (q : ByteArray × V), i < t → f[i]? = some q → ¬ Lt name q.1) → (∀ q, f[t]? = some q → Lt name q.1) → rsetF name x f false = f.take t ++ (name, x) :: f.drop t
  | [], t, _, _, ht, _, _ => by simp at ht; subst ht; simp [rsetF]
  | p :: l, 0, hp, hn, _, _, h2 => by
    have h1 : leB name p.1 = true := leB_iff.2 (.inl (h2 p rfl))
    have h3 : (p.1.toList == name.toList) = false := by simpa using fun e => hn p (by simp) (toList_eq e)
    rw [rsetF, h1, h3]
    simp [rsetF_laid name x l (fun r hr => hn r (by simp [hr]))]
  | p :: l, t + 1, hp, hn, ht, h1, h2 => by
    have hl := List.pairwise_cons.1 hp
    have hnp := hn p (by simp)
    have hlt : Lt p.1 name := by
      rcases lt_tri p.1 name with h | h | h
      · exact h
      · exact absurd h hnp
      · exact absurd h (h1 0 p (by omega) rfl)
    have h3 := leB_not hlt
    have h4 : (p.1.toList == name.toList) = false := by simpa using fun e => hnp (toList_eq e)
    rw [rsetF, h3, h4]
    simp [rset_new l t hl.2 (fun r hr => hn r (by simp [hr])) (by simpa using ht) (fun i q hi hq => h1 (i + 1) q (by omega) (by simpa using hq)) (fun q hq => h2 q (by simpa using hq))]
end
/-- The first field of which something is true; below 0: there is none. -/
def FirstAt (p : ByteArray → Bool) (f : List (ByteArray × V)) (r : Int) : Prop :=
  (r = -1 ∧ ∀ q ∈ f, p q.1 = false) ∨ ∃ (i : Nat) (q : ByteArray × V), r = i ∧ f[i]? = some q ∧ p q.1 = true ∧ ∀ (j : Nat) (s : ByteArray × V), j < i → f[j]? = some s → p s.1 = false
end Go.Proofs.YtflcibmjblioaaaGreatDoor

/-
  The document's own answer to 'are two the same': two trees are one.
-/
namespace Go.Proofs.YtflcibmjblioaaaGreatDoor
open Go.RowKit
set_option maxRecDepth 100000

theorem V.ext' {a b : V} (h1 : a.k = b.k) (h2 : a.n = b.n) (h3 : a.s = b.s) (h4 : a.l = b.l) (h5 : a.f = b.f) : a = b := by
  cases a; cases b; simp_all
theorem toList_inj {a b : ByteArray} : a.toList = b.toList ↔ a = b := by
  rw [ByteArray.toList_eq, ByteArray.toList_eq]
  exact ⟨fun h => by cases a; cases b; simp_all, fun h => by rw [h]⟩

end Go.Proofs.YtflcibmjblioaaaGreatDoor
