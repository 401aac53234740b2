/-
  Spans of codes, plain.
-/
import Derived.Test.YtggojafapieliabDoorCa
namespace Go.Proofs.YtggojafapieliabDoor
set_option maxRecDepth 100000

/-- A span. -/
structure Sp where
  f : Int
  t : Int
  s : ByteArray
/-- A text whose last sign goes on by so many; none: there is none. -/
def goOn (l : List UInt8) (k : Nat) : Option (List UInt8) :=
  match rns l with
  | none => none
  | some rs => match rs.getLast? with
    | none => none
    | some r => if okR (r + k) ∧ (r + k < 55296 ∨ 57344 ≤ r) then some (txtR rs.dropLast ++ encR (r + k)) else none
theorem goOn_bad {l : List UInt8} (h : rns l = none) (k : Nat) : goOn l k = none := by unfold goOn; rw [h]
theorem goOn_nil (k : Nat) : goOn [] k = none := rfl
theorem goOn_last {l : List UInt8} {a : List Nat} {r : Nat} (h : rns l = some (a ++ [r])) (k : Nat) : goOn l k = if okR (r + k) ∧ (r + k < 55296 ∨ 57344 ≤ r) then some (txtR a ++ encR (r + k)) else none := by
  unfold goOn
  rw [h]
  simp
/-- What may be a span's text, with so many more codes. -/
def mayT (l : List UInt8) (k : Nat) : Prop := l.length ≤ 40 ∧ (goOn l k).isSome = true
instance (l : List UInt8) (k : Nat) : Decidable (mayT l k) := by unfold mayT; infer_instance
/-- Such a text, opened. -/
theorem mayT_open {l : List UInt8} {k : Nat} (h : mayT l k) : ∃ (a : List Nat) (r : Nat), rns l = some (a ++ [r]) ∧ okR r ∧ (∀ x ∈ a, okR x) ∧ l = txtR a ++ encR r ∧ Lib.decodeLastL l = (r, (encR r).length) ∧ okR (r + k) ∧ (r + k < 55296 ∨ 57344 ≤ r) ∧ l.length ≤ 40 := by
  obtain ⟨h1, h2⟩ := h
  cases hr : rns l with
  | none => rw [goOn_bad hr] at h2; cases h2
  | some rs =>
    have hne : l ≠ [] := fun q => by subst q; cases h2
    obtain ⟨a, r, rfl, q1, q2, q3, q4⟩ := rns_last hr hne
    rw [goOn_last hr] at h2
    by_cases c : okR (r + k) ∧ (r + k < 55296 ∨ 57344 ≤ r)
    · exact ⟨a, r, rfl, q1, q2, q3, q4, c.1, c.2, h1⟩
    · rw [if_neg c] at h2; cases h2
/-- Less far it goes on as well. -/
theorem mayT_less {l : List UInt8} {a : List Nat} {r k j : Nat} (h : rns l = some (a ++ [r])) (hk : okR (r + k)) (hs : r + k < 55296 ∨ 57344 ≤ r) (hj : j ≤ k) : okR (r + j) ∧ goOn l j = some (txtR a ++ encR (r + j)) := by
  unfold okR at *
  rw [goOn_last h, if_pos (by unfold okR; omega)]
  exact ⟨by omega, rfl⟩
/-- What is wrong with spans, from one on behind which so far all is taken. -/
def sFault (most : Int) : Int → List Sp → Int
  | _, [] => 0
  | a, x :: l => if x.f < 0 ∨ most < x.t then 1 else if x.t < x.f ∨ x.f ≤ a ∨ ¬ mayT x.s.data.toList (x.t - x.f).toNat then 3 else sFault most x.t l
def mostOf (wide : Bool) : Int := if wide then 65535 else 255
def spFault (l : List Sp) (wide : Bool) : Int := if 300 < l.length then 2 else sFault (mostOf wide) (-1) l
theorem sFault_cases (most : Int) : ∀ (l : List Sp) (a : Int), sFault most a l = 0 ∨ sFault most a l = 1 ∨ sFault most a l = 3
  | [], _ => .inl rfl
  | x :: l, a => by
    unfold sFault
    split
    · exact .inr (.inl rfl)
    · split
      · exact .inr (.inr rfl)
      · exact sFault_cases most l x.t
theorem spFault_cases (l : List Sp) (wide : Bool) : spFault l wide = 0 ∨ spFault l wide = 1 ∨ spFault l wide = 2 ∨ spFault l wide = 3 := by
  unfold spFault
  split
  · exact .inr (.inr (.inl rfl))
  · rcases sFault_cases (mostOf wide) l (-1) with h | h | h
    · exact .inl h
    · exact .inr (.inl h)
    · exact .inr (.inr (.inr h))
/-- Of spans that may be, each one. -/
theorem sFault_ok (most : Int) : ∀ (l : List Sp) (a : Int), sFault most a l = 0 → ∀ x ∈ l, 0 ≤ x.f ∧ x.f ≤ x.t ∧ x.t ≤ most ∧ a < x.f ∧ mayT x.s.data.toList (x.t - x.f).toNat
  | [], _, _, x, hx => by simp at hx
  | y :: l, a, h, x, hx => by
    unfold sFault at h
    by_cases h1 : y.f < 0 ∨ most < y.t
    · rw [if_pos h1] at h; exact absurd h (by decide)
    rw [if_neg h1] at h
    by_cases h2 : y.t < y.f ∨ y.f ≤ a ∨ ¬ mayT y.s.data.toList (y.t - y.f).toNat
    · rw [if_pos h2] at h; exact absurd h (by decide)
    rw [if_neg h2] at h
    rcases List.mem_cons.1 hx with rfl | hx
    · have h3 : mayT x.s.data.toList (x.t - x.f).toNat := Classical.byContradiction fun q => h2 (.inr (.inr q))
      exact ⟨by omega, by omega, by omega, by omega, h3⟩
    · obtain ⟨i1, i2, i3, i4, i5⟩ := sFault_ok most l y.t h x hx
      exact ⟨i1, i2, i3, by omega, i5⟩
theorem spFault_ok {l : List Sp} {wide : Bool} (h : spFault l wide = 0) : l.length ≤ 300 ∧ ∀ x ∈ l, 0 ≤ x.f ∧ x.f ≤ x.t ∧ x.t ≤ mostOf wide ∧ mayT x.s.data.toList (x.t - x.f).toNat := by
  unfold spFault at h
  by_cases h1 : 300 < l.length
  · rw [if_pos h1] at h; exact absurd h (by decide)
  rw [if_neg h1] at h
  refine ⟨by omega, fun x hx => ?_⟩
  obtain ⟨i1, i2, i3, _, i5⟩ := sFault_ok _ l _ h x hx
  exact ⟨i1, i2, i3, i5⟩
/-- The span that has a code. -/
def spOf : List Sp → Int → Option Sp
  | [], _ => none
  | x :: l, c => if x.f ≤ c ∧ c ≤ x.t then some x else spOf l c
theorem spOf_mem : ∀ {l : List Sp} {c : Int} {x : Sp}, spOf l c = some x → x ∈ l ∧ x.f ≤ c ∧ c ≤ x.t
  | [], c, x, h => by cases h
  | y :: l, c, x, h => by
    unfold spOf at h
    by_cases q : y.f ≤ c ∧ c ≤ y.t
    · rw [if_pos q] at h; injection h with h; subst h; exact ⟨by simp, q⟩
    · rw [if_neg q] at h
      obtain ⟨a, b⟩ := spOf_mem h
      exact ⟨by simp [a], b⟩
/-- A code as text, of spans that may be. -/
def codeT (l : List Sp) (c : Int) : Option (List UInt8) := match spOf l c with | none => none | some x => goOn x.s.data.toList (c - x.f).toNat

/-- Digits to the base 16. -/
def dgt (n : Nat) : UInt8 := if n < 10 then UInt8.ofNat (48 + n) else UInt8.ofNat (55 + n)
def hx2 (c : UInt8) : List UInt8 := [dgt (c.toNat / 16), dgt (c.toNat % 16)]
def hxL (l : List UInt8) : List UInt8 := l.flatMap hx2
/-- A number of 16 bits, the higher byte first. -/
def un2 (n : Nat) : List UInt8 := [UInt8.ofNat (n / 256), UInt8.ofNat (n % 256)]
/-- A sign's units. -/
def unR (r : Nat) : List UInt8 := if r < 65536 then un2 r else un2 (55296 + (r - 65536) / 1024) ++ un2 (56320 + (r - 65536) % 1024)
def unitsL (rs : List Nat) : List UInt8 := rs.flatMap unR
def runesOf (l : List UInt8) : List Nat := (rns l).getD []
def cdB (c : Nat) (wide : Bool) : List UInt8 := if wide then un2 c else [UInt8.ofNat c]
/-- A string in '<' and '>'. -/
def strH (l : List UInt8) : List UInt8 := 60 :: (hxL l ++ [62])
/-- The words of a program. -/
def wB : List UInt8 := [49, 32, 98, 101, 103, 105, 110, 98, 102, 114, 97, 110, 103, 101, 10]
def wE : List UInt8 := [101, 110, 100, 98, 102, 114, 97, 110, 103, 101, 10]
def spT (wide : Bool) (x : Sp) : List UInt8 := wB ++ (strH (cdB x.f.toNat wide) ++ (32 :: (strH (cdB x.t.toNat wide) ++ (32 :: (strH (unitsL (runesOf x.s.data.toList)) ++ (10 :: wE))))))
def headT (wide : Bool) : List UInt8 := [49, 32, 98, 101, 103, 105, 110, 99, 111, 100, 101, 115, 112, 97, 99, 101, 114, 97, 110, 103, 101, 10] ++ ((if wide then [60, 48, 48, 48, 48, 62, 32, 60, 70, 70, 70, 70, 62] else [60, 48, 48, 62, 32, 60, 70, 70, 62]) ++ [10, 101, 110, 100, 99, 111, 100, 101, 115, 112, 97, 99, 101, 114, 97, 110, 103, 101, 10])
def spsT (wide : Bool) (l : List Sp) : List UInt8 := headT wide ++ l.flatMap (spT wide)
theorem hxL_len (l : List UInt8) : (hxL l).length = 2 * l.length := by
  unfold hxL
  induction l with
  | nil => rfl
  | cons a l ih => rw [List.flatMap_cons, List.length_append, ih]; simp [hx2]; omega
theorem strH_len (l : List UInt8) : (strH l).length = 2 * l.length + 2 := by unfold strH; simp [hxL_len]
theorem unR_len (r : Nat) : (unR r).length ≤ 4 := by unfold unR; split <;> simp [un2]
theorem unitsL_len : ∀ (rs : List Nat), (unitsL rs).length ≤ 4 * rs.length
  | [] => Nat.le_refl _
  | r :: rs => by
    have a := unitsL_len rs
    have b := unR_len r
    show (unR r ++ unitsL rs).length ≤ 4 * (rs.length + 1)
    rw [List.length_append]; omega
theorem cdB_len (c : Nat) (wide : Bool) : (cdB c wide).length ≤ 2 := by unfold cdB; split <;> simp [un2]
theorem runesOf_len (l : List UInt8) : (runesOf l).length ≤ l.length := by
  unfold runesOf
  cases h : rns l with
  | none => simp
  | some rs =>
    obtain ⟨_, h2⟩ := rns_some _ l rs (Nat.le_refl _) h
    have := (rns_len rs).1
    rw [← h2] at this
    simpa using this
theorem spT_len (wide : Bool) (x : Sp) : (spT wide x).length ≤ 50 + 8 * x.s.size := by
  have a := cdB_len x.f.toNat wide
  have b := cdB_len x.t.toNat wide
  have c := unitsL_len (runesOf x.s.data.toList)
  have d := runesOf_len x.s.data.toList
  have e : x.s.data.toList.length = x.s.size := by simp
  unfold spT
  simp only [List.length_append, List.length_cons, strH_len]
  have h1 : wB.length = 15 := rfl
  have h2 : wE.length = 11 := rfl
  omega
theorem flat_len (wide : Bool) : ∀ (l : List Sp), (∀ x ∈ l, x.s.size ≤ 60) → (l.flatMap (spT wide)).length ≤ 530 * l.length
  | [], _ => Nat.le_refl _
  | x :: l, h => by
    have a := flat_len wide l (fun y hy => h y (by simp [hy]))
    have b := spT_len wide x
    have c := h x (by simp)
    rw [List.flatMap_cons, List.length_append, List.length_cons]; omega
theorem headT_len (wide : Bool) : (headT wide).length ≤ 60 := by cases wide <;> decide
end Go.Proofs.YtggojafapieliabDoor
