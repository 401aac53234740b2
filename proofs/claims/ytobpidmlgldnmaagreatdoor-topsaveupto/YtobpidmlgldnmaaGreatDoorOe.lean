/-
  Joined: On, Oa, Oe.
-/
import Derived.Test.YtobpidmlgldnmaaGreatDoorPt
import Derived.Test.YtobpidmlgldnmaaGreatDoorKb
import Derived.Test.YtobpidmlgldnmaaGreatDoorYy
import Derived.Test.YtobpidmlgldnmaaGreatDoorAq
import Derived.Test.YtobpidmlgldnmaaGreatDoorVo
import Derived.Deep.RegionLaw
import Derived.Deep.DrawnRows
import Derived.Lib.AppendIntMem
import Derived.Deep.CutRange
import Derived.Deep.CutBlock
import Derived.Deep.RegionHeld3
import Derived.Test.YtobpidmlgldnmaaGreatDoorOc

/-
  Operators' names: plainly, the program's, and the document's answer's.
-/
namespace Go.Proofs.YtobpidmlgldnmaaGreatDoor
open Go.RowKit
set_option maxRecDepth 100000

/-- May this byte stand in an operator's name? -/
def opB (c : UInt8) (b : Bool) : Bool := (97 ≤ c.toNat && c.toNat ≤ 122) || (65 ≤ c.toNat && c.toNat ≤ 90) || (48 ≤ c.toNat && c.toNat ≤ 57 && b) || c.toNat == 42 || c.toNat == 39 || c.toNat == 34
def opAll : List UInt8 → Bool → Bool
  | [], _ => true
  | c :: r, b => opB c b && opAll r true
def opWord (l : List UInt8) : Bool := l == [116, 114, 117, 101] || l == [102, 97, 108, 115, 101] || l == [110, 117, 108, 108]
/-- May this be an operator's name? -/
def opMay (s : ByteArray) : Bool := decide (s.size ≠ 0) && decide (s.size ≤ 8) && !opWord s.data.toList && opAll s.data.toList false
theorem opAll_snoc : ∀ (l : List UInt8) (c : UInt8) (b : Bool), opAll (l ++ [c]) b = (opAll l b && opB c (b || decide (l.length ≠ 0)))
  | [], c, b => by simp [opAll]
  | d :: l, c, b => by
    rw [List.cons_append, opAll, opAll, opAll_snoc l c true, Bool.and_assoc]
    simp
theorem opAll_take (l : List UInt8) (b : Bool) (k : Nat) (h : opAll l b = true) : opAll (l.take k) b = true := by
  induction l generalizing b k with
  | nil => simpa using h
  | cons c r ih =>
    cases k with
    | zero => rfl
    | succ k =>
      rw [opAll, Bool.and_eq_true] at h
      rw [List.take_succ_cons, opAll, h.1, Bool.true_and]
      exact ih true k h.2
theorem opMay_pos {s : ByteArray} (h : opMay s = true) : 0 < s.size := by
  unfold opMay at h
  simp only [Bool.and_eq_true, decide_eq_true_eq] at h
  omega
set_option maxHeartbeats 1000000 in
theorem byteMay_says (c : UInt8) (b : Bool) (w : World) : Calls Tryz.prog 79 #[.int .u8 (c.toNat : Int), .bool b] w fun e w' => e = .returned (.bool (opB c b)) ∧ w' = w := by
  have hc := c.toNat_lt
  unfold opB
  generalize c.toNat = n at hc ⊢
  go_enter Tryz.func79, Tryz.ntmps79
  go_wp2
  all_goals (go_ret; refine ⟨ret_bool ?_, rfl⟩)
  all_goals (cases b <;> (rw [Bool.eq_iff_iff]; simp only [Bool.or_eq_true, Bool.and_eq_true, decide_eq_true_eq, beq_iff_eq, Bool.false_eq_true, and_false, and_true, or_false, true_iff, false_iff]; omega))
theorem byteMay_is (c : UInt8) (b : Bool) (w : World) {r : Bool} (h : opB c b = r) : Calls Tryz.prog 79 #[.int .u8 (c.toNat : Int), .bool b] w fun e w' => e = .returned (.bool r) ∧ w' = w := by
  subst h; exact byteMay_says c b w
/-- What the loop over a name's bytes has seen. -/
theorem opMay_eq (s : ByteArray) (h1 : s.size ≠ 0) (h2 : s.size ≤ 8) (h3 : opWord s.data.toList = false) : opMay s = opAll s.data.toList false := by
  unfold opMay; simp [h1, h2, h3]
theorem opAll_no {s : ByteArray} {k : Nat} (hk : k < s.size) (h : opB s[k] (decide (k ≠ 0)) = false) : opAll s.data.toList false = false := by
  cases hb : opAll s.data.toList false
  · rfl
  · have q := opAll_take _ _ (k + 1) hb
    rw [take_snoc s k hk, opAll_snoc, Bool.and_eq_true] at q
    have hl : (s.data.toList.take k).length = k := by simp; omega
    rw [hl] at q
    simp only [Bool.false_or] at q
    rw [h] at q; exact absurd q.2 (by simp)
theorem opAll_yes {s : ByteArray} {k : Nat} (hk : k < s.size) (h0 : opAll (s.data.toList.take k) false = true) (h : opB s[k] (decide (k ≠ 0)) = true) : opAll (s.data.toList.take (k + 1)) false = true := by
  rw [take_snoc s k hk, opAll_snoc, h0]
  have hl : (s.data.toList.take k).length = k := by simp; omega
  rw [hl]
  simpa using h
theorem opWord_parts (s : ByteArray) : opWord s.data.toList = (s.toList == [116, 114, 117, 101] || s.toList == [102, 97, 108, 115, 101] || s.toList == [110, 117, 108, 108]) := by
  rw [ByteArray.toList_eq]; rfl
set_option maxHeartbeats 2000000 in
theorem nameMay_says (s : ByteArray) (w : World) (hs : s.size ≤ maxLen) : Calls Tryz.prog 57 #[.string s] w fun e w' => e = .returned (.bool (opMay s)) ∧ w' = w := by
  by_cases h1 : s.size = 0
  · have e0 : opMay s = false := by unfold opMay; simp [h1]
    rw [e0]
    have hz : s = ⟨#[]⟩ := by
      apply ByteArray.ext; exact Array.eq_empty_of_size_eq_zero h1
    subst hz
    go_enter Tryz.func57, Tryz.ntmps57
    go_wp2
    go_ret
    exact ⟨rfl, rfl⟩
  have g0 : (s.toList == []) = false := by
    rw [ByteArray.toList_eq]
    cases h : s.data.toList with
    | nil => exact absurd (by have := congrArg List.length h; simpa using this) h1
    | cons a l => rfl
  by_cases h2 : s.size ≤ 8
  · have h2' : ¬ (8 : Int) < s.size := by omega
    have hp := opWord_parts s
    have HM := hid (fun h3 => opMay_eq s h1 h2 h3)
    cases g1 : (s.toList == [116, 114, 117, 101])
    · cases g2 : (s.toList == [102, 97, 108, 115, 101])
      · cases g3 : (s.toList == [110, 117, 108, 108])
        · rw [g1, g2, g3] at hp
          rw [HM.out hp]
          clear hp HM
          go_enter Tryz.func57, Tryz.ntmps57
          go_wp2
          go_loop [25] (fun i => ∃ k : Nat, i = .int .i64 k ∧ k ≤ s.size ∧ opAll (s.data.toList.take k) false = true) (fun i => s.size - (intOf i).toNat)
          case atStart => exact ⟨0, rfl, by omega, rfl⟩
          case round =>
            obtain ⟨k, rfl, hk, ha⟩ := hrel
            by_cases hlt : k < s.size
            · have hlt' : (k : Int) < s.size := by omega
              have hk0 : (0 : Int) ≤ (k : Int) := by omega
              cases hb : opB s[k] (decide (k ≠ 0))
              · have HN := hid (opAll_no hlt hb)
                have hc := fun (b : Bool) (w : World) (e : b = decide (k ≠ 0)) => byteMay_is s[k] b w (r := false) (by rw [e]; exact hb)
                clear hb ha
                go_wp2_with (go_at_call 79; go_must (refine (hc _ _ (by first | rfl | (rw [Bool.eq_iff_iff]; simp; omega))).mono ?_); rintro e w1 ⟨rfl, rfl⟩)
                go_ret
                exact ⟨ret_bool HN.out.symm, rfl⟩
              · have HY := hid (opAll_yes hlt ha hb)
                have hc := fun (b : Bool) (w : World) (e : b = decide (k ≠ 0)) => byteMay_is s[k] b w (r := true) (by rw [e]; exact hb)
                clear hb ha
                go_wp2_with (go_at_call 79; go_must (refine (hc _ _ (by first | rfl | (rw [Bool.eq_iff_iff]; simp; omega))).mono ?_); rintro e w1 ⟨rfl, rfl⟩)
                exact ⟨⟨k + 1, by go_num, by omega, HY.out⟩, by simp [intOf]; omega⟩
            · have hlt' : ¬ (k : Int) < s.size := by omega
              have HY := hid (show opAll s.data.toList false = true by rw [List.take_of_length_le (by simp; omega)] at ha; exact ha)
              clear ha
              go_wp2
              go_ret
              exact ⟨ret_bool HY.out.symm, rfl⟩
        · rw [show opMay s = false by unfold opMay; rw [hp, g1, g2, g3]; simp]
          clear hp HM
          go_enter Tryz.func57, Tryz.ntmps57
          go_wp2
          go_ret
          exact ⟨rfl, rfl⟩
      · rw [show opMay s = false by unfold opMay; rw [hp, g1, g2]; simp]
        clear hp HM
        go_enter Tryz.func57, Tryz.ntmps57
        go_wp2
        go_ret
        exact ⟨rfl, rfl⟩
    · rw [show opMay s = false by unfold opMay; rw [hp, g1]; simp]
      clear hp HM
      go_enter Tryz.func57, Tryz.ntmps57
      go_wp2
      go_ret
      exact ⟨rfl, rfl⟩
  · have h2' : (8 : Int) < s.size := by omega
    rw [show opMay s = false by unfold opMay; simp [h2]]
    go_enter Tryz.func57, Tryz.ntmps57
    go_wp2
    go_ret
    exact ⟨rfl, rfl⟩
end Go.Proofs.YtobpidmlgldnmaaGreatDoor

/-
  What a page is told, plainly: operators' names, what is read of a text, what is written.
-/
namespace Go.Proofs.YtobpidmlgldnmaaGreatDoor
open Go.RowKit
set_option maxRecDepth 100000

/-- An operator: its name, and the values ahead of it. -/
abbrev OpP := ByteArray × List V
/-- What one step makes of what stands at p: an error, where it ends, the operators, the values that wait. -/
noncomputable def stepR (s : ByteArray) (p : Nat) (O : List OpP) (A : List V) : Int × Nat × List OpP × List V :=
  if opMay (wordP s p) = true then (if O.length = 2000 then (2, p, O, A) else (0, p + (wordP s p).size, O ++ [(wordP s p, A)], []))
  else if (pV s p).2.1 ≠ 0 then ((pV s p).2.1, p, O, A)
  else if A.length = 8 then (10, p, O, A)
  else (0, (pV s p).2.2, O, A ++ [(pV s p).1])
/-- What reading operators makes, from a place on: the operators, an error. -/
noncomputable def opsR (s : ByteArray) : Nat → Nat → List OpP → List V → List OpP × Int
  | 0, _, _, _ => ([], 0)
  | n + 1, j, O, A =>
    if skipP s j = s.size then (if A.length = 0 then (O, 0) else ([], 5))
    else if (stepR s (skipP s j) O A).1 ≠ 0 then ([], (stepR s (skipP s j) O A).1)
    else opsR s n (stepR s (skipP s j) O A).2.1 (stepR s (skipP s j) O A).2.2.1 (stepR s (skipP s j) O A).2.2.2
noncomputable def opsP (s : ByteArray) : List OpP × Int := if 20000 < s.size then ([], 2) else opsR s (s.size + 1) 0 [] []
theorem pV_far {s : ByteArray} {k : Nat} (hk : k ≤ s.size) (h : (pV s k).2.1 = 0) : k < (pV s k).2.2 ∧ (pV s k).2.2 ≤ s.size ∧ faultV (pV s k).1 = 0 ∧ (pV s k).1.cnt ≤ 60000 := by
  unfold pV at h ⊢
  by_cases h1 : 60000 < s.size ∨ (k : Int) < 0 ∨ (s.size : Int) < (k : Int)
  · rw [if_pos h1] at h; exact absurd (show (1 : Int) = 0 from h) (by decide)
  · rw [if_neg h1, Int.toNat_natCast] at h
    rw [if_neg h1, Int.toNat_natCast]
    by_cases h2 : (rdV s 8 k).2.1 ≠ 0
    · rw [if_pos h2] at h; exact absurd h h2
    · rw [if_neg h2] at h
      rw [if_neg h2]
      by_cases h3 : faultV (rdV s 8 k).1 ≠ 0
      · rw [if_pos h3] at h; exact absurd h h3
      · rw [if_neg h3]
        have q := rdV_fits s 8 k hk (by simpa using h2)
        have c : 1 ≤ (rdV s 8 k).1.cnt := by rw [cnt_eq]; omega
        exact ⟨by omega, q.2, by simpa using h3, by omega⟩
theorem stepR_far {s : ByteArray} {p : Nat} {O : List OpP} {A : List V} (hp : p ≤ s.size) (h : (stepR s p O A).1 = 0) : p < (stepR s p O A).2.1 ∧ (stepR s p O A).2.1 ≤ s.size := by
  unfold stepR at h ⊢
  by_cases h1 : opMay (wordP s p) = true
  · rw [if_pos h1] at h ⊢
    by_cases h2 : O.length = 2000
    · rw [if_pos h2] at h; exact absurd (show (2 : Int) = 0 from h) (by decide)
    · rw [if_neg h2]
      have := opMay_pos h1
      have := yWordLe hp
      exact ⟨by show p < p + _; omega, by show p + _ ≤ _; omega⟩
  · rw [if_neg h1] at h ⊢
    by_cases h2 : (pV s p).2.1 ≠ 0
    · rw [if_pos h2] at h; exact absurd h h2
    · rw [if_neg h2] at h ⊢
      by_cases h3 : A.length = 8
      · rw [if_pos h3] at h; exact absurd (show (10 : Int) = 0 from h) (by decide)
      · rw [if_neg h3]
        have q := pV_far hp (by simpa using h2)
        exact ⟨q.1, q.2.1⟩
end Go.Proofs.YtobpidmlgldnmaaGreatDoor

/-
  Operators in memory: the list that a call makes, and the values that wait for one.
-/
namespace Go.Proofs.YtobpidmlgldnmaaGreatDoor
open Go.RowKit
set_option maxRecDepth 100000

/-- Values as a list in memory. -/
def listV5 (l : List V) : V := ⟨5, 0, eB, l, []⟩
def listC (t : Value) : List Value := [.int .i64 5, .int .i64 0, .string eB, t, .slice none 0 0]
/-- Operators in memory: a slice of them. -/
def OpsN (d : Nat) (w : World) (t : Value) (L : List OpP) : Prop :=
  ∃ a c, t = .slice a L.length c ∧ L.length ≤ maxLen ∧ ∀ (i : Nat) o, L[i]? = some o → ∃ b off tA, a = some ⟨b, off, none⟩ ∧ b < w.heap.size ∧ w.cell? ⟨b, off + i * 2, none⟩ = some (.string o.1) ∧ w.cell? ⟨b, off + i * 2 + 1, none⟩ = some tA ∧ o.1.size ≤ maxLen ∧ RepN d w (listV5 o.2) (listC tA)
theorem OpsN.later {d : Nat} {w w' : World} {t : Value} {L : List OpP} (h : OpsN d w t L) (hb : Below w.heap.size w w') : OpsN d w' t L := by
  obtain ⟨a, c, h1, h2, h3⟩ := h
  refine ⟨a, c, h1, h2, fun i o ho => ?_⟩
  obtain ⟨b, off, tA, q1, q2, q3, q4, q5, q6⟩ := h3 i o ho
  exact ⟨b, off, tA, q1, Nat.lt_of_lt_of_le q2 hb.size, (hb.cell (p := ⟨b, _, none⟩) q2).trans q3, (hb.cell (p := ⟨b, _, none⟩) q2).trans q4, q5, q6.later hb⟩
/-- Operators, and their cells. -/
abbrev OC := OpP × List Value
def flatQ (O : List OC) : List Value := O.flatMap (·.2)
theorem flatQ_append (O O' : List OC) : flatQ (O ++ O') = flatQ O ++ flatQ O' := List.flatMap_append
theorem flatQ_one (o : OC) : flatQ [o] = o.2 := by simp [flatQ]
theorem flatQ_get : ∀ {O : List OC} {i : Nat} {o : OC}, (∀ o ∈ O, o.2.length = 2) → O[i]? = some o → ∀ j, j < 2 → (flatQ O)[i * 2 + j]? = o.2[j]?
  | [], i, o, _, h, _, _ => by simp at h
  | p :: O, 0, o, hk, h, j, hj => by
    simp at h; subst h
    have := hk p (by simp)
    rw [flatQ, List.flatMap_cons, List.getElem?_append_left (by omega)]; simp
  | p :: O, i + 1, o, hk, h, j, hj => by
    have h1 := hk p (by simp)
    have ih := flatQ_get (O := O) (fun q hq => hk q (by simp [hq])) (show O[i]? = some o by simpa using h) j hj
    rw [flatQ, List.flatMap_cons, List.getElem?_append_right (by omega), h1, show (i + 1) * 2 + j - 2 = i * 2 + j by omega]
    exact ih
/-- The blocks that the read values may lie in: new ones, neither row's own. -/
def Free (B : Nat) (w : World) (tO tA : Value) (b : Nat) : Prop := B ≤ b ∧ b < w.heap.size ∧ some b ≠ tO.ownBlock ∧ some b ≠ tA.ownBlock
/-- Operators that are being read, and the values that wait. -/
structure OpsM (B : Nat) (w : World) (tO tA : Value) (O : List OC) (A : List VC) : Prop where
  le : B ≤ w.heap.size
  ownO : w.ownsRow B 41 2 tO O.length (flatQ O)
  ownA : w.ownsRow B 38 5 tA A.length (flatV A)
  apart : ∀ g, tO.ownBlock = some g → tA.ownBlock ≠ some g
  repsA : ∀ o ∈ A, RepIn (Free B w tO tA) 9 w o.1 o.2
  repsO : ∀ o ∈ O, o.1.1.size ≤ maxLen ∧ ∃ t, o.2 = [.string o.1.1, t] ∧ RepIn (Free B w tO tA) 10 w (listV5 o.1.2) (listC t)
theorem OpsM.nil (B : Nat) (w : World) (h : B ≤ w.heap.size) : OpsM B w (.slice none 0 0) (.slice none 0 0) [] [] :=
  ⟨h, World.ownsRow_nil _ _ _ _, World.ownsRow_nil _ _ _ _, fun g h => by simp [Value.ownBlock] at h, fun o h => by simp at h, fun o h => by simp at h⟩
theorem OpsM.keep {B P : Nat} {a b : World} {tO tA : Value} {O : List OC} {A : List VC} (h : OpsM B a tO tA O A) (hP : P < B) (k : KeepBut P a b) : OpsM B b tO tA O A := by
  have hg : a.grownBy b (some P) := ⟨k.os, k.tape, k.output, k.size, fun i hi hne => k.block i hi (fun e => hne (by rw [e]))⟩
  have ag : ∀ i, Free B a tO tA i → b.heap[i]? = a.heap[i]? := fun i hi => k.block i hi.2.1 (by have := hi.1; omega)
  have mo : ∀ i, Free B a tO tA i → Free B b tO tA i := fun i hi => ⟨hi.1, Nat.lt_of_lt_of_le hi.2.1 k.size, hi.2.2⟩
  refine ⟨Nat.le_trans h.le k.size, World.ownsRow.kept h.ownO hg (.inr fun e => ?_), World.ownsRow.kept h.ownA hg (.inr fun e => ?_), h.apart, fun o ho => ((h.repsA o ho).agree k.size ag).mono mo, fun o ho => ?_⟩
  · have := (h.ownO.lt P e).1; omega
  · have := (h.ownA.lt P e).1; omega
  · obtain ⟨q1, t, q2, q3⟩ := h.repsO o ho
    exact ⟨q1, t, q2, (q3.agree k.size ag).mono mo⟩
theorem OpsM.later {B : Nat} {a b : World} {tO tA : Value} {O : List OC} {A : List VC} (h : OpsM B a tO tA O A) (k : Below a.heap.size a b) : OpsM B b tO tA O A := by
  have hg : a.grownBy b none := ⟨k.os, k.tape, k.output, k.size, fun i hi _ => k.block i hi⟩
  have ag : ∀ i, Free B a tO tA i → b.heap[i]? = a.heap[i]? := fun i hi => k.block i hi.2.1
  have mo : ∀ i, Free B a tO tA i → Free B b tO tA i := fun i hi => ⟨hi.1, Nat.lt_of_lt_of_le hi.2.1 k.size, hi.2.2⟩
  refine ⟨Nat.le_trans h.le k.size, World.ownsRow.kept h.ownO hg ?_, World.ownsRow.kept h.ownA hg ?_, h.apart, fun o ho => ((h.repsA o ho).agree k.size ag).mono mo, fun o ho => ?_⟩
  · cases tO.ownBlock <;> simp
  · cases tA.ownBlock <;> simp
  · obtain ⟨q1, t, q2, q3⟩ := h.repsO o ho
    exact ⟨q1, t, q2, (q3.agree k.size ag).mono mo⟩
/-- A value that was read into new blocks. -/
theorem OpsM.fresh {B : Nat} {a b : World} {tO tA : Value} {O : List OC} {A : List VC} {x : V} {c : List Value} (h : OpsM B a tO tA O A) (hx : RepIn (fun g => a.heap.size ≤ g ∧ g < b.heap.size) 9 b x c) : RepIn (Free B b tO tA) 9 b x c := by
  refine hx.mono fun g hg => ⟨Nat.le_trans h.le hg.1, hg.2, fun e => ?_, fun e => ?_⟩
  · have := (h.ownO.lt g e.symm).2; have := hg.1; omega
  · have := (h.ownA.lt g e.symm).2; have := hg.1; omega
/-- One more value waits. -/
theorem OpsM.addV {B : Nat} {a w2 : World} {tO tA tA' : Value} {O : List OC} {A : List VC} {x : V} {c : List Value} (h : OpsM B a tO tA O A) (hx : RepIn (Free B a tO tA) 9 a x c)
    (hown : w2.ownsRow B 38 5 tA' (A.length + 1) (flatV A ++ c)) (hg : a.grownBy w2 tA.ownBlock) (hat : tA'.ownBlock = tA.ownBlock ∨ tA'.ownBlock = some a.heap.size) : OpsM B w2 tO tA' O (A ++ [(x, c)]) := by
  have ag : ∀ i, Free B a tO tA i → w2.heap[i]? = a.heap[i]? := fun i hi => hg.block i hi.2.1 hi.2.2.2
  have mo : ∀ i, Free B a tO tA i → Free B w2 tO tA' i := fun i hi => ⟨hi.1, Nat.lt_of_lt_of_le hi.2.1 hg.size, hi.2.2.1, by
    rcases hat with e | e
    · rw [e]; exact hi.2.2.2
    · rw [e]; intro e'; injection e' with e'; have := hi.2.1; omega⟩
  refine ⟨Nat.le_trans h.le hg.size, World.ownsRow.kept h.ownO hg ?_, by rw [List.length_append, flatV_append, flatV_one]; exact hown, fun g hgO e => ?_, fun o ho => ?_, fun o ho => ?_⟩
  · cases hO : tO.ownBlock with
    | none => exact .inl rfl
    | some g => exact .inr (fun e => h.apart g hO e.symm)
  · rcases hat with q | q
    · exact h.apart g hgO (q ▸ e)
    · have := (h.ownO.lt g hgO).2; rw [q] at e; injection e with e; omega
  · rcases List.mem_append.1 ho with ho | ho
    · exact ((h.repsA o ho).agree hg.size ag).mono mo
    · rw [List.mem_singleton.1 ho]; exact (hx.agree hg.size ag).mono mo
  · obtain ⟨q1, t, q2, q3⟩ := h.repsO o ho
    exact ⟨q1, t, q2, (q3.agree hg.size ag).mono mo⟩
/-- One more operator: it takes the values that waited. -/
theorem OpsM.addO {B : Nat} {a w2 : World} {tO tA tO' : Value} {O : List OC} {A : List VC} {nm : ByteArray} (h : OpsM B a tO tA O A) (hn : nm.size ≤ maxLen) (hA : A.length ≤ 1000)
    (hown : w2.ownsRow B 41 2 tO' (O.length + 1) (flatQ O ++ [.string nm, tA])) (hg : a.grownBy w2 tO.ownBlock) (hat : tO'.ownBlock = tO.ownBlock ∨ tO'.ownBlock = some a.heap.size) :
    OpsM B w2 tO' (.slice none 0 0) (O ++ [((nm, A.map (·.1)), [.string nm, tA])]) [] := by
  have hlist : RepIn (fun b => B ≤ b ∧ b < a.heap.size ∧ some b ≠ tO.ownBlock) 10 a (listV5 (A.map (·.1))) (listC tA) :=
    repIn_list h.ownA h.repsA hA (fun b hb => ⟨hb.1, hb.2.1, hb.2.2.1⟩) (fun g hgA => ⟨(h.ownA.lt g hgA).1, (h.ownA.lt g hgA).2, fun e => h.apart g e.symm hgA⟩)
  have ag : ∀ i, (B ≤ i ∧ i < a.heap.size ∧ some i ≠ tO.ownBlock) → w2.heap[i]? = a.heap[i]? := fun i hi => hg.block i hi.2.1 hi.2.2
  have mo : ∀ i, (B ≤ i ∧ i < a.heap.size ∧ some i ≠ tO.ownBlock) → Free B w2 tO' (.slice none 0 0) i := fun i hi => ⟨hi.1, Nat.lt_of_lt_of_le hi.2.1 hg.size, by
    rcases hat with e | e
    · rw [e]; exact hi.2.2
    · rw [e]; intro e'; injection e' with e'; have := hi.2.1; omega, by simp [Value.ownBlock]⟩
  refine ⟨Nat.le_trans h.le hg.size, by rw [List.length_append, flatQ_append, flatQ_one]; exact hown, World.ownsRow_nil _ _ _ _, fun g _ e => by simp [Value.ownBlock] at e, fun o ho => by simp at ho, fun o ho => ?_⟩
  rcases List.mem_append.1 ho with ho | ho
  · obtain ⟨q1, t, q2, q3⟩ := h.repsO o ho
    exact ⟨q1, t, q2, ((q3.mono fun i hi => ⟨hi.1, hi.2.1, hi.2.2.1⟩).agree hg.size ag).mono mo⟩
  · rw [List.mem_singleton.1 ho]
    exact ⟨hn, tA, rfl, (hlist.agree hg.size ag).mono mo⟩
/-- The list as it stands. -/
theorem OpsM.list {B : Nat} {w : World} {tO tA : Value} {O : List OC} {A : List VC} (h : OpsM B w tO tA O A) (hO : O.length ≤ 10000) : OpsN 10 w tO (O.map (·.1)) := by
  have h2 : ∀ o ∈ O, o.2.length = 2 := fun o ho => by obtain ⟨_, t, q, _⟩ := h.repsO o ho; rw [q]; rfl
  rcases h.ownO.2 with ⟨rfl, h0⟩ | ⟨g, cap, cur, rfl, _, hg, _⟩
  · have : O = [] := List.eq_nil_of_length_eq_zero h0
    subst this
    exact ⟨none, 0, rfl, by simp [maxLen], fun i o ho => by simp at ho⟩
  · refine ⟨some ⟨g, 0, none⟩, cap, by simp, by simp [maxLen]; omega, fun i p hp => ?_⟩
    rw [List.getElem?_map, Option.map_eq_some_iff] at hp
    obtain ⟨o, ho, rfl⟩ := hp
    have hi := (List.getElem?_eq_some_iff.1 ho).1
    obtain ⟨q1, t, q2, q3⟩ := h.repsO o (List.mem_of_getElem? ho)
    have e0 := flatQ_get h2 ho 0 (by omega)
    have e1 := flatQ_get h2 ho 1 (by omega)
    rw [q2] at e0 e1
    refine ⟨g, 0, t, rfl, (Array.getElem?_eq_some_iff.1 hg).1, ?_, ?_, q1, q3.now⟩
    · rw [Nat.zero_add]
      have := h.ownO.cellAt (j := i * 2 + 0) (by omega)
      rw [e0] at this; exact this
    · rw [Nat.zero_add]
      have := h.ownO.cellAt (j := i * 2 + 1) (by omega)
      rw [e1] at this; exact this
end Go.Proofs.YtobpidmlgldnmaaGreatDoor
