/-
  Joined: Gj, Ma, Mb.
-/
import Derived.Test.YtobpidmlgldnmaaGreatDoorGf
import Derived.Deep.AppendSrc
import Derived.Test.YtobpidmlgldnmaaGreatDoorPt
import Derived.Test.YtobpidmlgldnmaaGreatDoorKb

/-
  Signs of strings: one contract; lists of them that are the same.
-/
namespace Go.Proofs.YtobpidmlgldnmaaGreatDoor
open Go.RowKit
set_option maxRecDepth 100000
attribute [local go_sem ↓] Go.wp_at_zero Go.wp_at_succ

/-- What the signs of a string are as an answer. -/
def SgA (w' : World) (B : Nat) (F : Ft) (L : List UInt8) (v er : Value) : Prop :=
  (F.wide = true ∧ (∃ m, L.length = 2 * m + 1) ∧ v = .slice none 0 0 ∧ er = errV 4) ∨ ((F.wide = false ∨ ∃ m, L.length = 2 * m) ∧ er = .nilIface ∧ OwnG w' B v (sgL F L))
theorem signs_ft (F : Ft) (mw mn : Value) (al : Option Addr) (cap : Nat) (s : ByteArray) (w : World) (hs : s.size ≤ 1000) (hF : FtAt w F mw mn al) (hT : Tb w) (hf : spFault F.l F.wide = 0) :
    Calls Tryz.prog 87 #[ftV F mw mn al cap, .string s] w fun e w' => ∃ v er, e = .returned (.tuple #[v, er]) ∧ SgA w' w.heap.size F s.data.toList v er ∧ Below w.heap.size w w' := by
  have hl : s.data.toList.length = s.size := by simp
  cases hw : F.wide with
  | false =>
    refine (signs_narrow F mw mn al cap s w hw hs hF hT hf).mono ?_
    rintro e w' ⟨v, rfl, ho, hb⟩
    exact ⟨v, _, rfl, .inr ⟨.inl hw, rfl, ho⟩, hb⟩
  | true =>
    by_cases h2 : s.size % 2 = 0
    · refine (signs_wide F mw mn al cap s w hw hs ⟨s.size / 2, by omega⟩ hF hT hf).mono ?_
      rintro e w' ⟨v, rfl, ho, hb⟩
      exact ⟨v, _, rfl, .inr ⟨.inr ⟨s.size / 2, by omega⟩, rfl, ho⟩, hb⟩
    · refine (signs_odd F mw mn al cap s w hw hs ⟨s.size / 2, by omega⟩).mono ?_
      rintro e w' ⟨rfl, hb⟩
      exact ⟨_, _, rfl, .inl ⟨hw, ⟨s.size / 2, by omega⟩, rfl, rfl⟩, hb⟩
/-- The cells of signs. -/
def SgAt (w : World) (al : Option Addr) (l : List Sp) : Prop :=
  ∀ i x, l[i]? = some x → ∃ b off, al = some ⟨b, off, none⟩ ∧ b < w.heap.size ∧ w.cell? ⟨b, off + i * 3, none⟩ = some (.int .i64 x.f) ∧ w.cell? ⟨b, off + i * 3 + 1, none⟩ = some (.int .i64 x.t) ∧ w.cell? ⟨b, off + i * 3 + 2, none⟩ = some (.string x.s)
theorem SgAt.later {w w' : World} {al : Option Addr} {l : List Sp} (h : SgAt w al l) (hB : Below w.heap.size w w') : SgAt w' al l := fun i x hx => by
  obtain ⟨b, off, e, hb, c0, c1, c2⟩ := h i x hx
  exact ⟨b, off, e, Nat.lt_of_lt_of_le hb hB.size, (hB.cell (p := ⟨b, off + i * 3, none⟩) hb).trans c0, (hB.cell (p := ⟨b, off + i * 3 + 1, none⟩) hb).trans c1, (hB.cell (p := ⟨b, off + i * 3 + 2, none⟩) hb).trans c2⟩
theorem clG_at : ∀ (l : List Sp) (i : Nat) (x : Sp), l[i]? = some x → (clG l)[i * 3]? = some (.int .i64 x.f) ∧ (clG l)[i * 3 + 1]? = some (.int .i64 x.t) ∧ (clG l)[i * 3 + 2]? = some (.string x.s)
  | [], i, x, h => by simp at h
  | y :: l, 0, x, h => by
    simp at h; subst h
    exact ⟨rfl, rfl, rfl⟩
  | y :: l, i + 1, x, h => by
    have q := clG_at l i x (by simpa using h)
    have e : clG (y :: l) = .int .i64 y.f :: .int .i64 y.t :: .string y.s :: clG l := rfl
    rw [e, show (i + 1) * 3 = i * 3 + 1 + 1 + 1 by omega, show i * 3 + 1 + 1 + 1 + 1 = (i * 3 + 1) + 1 + 1 + 1 by omega, show i * 3 + 1 + 1 + 1 + 2 = (i * 3 + 2) + 1 + 1 + 1 by omega]
    simp only [List.getElem?_cons_succ]
    exact q
theorem OwnG.at {w : World} {B : Nat} {v : Value} {l : List Sp} (h : OwnG w B v l) : ∃ al c, v = .slice al l.length c ∧ SgAt w al l := by
  have hc := fun g => World.ownsRow.cells h (g := g)
  obtain ⟨_, ⟨rfl, h2⟩ | ⟨g, cap, cur, rfl, h2, h3, h4, _⟩⟩ := h
  · obtain rfl := List.eq_nil_of_length_eq_zero h2
    exact ⟨none, 0, rfl, fun i x hx => by simp at hx⟩
  · refine ⟨_, cap, rfl, fun i x hx => ?_⟩
    obtain ⟨q0, q1, q2⟩ := clG_at l i x hx
    have k0 := hc g rfl _ _ q0
    have k1 := hc g rfl _ _ q1
    have k2 := hc g rfl _ _ q2
    rw [Lib.add_plain, Nat.zero_add] at k0 k1 k2
    exact ⟨g, 0, rfl, (Array.getElem?_eq_some_iff.1 h3).1, by rw [Nat.zero_add]; exact k0, by rw [Nat.zero_add]; exact k1, by rw [Nat.zero_add]; exact k2⟩
end Go.Proofs.YtobpidmlgldnmaaGreatDoor

/-
  Contracts of matrices: the one that moves nothing, a point that is moved, two matrices one behind the other: of the program and of the document's answer.
-/
namespace Go.Proofs.YtobpidmlgldnmaaGreatDoor
open Go.RowKit
set_option maxRecDepth 100000

/-- A point moved: the number of the error, and where it is. -/
def apE (a b c d e f x y : Int) : Int := if linE a x c y e = 0 ∧ linE b x d y f = 0 then 0 else 1
def apX (a b c d e f x y : Int) : Int := if apE a b c d e f x y = 0 then linN a x c y e else 0
def apY (a b c d e f x y : Int) : Int := if apE a b c d e f x y = 0 then linN b x d y f else 0
theorem apE_01 (a b c d e f x y : Int) : 0 ≤ apE a b c d e f x y ∧ apE a b c d e f x y ≤ 1 := by unfold apE; split <;> omega
theorem ap_ok {a b c d e f x y : Int} (h1 : linE a x c y e = 0) (h2 : linE b x d y f = 0) : apE a b c d e f x y = 0 ∧ apX a b c d e f x y = linN a x c y e ∧ apY a b c d e f x y = linN b x d y f := by
  have : apE a b c d e f x y = 0 := by unfold apE; rw [if_pos ⟨h1, h2⟩]
  exact ⟨this, by unfold apX; rw [if_pos this], by unfold apY; rw [if_pos this]⟩
theorem ap_bad {a b c d e f x y : Int} (h : linE a x c y e ≠ 0 ∨ linE b x d y f ≠ 0) : apE a b c d e f x y = 1 ∧ apX a b c d e f x y = 0 ∧ apY a b c d e f x y = 0 := by
  have : apE a b c d e f x y = 1 := by unfold apE; rw [if_neg (by omega)]
  exact ⟨this, by unfold apX; rw [this]; rfl, by unfold apY; rw [this]; rfl⟩
theorem anyBad_8 (a b c d e f x y : Int) : anyBad [a, b, c, d, e, f, x, y] = (!okF a || !okF b || !okF c || !okF d || !okF e || !okF f || !okF x || !okF y) := by simp [anyBad, Bool.or_assoc]

theorem someNone_at (zs : List Int) (n n0 : Nat) (cs : Array Value) (w : World) (hl : zs.length = n) (hn : zs.length ≤ 1000) (hcs : cs = (zs.map (Value.int .i64)).toArray) (h0 : n0 = w.heap.size) :
    Calls Tryz.prog 100 #[.slice (some ⟨n0, 0, none⟩) n n] (w.alloc (.cells cs 3)) fun e w' => e = .returned (.bool (anyBad zs)) ∧ w' = w.alloc (.cells cs 3) := by
  subst h0; exact someNone_new zs n cs w hl hn hcs

set_option maxHeartbeats 400000 in
theorem apply_none (a b c d e f x y : Int) (w : World) (h : anyBad [a, b, c, d, e, f, x, y] = true) :
    Calls Tryz.prog 85 #[.agg #[.int .i64 a, .int .i64 b, .int .i64 c, .int .i64 d, .int .i64 e, .int .i64 f], .agg #[.int .i64 x, .int .i64 y]] w fun r w' => r = .returned (.tuple #[.agg #[.int .i64 0, .int .i64 0], errV 1]) ∧ Below w.heap.size w w' := by
  go_enter Tryz.func85, Tryz.ntmps85
  go_wp2_with (go_at_call 100; refine (someNone_at [a, b, c, d, e, f, x, y] 8 _ _ _ rfl (by simp) rfl (by simp)).mono ?_; rintro r w' ⟨rfl, rfl⟩)
  refine bodyPost_ret (v := .tuple #[.agg #[.int .i64 0, .int .i64 0], errV 1]) (by simp [results, Tryz.results85, go_sem, errV]) rfl ⟨rfl, ?_⟩
  go_grown

theorem eq_of_lin {v : Int} (h : 0 ≤ v ∧ v ≤ 1) (h0 : v ≠ 0) : errN v = .iface 68 (.int .i64 1) := by
  have : v = 1 := by omega
  subst this; rfl

set_option maxHeartbeats 1000000 in
theorem apply_all (a b c d e f x y : Int) (w : World) (h : anyBad [a, b, c, d, e, f, x, y] = false) :
    Calls Tryz.prog 85 #[.agg #[.int .i64 a, .int .i64 b, .int .i64 c, .int .i64 d, .int .i64 e, .int .i64 f], .agg #[.int .i64 x, .int .i64 y]] w fun r w' => r = .returned (.tuple #[.agg #[.int .i64 (apX a b c d e f x y), .int .i64 (apY a b c d e f x y)], errN (apE a b c d e f x y)]) ∧ Below w.heap.size w w' := by
  have h' := h
  rw [anyBad_8] at h'
  simp only [Bool.or_eq_false_iff, Bool.not_eq_false', and_assoc] at h'
  obtain ⟨ha, hb, hc, hd, he, hf, hx, hy⟩ := h'
  by_cases h1 : linE a x c y e = 0
  · by_cases h2 : linE b x d y f = 0
    · obtain ⟨q1, q2, q3⟩ := ap_ok h1 h2
      rw [q1, q2, q3, errN_0]
      have e1 : errN (linE a x c y e) = .nilIface := by rw [h1]; rfl
      have e2 : errN (linE b x d y f) = .nilIface := by rw [h2]; rfl
      clear q1 q2 q3 h1 h2
      go_enter Tryz.func85, Tryz.ntmps85
      go_wp2_with (first
        | (go_at_call 100; refine (someNone_at [a, b, c, d, e, f, x, y] 8 _ _ _ rfl (by simp) rfl (by simp)).mono ?_; rintro r w' ⟨rfl, rfl⟩)
        | (go_at_call 101; refine (together_any _ _ _ _ _ _ (by assumption) (by assumption) (by assumption) (by assumption) (by assumption)).mono ?_; rintro r w' ⟨rfl, rfl⟩))
      refine bodyPost_ret (v := .tuple #[.agg #[.int .i64 (linN a x c y e), .int .i64 (linN b x d y f)], .nilIface]) (by simp [results, Tryz.results85, go_sem]) rfl ⟨rfl, ?_⟩
      go_grown
    · obtain ⟨q1, q2, q3⟩ := ap_bad (a := a) (b := b) (c := c) (d := d) (e := e) (f := f) (x := x) (y := y) (Or.inr h2)
      rw [q1, q2, q3, errN_1]
      have e1 : errN (linE a x c y e) = .nilIface := by rw [h1]; rfl
      have e2 := eq_of_lin (linE_01 b x d y f) h2
      clear q1 q2 q3 h1 h2
      go_enter Tryz.func85, Tryz.ntmps85
      go_wp2_with (first
        | (go_at_call 100; refine (someNone_at [a, b, c, d, e, f, x, y] 8 _ _ _ rfl (by simp) rfl (by simp)).mono ?_; rintro r w' ⟨rfl, rfl⟩)
        | (go_at_call 101; refine (together_any _ _ _ _ _ _ (by assumption) (by assumption) (by assumption) (by assumption) (by assumption)).mono ?_; rintro r w' ⟨rfl, rfl⟩))
      refine bodyPost_ret (v := .tuple #[.agg #[.int .i64 0, .int .i64 0], errV 1]) (by simp [results, Tryz.results85, go_sem, errV]) rfl ⟨rfl, ?_⟩
      go_grown
  · obtain ⟨q1, q2, q3⟩ := ap_bad (a := a) (b := b) (c := c) (d := d) (e := e) (f := f) (x := x) (y := y) (Or.inl h1)
    rw [q1, q2, q3, errN_1]
    have e1 := eq_of_lin (linE_01 a x c y e) h1
    clear q1 q2 q3 h1
    go_enter Tryz.func85, Tryz.ntmps85
    go_wp2_with (first
      | (go_at_call 100; refine (someNone_at [a, b, c, d, e, f, x, y] 8 _ _ _ rfl (by simp) rfl (by simp)).mono ?_; rintro r w' ⟨rfl, rfl⟩)
      | (go_at_call 101; refine (together_any _ _ _ _ _ _ (by assumption) (by assumption) (by assumption) (by assumption) (by assumption)).mono ?_; rintro r w' ⟨rfl, rfl⟩))
    refine bodyPost_ret (v := .tuple #[.agg #[.int .i64 0, .int .i64 0], errV 1]) (by simp [results, Tryz.results85, go_sem, errV]) rfl ⟨rfl, ?_⟩
    go_grown
theorem linE_bad {a x c y e : Int} (h : okF a = false ∨ okF x = false ∨ okF c = false ∨ okF y = false ∨ okF e = false) : linE a x c y e ≠ 0 := by
  rw [(lin_bad (a := a) (x := x) (c := c) (y := y) (e := e) (by rcases h with h | h | h | h | h <;> simp [h])).1]; omega
theorem apply_any (a b c d e f x y : Int) (w : World) :
    Calls Tryz.prog 85 #[.agg #[.int .i64 a, .int .i64 b, .int .i64 c, .int .i64 d, .int .i64 e, .int .i64 f], .agg #[.int .i64 x, .int .i64 y]] w fun r w' => r = .returned (.tuple #[.agg #[.int .i64 (apX a b c d e f x y), .int .i64 (apY a b c d e f x y)], errN (apE a b c d e f x y)]) ∧ Below w.heap.size w w' := by
  cases h : anyBad [a, b, c, d, e, f, x, y]
  · exact apply_all a b c d e f x y w h
  · have h' := h
    rw [anyBad_8] at h'
    simp only [Bool.or_eq_true, Bool.not_eq_true', or_assoc] at h'
    have hb : linE a x c y e ≠ 0 ∨ linE b x d y f ≠ 0 := by
      rcases h' with h | h | h | h | h | h | h | h
      · exact Or.inl (linE_bad (by simp [h]))
      · exact Or.inr (linE_bad (by simp [h]))
      · exact Or.inl (linE_bad (by simp [h]))
      · exact Or.inr (linE_bad (by simp [h]))
      · exact Or.inl (linE_bad (by simp [h]))
      · exact Or.inr (linE_bad (by simp [h]))
      · exact Or.inl (linE_bad (by simp [h]))
      · exact Or.inl (linE_bad (by simp [h]))
    obtain ⟨q1, q2, q3⟩ := ap_bad hb
    rw [q1, q2, q3, errN_1]
    exact apply_none a b c d e f x y w h
end Go.Proofs.YtobpidmlgldnmaaGreatDoor

/-
  Contracts of two matrices, one behind the other: of the program and of the document's answer; the matrix that moves nothing.
-/
namespace Go.Proofs.YtobpidmlgldnmaaGreatDoor
open Go.RowKit
set_option maxRecDepth 100000

theorem lin_swap (a x c y e : Int) : linE x a y c e = linE a x c y e ∧ linN x a y c e = linN a x c y e := by
  unfold linE linN
  rw [Int.mul_comm x a, Int.mul_comm y c]
  have h : (okF x && okF a && okF y && okF c && okF e && okF ((a * x + c * y) / 1000 + e)) = (okF a && okF x && okF c && okF y && okF e && okF ((a * x + c * y) / 1000 + e)) := by
    cases okF x <;> cases okF a <;> cases okF y <;> cases okF c <;> rfl
  rw [h]; exact ⟨rfl, rfl⟩
/-- Two matrices: the number of the error. -/
def coE (a b c d e f A B C D E F : Int) : Int := if linE a A b C 0 = 0 ∧ linE a B b D 0 = 0 ∧ linE c A d C 0 = 0 ∧ linE c B d D 0 = 0 ∧ linE e A f C E = 0 ∧ linE e B f D F = 0 then 0 else 1
theorem coE_01 (a b c d e f A B C D E F : Int) : 0 ≤ coE a b c d e f A B C D E F ∧ coE a b c d e f A B C D E F ≤ 1 := by unfold coE; split <;> omega
/-- A field of the two, or 0. -/
def coN (a b c d e f A B C D E F : Int) (n : Int) : Int := if coE a b c d e f A B C D E F = 0 then n else 0
def coV (a b c d e f A B C D E F : Int) : Value := .agg #[.int .i64 (coN a b c d e f A B C D E F (linN a A b C 0)), .int .i64 (coN a b c d e f A B C D E F (linN a B b D 0)), .int .i64 (coN a b c d e f A B C D E F (linN c A d C 0)), .int .i64 (coN a b c d e f A B C D E F (linN c B d D 0)), .int .i64 (coN a b c d e f A B C D E F (linN e A f C E)), .int .i64 (coN a b c d e f A B C D E F (linN e B f D F))]
theorem coV_ok {a b c d e f A B C D E F : Int} (h : coE a b c d e f A B C D E F = 0) : coV a b c d e f A B C D E F = .agg #[.int .i64 (linN a A b C 0), .int .i64 (linN a B b D 0), .int .i64 (linN c A d C 0), .int .i64 (linN c B d D 0), .int .i64 (linN e A f C E), .int .i64 (linN e B f D F)] := by
  simp [coV, coN, h]
theorem coV_bad {a b c d e f A B C D E F : Int} (h : coE a b c d e f A B C D E F = 1) : coV a b c d e f A B C D E F = .agg #[.int .i64 0, .int .i64 0, .int .i64 0, .int .i64 0, .int .i64 0, .int .i64 0] := by
  simp [coV, coN, h]

set_option maxHeartbeats 400000 in
theorem unit_any (w : World) :
    Calls Tryz.prog 34 #[] w fun r w' => r = .returned (.agg #[.int .i64 1000, .int .i64 0, .int .i64 0, .int .i64 1000, .int .i64 0, .int .i64 0]) ∧ Below w.heap.size w w' := by
  go_enter Tryz.func34, Tryz.ntmps34
  go_wp2
  refine bodyPost_ret (v := .agg #[.int .i64 1000, .int .i64 0, .int .i64 0, .int .i64 1000, .int .i64 0, .int .i64 0]) (by simp [results, Tryz.results34, go_sem]) rfl ⟨rfl, ?_⟩
  go_grown

/-- What one of the program's three points is, against the document's two numbers. -/
theorem ap_lin (a b A B C D E F : Int) : (apE A B C D E F a b = 0 ↔ linE a A b C E = 0 ∧ linE a B b D F = 0) ∧ (apE A B C D E F a b = 0 → apX A B C D E F a b = linN a A b C E ∧ apY A B C D E F a b = linN a B b D F) := by
  have s1 := lin_swap a A b C E
  have s2 := lin_swap a B b D F
  have h01 := apE_01 A B C D E F a b
  constructor
  · unfold apE; rw [s1.1, s2.1]; split <;> simp_all
  · intro h
    unfold apX apY; rw [h, s1.2, s2.2]; exact ⟨rfl, rfl⟩

set_option maxHeartbeats 1000000 in
theorem concat_ok (a b c d e f A B C D E F : Int) (w : World) (h1 : apE A B C D 0 0 a b = 0) (h2 : apE A B C D 0 0 c d = 0) (h3 : apE A B C D E F e f = 0) :
    Calls Tryz.prog 70 #[.agg #[.int .i64 a, .int .i64 b, .int .i64 c, .int .i64 d, .int .i64 e, .int .i64 f], .agg #[.int .i64 A, .int .i64 B, .int .i64 C, .int .i64 D, .int .i64 E, .int .i64 F]] w fun r w' => r = .returned (.tuple #[.agg #[.int .i64 (linN a A b C 0), .int .i64 (linN a B b D 0), .int .i64 (linN c A d C 0), .int .i64 (linN c B d D 0), .int .i64 (linN e A f C E), .int .i64 (linN e B f D F)], .nilIface]) ∧ Below w.heap.size w w' := by
  have e1 : errN (apE A B C D 0 0 a b) = .nilIface := by rw [h1]; rfl
  have e2 : errN (apE A B C D 0 0 c d) = .nilIface := by rw [h2]; rfl
  have e3 : errN (apE A B C D E F e f) = .nilIface := by rw [h3]; rfl
  have v1 := (ap_lin a b A B C D 0 0).2 h1
  have v2 := (ap_lin c d A B C D 0 0).2 h2
  have v3 := (ap_lin e f A B C D E F).2 h3
  obtain ⟨x1, y1⟩ := v1
  obtain ⟨x2, y2⟩ := v2
  obtain ⟨x3, y3⟩ := v3
  clear h1 h2 h3
  go_enter Tryz.func70, Tryz.ntmps70
  go_wp2_with (go_at_call 85; fail)
  go_at_call 85
  refine (apply_any _ _ _ _ _ _ _ _ _).mono ?_
  rintro r w1 ⟨rfl, hb1⟩
  have B1 : Below w.heap.size w w1 := Below.trans (by go_grown) (hb1.mono (by simp; omega))
  have M := ((((At.new w #[.int .i64 a, .int .i64 b, .int .i64 c, .int .i64 d, .int .i64 e, .int .i64 f] 74 rfl).alloc _).alloc _).alloc _).later hb1
  have N := (((At.new (w.alloc _) #[.int .i64 A, .int .i64 B, .int .i64 C, .int .i64 D, .int .i64 E, .int .i64 F] 74 (b := w.heap.size + 1) (by simp)).alloc _).alloc _).later hb1
  have R := ((At.new ((w.alloc _).alloc _) #[.int .i64 0, .int .i64 0, .int .i64 0, .int .i64 0, .int .i64 0, .int .i64 0] 74 (b := w.heap.size + 1 + 1) (by simp)).alloc _).later hb1
  have S := (At.new (((w.alloc _).alloc _).alloc _) #[.int .i64 A, .int .i64 B, .int .i64 C, .int .i64 D, .int .i64 0, .int .i64 0] 74 (b := w.heap.size + 1 + 1 + 1) (by simp)).later hb1
  clear hb1
  have mz := M.lt
  have mc := M.cell
  have sz := S.lt
  have sc := S.cell
  go_wp2_with (go_at_call 85; fail)
  clear mz mc sz sc
  go_at_call 85
  refine (apply_any _ _ _ _ _ _ _ _ _).mono ?_
  rintro r w2 ⟨rfl, hb2⟩
  have B2 : Below w.heap.size w w2 := (B1.alloc B1.size _).trans (hb2.mono (by have := B1.size; simp; omega))
  have P1 := (At.new w1 #[.int .i64 (linN a A b C 0), .int .i64 (linN a B b D 0)] 44 rfl).later hb2
  have M2 := (M.alloc _).later hb2
  have N2 := (N.alloc _).later hb2
  have R2 := (R.alloc _).later hb2
  clear hb2 M N R S
  have mz := M2.lt
  have mc := M2.cell
  have nz := N2.lt
  have nc := N2.cell
  go_wp2_with (go_at_call 85; fail)
  clear mz mc nz nc
  go_at_call 85
  refine (apply_any _ _ _ _ _ _ _ _ _).mono ?_
  rintro r w3 ⟨rfl, hb3⟩
  have B3 : Below w.heap.size w w3 := (B2.alloc B2.size _).trans (hb3.mono (by have := B2.size; simp; omega))
  have P2 := (At.new w2 #[.int .i64 (linN c A d C 0), .int .i64 (linN c B d D 0)] 44 rfl).later hb3
  have P1' := (P1.alloc _).later hb3
  have R3 := (R2.alloc _).later hb3
  clear hb3 P1 M2 N2 R2
  have P3 := At.new w3 #[.int .i64 (linN e A f C E), .int .i64 (linN e B f D F)] 44 rfl
  have R4 := R3.alloc (.cells #[.int .i64 (linN e A f C E), .int .i64 (linN e B f D F)] 44)
  have Q1 := P1'.alloc (.cells #[.int .i64 (linN e A f C E), .int .i64 (linN e B f D F)] 44)
  have Q2 := P2.alloc (.cells #[.int .i64 (linN e A f C E), .int .i64 (linN e B f D F)] 44)
  have B4 := B3.alloc B3.size (.cells #[.int .i64 (linN e A f C E), .int .i64 (linN e B f D F)] 44)
  clear P1' P2 R3 B3
  have c1 := Q1.cell
  have c2 := Q2.cell
  go_wp2_with (refine wpList_store_row rfl 74 (.tmp 4) (.tmp 70) rfl (w.heap.size + 1 + 1) #[.int .i64 (linN a A b C 0), .int .i64 (linN a B b D 0), .int .i64 (linN c A d C 0), .int .i64 (linN c B d D 0), .int .i64 (linN e A f C E), .int .i64 (linN e B f D F)] rfl rfl 74 #[.int .i64 0, .int .i64 0, .int .i64 0, .int .i64 0, .int .i64 0, .int .i64 0] R4 (by kernel_rfl) rfl (ones6 _ _ _ _ _ _) ?_)
  have rc := (R4.setRow #[.int .i64 (linN a A b C 0), .int .i64 (linN a B b D 0), .int .i64 (linN c A d C 0), .int .i64 (linN c B d D 0), .int .i64 (linN e A f C E), .int .i64 (linN e B f D F)]).cell
  refine bodyPost_ret (v := .tuple #[.agg #[.int .i64 (linN a A b C 0), .int .i64 (linN a B b D 0), .int .i64 (linN c A d C 0), .int .i64 (linN c B d D 0), .int .i64 (linN e A f C E), .int .i64 (linN e B f D F)], .nilIface]) (by simp [results, Tryz.results70, go_sem, rc]) rfl ⟨rfl, ?_⟩
  exact below_setRow B4 (by omega) _
set_option maxHeartbeats 1000000 in
theorem concat_bad1 (a b c d e f A B C D E F : Int) (w : World) (h1 : apE A B C D 0 0 a b ≠ 0) :
    Calls Tryz.prog 70 #[.agg #[.int .i64 a, .int .i64 b, .int .i64 c, .int .i64 d, .int .i64 e, .int .i64 f], .agg #[.int .i64 A, .int .i64 B, .int .i64 C, .int .i64 D, .int .i64 E, .int .i64 F]] w fun r w' => r = .returned (.tuple #[.agg #[.int .i64 0, .int .i64 0, .int .i64 0, .int .i64 0, .int .i64 0, .int .i64 0], errV 1]) ∧ Below w.heap.size w w' := by
  have e1 := eq_of_lin (apE_01 A B C D 0 0 a b) h1
  go_enter Tryz.func70, Tryz.ntmps70
  go_wp2_with (go_at_call 85; fail)
  go_at_call 85
  refine (apply_any _ _ _ _ _ _ _ _ _).mono ?_
  rintro r w1 ⟨rfl, hb1⟩
  have B1 : Below w.heap.size w w1 := Below.trans (by go_grown) (hb1.mono (by simp; omega))
  have M := ((((At.new w #[.int .i64 a, .int .i64 b, .int .i64 c, .int .i64 d, .int .i64 e, .int .i64 f] 74 rfl).alloc _).alloc _).alloc _).later hb1
  have N := (((At.new (w.alloc _) #[.int .i64 A, .int .i64 B, .int .i64 C, .int .i64 D, .int .i64 E, .int .i64 F] 74 (b := w.heap.size + 1) (by simp)).alloc _).alloc _).later hb1
  have R := ((At.new ((w.alloc _).alloc _) #[.int .i64 0, .int .i64 0, .int .i64 0, .int .i64 0, .int .i64 0, .int .i64 0] 74 (b := w.heap.size + 1 + 1) (by simp)).alloc _).later hb1
  have S := (At.new (((w.alloc _).alloc _).alloc _) #[.int .i64 A, .int .i64 B, .int .i64 C, .int .i64 D, .int .i64 0, .int .i64 0] 74 (b := w.heap.size + 1 + 1 + 1) (by simp)).later hb1
  clear hb1
  have mz := M.lt
  have mc := M.cell
  have sz := S.lt
  have sc := S.cell
  go_wp2_with (go_at_call 85; fail)
  clear mz mc sz sc
  go_at_call 85
  refine (apply_any _ _ _ _ _ _ _ _ _).mono ?_
  rintro r w2 ⟨rfl, hb2⟩
  have B2 : Below w.heap.size w w2 := (B1.alloc B1.size _).trans (hb2.mono (by have := B1.size; simp; omega))
  have P1 := (At.new w1 #[.int .i64 (apX A B C D 0 0 a b), .int .i64 (apY A B C D 0 0 a b)] 44 rfl).later hb2
  have M2 := (M.alloc _).later hb2
  have N2 := (N.alloc _).later hb2
  have R2 := (R.alloc _).later hb2
  clear hb2 M N R S
  have mz := M2.lt
  have mc := M2.cell
  have nz := N2.lt
  have nc := N2.cell
  go_wp2_with (go_at_call 85; fail)
  clear mz mc nz nc
  go_at_call 85
  refine (apply_any _ _ _ _ _ _ _ _ _).mono ?_
  rintro r w3 ⟨rfl, hb3⟩
  have B3 : Below w.heap.size w w3 := (B2.alloc B2.size _).trans (hb3.mono (by have := B2.size; simp; omega))
  have P2 := (At.new w2 #[.int .i64 (apX A B C D 0 0 c d), .int .i64 (apY A B C D 0 0 c d)] 44 rfl).later hb3
  have P1' := (P1.alloc _).later hb3
  have R3 := (R2.alloc _).later hb3
  clear hb3 P1 M2 N2 R2
  have R4 := R3.alloc (.cells #[.int .i64 (apX A B C D E F e f), .int .i64 (apY A B C D E F e f)] 44)
  have B4 := B3.alloc B3.size (.cells #[.int .i64 (apX A B C D E F e f), .int .i64 (apY A B C D E F e f)] 44)
  clear P1' P2 R3 B3
  go_wp2_with (refine wpList_store_row rfl 74 (.tmp 4) (.tmp 56) rfl (w.heap.size + 1 + 1) #[.int .i64 0, .int .i64 0, .int .i64 0, .int .i64 0, .int .i64 0, .int .i64 0] rfl rfl 74 #[.int .i64 0, .int .i64 0, .int .i64 0, .int .i64 0, .int .i64 0, .int .i64 0] R4 (by kernel_rfl) rfl (ones6 _ _ _ _ _ _) ?_)
  have rc := (R4.setRow #[.int .i64 0, .int .i64 0, .int .i64 0, .int .i64 0, .int .i64 0, .int .i64 0]).cell
  refine bodyPost_ret (v := .tuple #[.agg #[.int .i64 0, .int .i64 0, .int .i64 0, .int .i64 0, .int .i64 0, .int .i64 0], errV 1]) (by simp [results, Tryz.results70, go_sem, rc, errV]) rfl ⟨rfl, ?_⟩
  exact below_setRow B4 (by omega) _

set_option maxHeartbeats 1000000 in
theorem concat_bad2 (a b c d e f A B C D E F : Int) (w : World) (h1 : apE A B C D 0 0 a b = 0) (h2 : apE A B C D 0 0 c d ≠ 0) :
    Calls Tryz.prog 70 #[.agg #[.int .i64 a, .int .i64 b, .int .i64 c, .int .i64 d, .int .i64 e, .int .i64 f], .agg #[.int .i64 A, .int .i64 B, .int .i64 C, .int .i64 D, .int .i64 E, .int .i64 F]] w fun r w' => r = .returned (.tuple #[.agg #[.int .i64 0, .int .i64 0, .int .i64 0, .int .i64 0, .int .i64 0, .int .i64 0], errV 1]) ∧ Below w.heap.size w w' := by
  have e1 : errN (apE A B C D 0 0 a b) = .nilIface := by rw [h1]; rfl
  have e2 := eq_of_lin (apE_01 A B C D 0 0 c d) h2
  clear h1 h2
  go_enter Tryz.func70, Tryz.ntmps70
  go_wp2_with (go_at_call 85; fail)
  go_at_call 85
  refine (apply_any _ _ _ _ _ _ _ _ _).mono ?_
  rintro r w1 ⟨rfl, hb1⟩
  have B1 : Below w.heap.size w w1 := Below.trans (by go_grown) (hb1.mono (by simp; omega))
  have M := ((((At.new w #[.int .i64 a, .int .i64 b, .int .i64 c, .int .i64 d, .int .i64 e, .int .i64 f] 74 rfl).alloc _).alloc _).alloc _).later hb1
  have N := (((At.new (w.alloc _) #[.int .i64 A, .int .i64 B, .int .i64 C, .int .i64 D, .int .i64 E, .int .i64 F] 74 (b := w.heap.size + 1) (by simp)).alloc _).alloc _).later hb1
  have R := ((At.new ((w.alloc _).alloc _) #[.int .i64 0, .int .i64 0, .int .i64 0, .int .i64 0, .int .i64 0, .int .i64 0] 74 (b := w.heap.size + 1 + 1) (by simp)).alloc _).later hb1
  have S := (At.new (((w.alloc _).alloc _).alloc _) #[.int .i64 A, .int .i64 B, .int .i64 C, .int .i64 D, .int .i64 0, .int .i64 0] 74 (b := w.heap.size + 1 + 1 + 1) (by simp)).later hb1
  clear hb1
  have mz := M.lt
  have mc := M.cell
  have sz := S.lt
  have sc := S.cell
  go_wp2_with (go_at_call 85; fail)
  clear mz mc sz sc
  go_at_call 85
  refine (apply_any _ _ _ _ _ _ _ _ _).mono ?_
  rintro r w2 ⟨rfl, hb2⟩
  have B2 : Below w.heap.size w w2 := (B1.alloc B1.size _).trans (hb2.mono (by have := B1.size; simp; omega))
  have P1 := (At.new w1 #[.int .i64 (apX A B C D 0 0 a b), .int .i64 (apY A B C D 0 0 a b)] 44 rfl).later hb2
  have M2 := (M.alloc _).later hb2
  have N2 := (N.alloc _).later hb2
  have R2 := (R.alloc _).later hb2
  clear hb2 M N R S
  have mz := M2.lt
  have mc := M2.cell
  have nz := N2.lt
  have nc := N2.cell
  go_wp2_with (go_at_call 85; fail)
  clear mz mc nz nc
  go_at_call 85
  refine (apply_any _ _ _ _ _ _ _ _ _).mono ?_
  rintro r w3 ⟨rfl, hb3⟩
  have B3 : Below w.heap.size w w3 := (B2.alloc B2.size _).trans (hb3.mono (by have := B2.size; simp; omega))
  have P2 := (At.new w2 #[.int .i64 (apX A B C D 0 0 c d), .int .i64 (apY A B C D 0 0 c d)] 44 rfl).later hb3
  have P1' := (P1.alloc _).later hb3
  have R3 := (R2.alloc _).later hb3
  clear hb3 P1 M2 N2 R2
  have R4 := R3.alloc (.cells #[.int .i64 (apX A B C D E F e f), .int .i64 (apY A B C D E F e f)] 44)
  have B4 := B3.alloc B3.size (.cells #[.int .i64 (apX A B C D E F e f), .int .i64 (apY A B C D E F e f)] 44)
  clear P1' P2 R3 B3
  go_wp2_with (refine wpList_store_row rfl 74 (.tmp 4) (.tmp 56) rfl (w.heap.size + 1 + 1) #[.int .i64 0, .int .i64 0, .int .i64 0, .int .i64 0, .int .i64 0, .int .i64 0] rfl rfl 74 #[.int .i64 0, .int .i64 0, .int .i64 0, .int .i64 0, .int .i64 0, .int .i64 0] R4 (by kernel_rfl) rfl (ones6 _ _ _ _ _ _) ?_)
  have rc := (R4.setRow #[.int .i64 0, .int .i64 0, .int .i64 0, .int .i64 0, .int .i64 0, .int .i64 0]).cell
  refine bodyPost_ret (v := .tuple #[.agg #[.int .i64 0, .int .i64 0, .int .i64 0, .int .i64 0, .int .i64 0, .int .i64 0], errV 1]) (by simp [results, Tryz.results70, go_sem, rc, errV]) rfl ⟨rfl, ?_⟩
  exact below_setRow B4 (by omega) _

set_option maxHeartbeats 1000000 in
theorem concat_bad3 (a b c d e f A B C D E F : Int) (w : World) (h1 : apE A B C D 0 0 a b = 0) (h2 : apE A B C D 0 0 c d = 0) (h3 : apE A B C D E F e f ≠ 0) :
    Calls Tryz.prog 70 #[.agg #[.int .i64 a, .int .i64 b, .int .i64 c, .int .i64 d, .int .i64 e, .int .i64 f], .agg #[.int .i64 A, .int .i64 B, .int .i64 C, .int .i64 D, .int .i64 E, .int .i64 F]] w fun r w' => r = .returned (.tuple #[.agg #[.int .i64 0, .int .i64 0, .int .i64 0, .int .i64 0, .int .i64 0, .int .i64 0], errV 1]) ∧ Below w.heap.size w w' := by
  have e1 : errN (apE A B C D 0 0 a b) = .nilIface := by rw [h1]; rfl
  have e2 : errN (apE A B C D 0 0 c d) = .nilIface := by rw [h2]; rfl
  have e3 := eq_of_lin (apE_01 A B C D E F e f) h3
  clear h1 h2 h3
  go_enter Tryz.func70, Tryz.ntmps70
  go_wp2_with (go_at_call 85; fail)
  go_at_call 85
  refine (apply_any _ _ _ _ _ _ _ _ _).mono ?_
  rintro r w1 ⟨rfl, hb1⟩
  have B1 : Below w.heap.size w w1 := Below.trans (by go_grown) (hb1.mono (by simp; omega))
  have M := ((((At.new w #[.int .i64 a, .int .i64 b, .int .i64 c, .int .i64 d, .int .i64 e, .int .i64 f] 74 rfl).alloc _).alloc _).alloc _).later hb1
  have N := (((At.new (w.alloc _) #[.int .i64 A, .int .i64 B, .int .i64 C, .int .i64 D, .int .i64 E, .int .i64 F] 74 (b := w.heap.size + 1) (by simp)).alloc _).alloc _).later hb1
  have R := ((At.new ((w.alloc _).alloc _) #[.int .i64 0, .int .i64 0, .int .i64 0, .int .i64 0, .int .i64 0, .int .i64 0] 74 (b := w.heap.size + 1 + 1) (by simp)).alloc _).later hb1
  have S := (At.new (((w.alloc _).alloc _).alloc _) #[.int .i64 A, .int .i64 B, .int .i64 C, .int .i64 D, .int .i64 0, .int .i64 0] 74 (b := w.heap.size + 1 + 1 + 1) (by simp)).later hb1
  clear hb1
  have mz := M.lt
  have mc := M.cell
  have sz := S.lt
  have sc := S.cell
  go_wp2_with (go_at_call 85; fail)
  clear mz mc sz sc
  go_at_call 85
  refine (apply_any _ _ _ _ _ _ _ _ _).mono ?_
  rintro r w2 ⟨rfl, hb2⟩
  have B2 : Below w.heap.size w w2 := (B1.alloc B1.size _).trans (hb2.mono (by have := B1.size; simp; omega))
  have P1 := (At.new w1 #[.int .i64 (apX A B C D 0 0 a b), .int .i64 (apY A B C D 0 0 a b)] 44 rfl).later hb2
  have M2 := (M.alloc _).later hb2
  have N2 := (N.alloc _).later hb2
  have R2 := (R.alloc _).later hb2
  clear hb2 M N R S
  have mz := M2.lt
  have mc := M2.cell
  have nz := N2.lt
  have nc := N2.cell
  go_wp2_with (go_at_call 85; fail)
  clear mz mc nz nc
  go_at_call 85
  refine (apply_any _ _ _ _ _ _ _ _ _).mono ?_
  rintro r w3 ⟨rfl, hb3⟩
  have B3 : Below w.heap.size w w3 := (B2.alloc B2.size _).trans (hb3.mono (by have := B2.size; simp; omega))
  have P2 := (At.new w2 #[.int .i64 (apX A B C D 0 0 c d), .int .i64 (apY A B C D 0 0 c d)] 44 rfl).later hb3
  have P1' := (P1.alloc _).later hb3
  have R3 := (R2.alloc _).later hb3
  clear hb3 P1 M2 N2 R2
  have R4 := R3.alloc (.cells #[.int .i64 (apX A B C D E F e f), .int .i64 (apY A B C D E F e f)] 44)
  have B4 := B3.alloc B3.size (.cells #[.int .i64 (apX A B C D E F e f), .int .i64 (apY A B C D E F e f)] 44)
  clear P1' P2 R3 B3
  go_wp2_with (refine wpList_store_row rfl 74 (.tmp 4) (.tmp 56) rfl (w.heap.size + 1 + 1) #[.int .i64 0, .int .i64 0, .int .i64 0, .int .i64 0, .int .i64 0, .int .i64 0] rfl rfl 74 #[.int .i64 0, .int .i64 0, .int .i64 0, .int .i64 0, .int .i64 0, .int .i64 0] R4 (by kernel_rfl) rfl (ones6 _ _ _ _ _ _) ?_)
  have rc := (R4.setRow #[.int .i64 0, .int .i64 0, .int .i64 0, .int .i64 0, .int .i64 0, .int .i64 0]).cell
  refine bodyPost_ret (v := .tuple #[.agg #[.int .i64 0, .int .i64 0, .int .i64 0, .int .i64 0, .int .i64 0, .int .i64 0], errV 1]) (by simp [results, Tryz.results70, go_sem, rc, errV]) rfl ⟨rfl, ?_⟩
  exact below_setRow B4 (by omega) _

theorem concat_any (a b c d e f A B C D E F : Int) (w : World) :
    Calls Tryz.prog 70 #[.agg #[.int .i64 a, .int .i64 b, .int .i64 c, .int .i64 d, .int .i64 e, .int .i64 f], .agg #[.int .i64 A, .int .i64 B, .int .i64 C, .int .i64 D, .int .i64 E, .int .i64 F]] w fun r w' => r = .returned (.tuple #[coV a b c d e f A B C D E F, errN (coE a b c d e f A B C D E F)]) ∧ Below w.heap.size w w' := by
  have i1 := (ap_lin a b A B C D 0 0).1
  have i2 := (ap_lin c d A B C D 0 0).1
  have i3 := (ap_lin e f A B C D E F).1
  by_cases h1 : apE A B C D 0 0 a b = 0
  · by_cases h2 : apE A B C D 0 0 c d = 0
    · by_cases h3 : apE A B C D E F e f = 0
      · have q : coE a b c d e f A B C D E F = 0 := by
          unfold coE; rw [if_pos ⟨(i1.1 h1).1, (i1.1 h1).2, (i2.1 h2).1, (i2.1 h2).2, (i3.1 h3).1, (i3.1 h3).2⟩]
        rw [coV_ok q, q, errN_0]
        exact concat_ok a b c d e f A B C D E F w h1 h2 h3
      · have q : coE a b c d e f A B C D E F = 1 := by
          unfold coE; rw [if_neg (fun h => h3 (i3.2 ⟨h.2.2.2.2.1, h.2.2.2.2.2⟩))]
        rw [coV_bad q, q, errN_1]
        exact concat_bad3 a b c d e f A B C D E F w h1 h2 h3
    · have q : coE a b c d e f A B C D E F = 1 := by
        unfold coE; rw [if_neg (fun h => h2 (i2.2 ⟨h.2.2.1, h.2.2.2.1⟩))]
      rw [coV_bad q, q, errN_1]
      exact concat_bad2 a b c d e f A B C D E F w h1 h2
  · have q : coE a b c d e f A B C D E F = 1 := by
      unfold coE; rw [if_neg (fun h => h1 (i1.2 ⟨h.1, h.2.1⟩))]
    rw [coV_bad q, q, errN_1]
    exact concat_bad1 a b c d e f A B C D E F w h1
end Go.Proofs.YtobpidmlgldnmaaGreatDoor
