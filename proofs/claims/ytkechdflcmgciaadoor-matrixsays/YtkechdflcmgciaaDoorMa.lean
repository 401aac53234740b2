/-
  Contracts of matrices: the one that moves nothing, a point that is moved, two matrices one behind the other: of the program and of the document's answer.
-/
import Derived.Test.YtkechdflcmgciaaDoorFb
namespace Go.Proofs.YtkechdflcmgciaaDoor
open Go.RowKit
set_option maxRecDepth 100000

/-- A point moved: the number of the error, and where it is. -/
def apE (a b c d e f x y : Int) : Int := if linE a x c y e = 0 ∧ linE b x d y f = 0 then 0 else 1
def apX (a b c d e f x y : Int) : Int := if apE a b c d e f x y = 0 then linN a x c y e else 0
def apY (a b c d e f x y : Int) : Int := if apE a b c d e f x y = 0 then linN b x d y f else 0
theorem apE_01 (a b c d e f x y : Int) : 0 ≤ apE a b c d e f x y ∧ apE a b c d e f x y ≤ 1 := by unfold apE; split <;> omega
theorem ap_ok {a b c d e f x y : Int} (h1 : linE a x c y e = 0) (h2 : linE b x d y f = 0) : apE a b c d e f x y = 0 ∧ apX a b c d e f x y = linN a x c y e ∧ apY a b c d e f x y = linN b x d y f := by
  have : apE a b c d e f x y = 0 := by unfold apE; rw [if_pos ⟨h1, h2⟩]
  exact ⟨this, by unfold apX; rw [if_pos this], by unfold apY; rw [if_pos this]⟩
theorem ap_bad {a b c d e f x y : Int} (h : linE a x c y e ≠ 0 ∨ linE b x d y f ≠ 0) : apE a b c d e f x y = 1 ∧ apX a b c d e f x y = 0 ∧ apY a b c d e f x y = 0 := by
  have : apE a b c d e f x y = 1 := by unfold apE; rw [if_neg (by omega)]
  exact ⟨this, by unfold apX; rw [this]; rfl, by unfold apY; rw [this]; rfl⟩
theorem anyBad_8 (a b c d e f x y : Int) : anyBad [a, b, c, d, e, f, x, y] = (!okF a || !okF b || !okF c || !okF d || !okF e || !okF f || !okF x || !okF y) := by simp [anyBad, Bool.or_assoc]

set_option maxHeartbeats 400000 in
theorem rapply_any (a b c d e f x y : Int) (w : World) :
    Calls Tryd.prog 28 #[.agg #[.int .i64 a, .int .i64 b, .int .i64 c, .int .i64 d, .int .i64 e, .int .i64 f], .agg #[.int .i64 x, .int .i64 y]] w fun r w' => r = .returned (.tuple #[.agg #[.int .i64 (apX a b c d e f x y), .int .i64 (apY a b c d e f x y)], .int .i64 (apE a b c d e f x y)]) ∧ Below w.heap.size w w' := by
  have n1 := linE_01 a x c y e
  have n2 := linE_01 b x d y f
  by_cases hs : 0 < linE a x c y e + linE b x d y f
  · obtain ⟨q1, q2, q3⟩ := ap_bad (a := a) (b := b) (c := c) (d := d) (e := e) (f := f) (x := x) (y := y) (by omega)
    rw [q1, q2, q3]
    clear q1 q2 q3
    go_enter Tryd.func28, Tryd.ntmps28
    go_wp2_with (go_at_call 56; refine (line_any _ _ _ _ _ _).mono ?_; rintro r w' ⟨rfl, rfl⟩)
    refine bodyPost_ret (v := .tuple #[.agg #[.int .i64 0, .int .i64 0], .int .i64 1]) (by simp [results, Tryd.results28, go_sem]) rfl ⟨rfl, ?_⟩
    go_grown
  · obtain ⟨q1, q2, q3⟩ := ap_ok (a := a) (b := b) (c := c) (d := d) (e := e) (f := f) (x := x) (y := y) (by omega) (by omega)
    rw [q1, q2, q3]
    clear q1 q2 q3
    go_enter Tryd.func28, Tryd.ntmps28
    go_wp2_with (go_at_call 56; refine (line_any _ _ _ _ _ _).mono ?_; rintro r w' ⟨rfl, rfl⟩)
    refine bodyPost_ret (v := .tuple #[.agg #[.int .i64 (linN a x c y e), .int .i64 (linN b x d y f)], .int .i64 0]) (by simp [results, Tryd.results28, go_sem]) rfl ⟨rfl, ?_⟩
    go_grown

theorem someNone_at (zs : List Int) (n n0 : Nat) (cs : Array Value) (w : World) (hl : zs.length = n) (hn : zs.length ≤ 1000) (hcs : cs = (zs.map (Value.int .i64)).toArray) (h0 : n0 = w.heap.size) :
    Calls Tryd.prog 48 #[.slice (some ⟨n0, 0, none⟩) n n] (w.alloc (.cells cs 3)) fun e w' => e = .returned (.bool (anyBad zs)) ∧ w' = w.alloc (.cells cs 3) := by
  subst h0; exact someNone_new zs n cs w hl hn hcs

set_option maxHeartbeats 400000 in
theorem apply_none (a b c d e f x y : Int) (w : World) (h : anyBad [a, b, c, d, e, f, x, y] = true) :
    Calls Tryd.prog 27 #[.agg #[.int .i64 a, .int .i64 b, .int .i64 c, .int .i64 d, .int .i64 e, .int .i64 f], .agg #[.int .i64 x, .int .i64 y]] w fun r w' => r = .returned (.tuple #[.agg #[.int .i64 0, .int .i64 0], errV 1]) ∧ Below w.heap.size w w' := by
  go_enter Tryd.func27, Tryd.ntmps27
  go_wp2_with (go_at_call 48; refine (someNone_at [a, b, c, d, e, f, x, y] 8 _ _ _ rfl (by simp) rfl (by simp)).mono ?_; rintro r w' ⟨rfl, rfl⟩)
  refine bodyPost_ret (v := .tuple #[.agg #[.int .i64 0, .int .i64 0], errV 1]) (by simp [results, Tryd.results27, go_sem, errV]) rfl ⟨rfl, ?_⟩
  go_grown

theorem eq_of_lin {v : Int} (h : 0 ≤ v ∧ v ≤ 1) (h0 : v ≠ 0) : errN v = .iface 23 (.int .i64 1) := by
  have : v = 1 := by omega
  subst this; rfl

set_option maxHeartbeats 1000000 in
theorem apply_all (a b c d e f x y : Int) (w : World) (h : anyBad [a, b, c, d, e, f, x, y] = false) :
    Calls Tryd.prog 27 #[.agg #[.int .i64 a, .int .i64 b, .int .i64 c, .int .i64 d, .int .i64 e, .int .i64 f], .agg #[.int .i64 x, .int .i64 y]] w fun r w' => r = .returned (.tuple #[.agg #[.int .i64 (apX a b c d e f x y), .int .i64 (apY a b c d e f x y)], errN (apE a b c d e f x y)]) ∧ Below w.heap.size w w' := by
  have h' := h
  rw [anyBad_8] at h'
  simp only [Bool.or_eq_false_iff, Bool.not_eq_false', and_assoc] at h'
  obtain ⟨ha, hb, hc, hd, he, hf, hx, hy⟩ := h'
  by_cases h1 : linE a x c y e = 0
  · by_cases h2 : linE b x d y f = 0
    · obtain ⟨q1, q2, q3⟩ := ap_ok h1 h2
      rw [q1, q2, q3, errN_0]
      have e1 : errN (linE a x c y e) = .nilIface := by rw [h1]; rfl
      have e2 : errN (linE b x d y f) = .nilIface := by rw [h2]; rfl
      clear q1 q2 q3 h1 h2
      go_enter Tryd.func27, Tryd.ntmps27
      go_wp2_with (first
        | (go_at_call 48; refine (someNone_at [a, b, c, d, e, f, x, y] 8 _ _ _ rfl (by simp) rfl (by simp)).mono ?_; rintro r w' ⟨rfl, rfl⟩)
        | (go_at_call 49; refine (together_any _ _ _ _ _ _ (by assumption) (by assumption) (by assumption) (by assumption) (by assumption)).mono ?_; rintro r w' ⟨rfl, rfl⟩))
      refine bodyPost_ret (v := .tuple #[.agg #[.int .i64 (linN a x c y e), .int .i64 (linN b x d y f)], .nilIface]) (by simp [results, Tryd.results27, go_sem]) rfl ⟨rfl, ?_⟩
      go_grown
    · obtain ⟨q1, q2, q3⟩ := ap_bad (a := a) (b := b) (c := c) (d := d) (e := e) (f := f) (x := x) (y := y) (Or.inr h2)
      rw [q1, q2, q3, errN_1]
      have e1 : errN (linE a x c y e) = .nilIface := by rw [h1]; rfl
      have e2 := eq_of_lin (linE_01 b x d y f) h2
      clear q1 q2 q3 h1 h2
      go_enter Tryd.func27, Tryd.ntmps27
      go_wp2_with (first
        | (go_at_call 48; refine (someNone_at [a, b, c, d, e, f, x, y] 8 _ _ _ rfl (by simp) rfl (by simp)).mono ?_; rintro r w' ⟨rfl, rfl⟩)
        | (go_at_call 49; refine (together_any _ _ _ _ _ _ (by assumption) (by assumption) (by assumption) (by assumption) (by assumption)).mono ?_; rintro r w' ⟨rfl, rfl⟩))
      refine bodyPost_ret (v := .tuple #[.agg #[.int .i64 0, .int .i64 0], errV 1]) (by simp [results, Tryd.results27, go_sem, errV]) rfl ⟨rfl, ?_⟩
      go_grown
  · obtain ⟨q1, q2, q3⟩ := ap_bad (a := a) (b := b) (c := c) (d := d) (e := e) (f := f) (x := x) (y := y) (Or.inl h1)
    rw [q1, q2, q3, errN_1]
    have e1 := eq_of_lin (linE_01 a x c y e) h1
    clear q1 q2 q3 h1
    go_enter Tryd.func27, Tryd.ntmps27
    go_wp2_with (first
      | (go_at_call 48; refine (someNone_at [a, b, c, d, e, f, x, y] 8 _ _ _ rfl (by simp) rfl (by simp)).mono ?_; rintro r w' ⟨rfl, rfl⟩)
      | (go_at_call 49; refine (together_any _ _ _ _ _ _ (by assumption) (by assumption) (by assumption) (by assumption) (by assumption)).mono ?_; rintro r w' ⟨rfl, rfl⟩))
    refine bodyPost_ret (v := .tuple #[.agg #[.int .i64 0, .int .i64 0], errV 1]) (by simp [results, Tryd.results27, go_sem, errV]) rfl ⟨rfl, ?_⟩
    go_grown
theorem linE_bad {a x c y e : Int} (h : okF a = false ∨ okF x = false ∨ okF c = false ∨ okF y = false ∨ okF e = false) : linE a x c y e ≠ 0 := by
  rw [(lin_bad (a := a) (x := x) (c := c) (y := y) (e := e) (by rcases h with h | h | h | h | h <;> simp [h])).1]; omega
theorem apply_any (a b c d e f x y : Int) (w : World) :
    Calls Tryd.prog 27 #[.agg #[.int .i64 a, .int .i64 b, .int .i64 c, .int .i64 d, .int .i64 e, .int .i64 f], .agg #[.int .i64 x, .int .i64 y]] w fun r w' => r = .returned (.tuple #[.agg #[.int .i64 (apX a b c d e f x y), .int .i64 (apY a b c d e f x y)], errN (apE a b c d e f x y)]) ∧ Below w.heap.size w w' := by
  cases h : anyBad [a, b, c, d, e, f, x, y]
  · exact apply_all a b c d e f x y w h
  · have h' := h
    rw [anyBad_8] at h'
    simp only [Bool.or_eq_true, Bool.not_eq_true', or_assoc] at h'
    have hb : linE a x c y e ≠ 0 ∨ linE b x d y f ≠ 0 := by
      rcases h' with h | h | h | h | h | h | h | h
      · exact Or.inl (linE_bad (by simp [h]))
      · exact Or.inr (linE_bad (by simp [h]))
      · exact Or.inl (linE_bad (by simp [h]))
      · exact Or.inr (linE_bad (by simp [h]))
      · exact Or.inl (linE_bad (by simp [h]))
      · exact Or.inr (linE_bad (by simp [h]))
      · exact Or.inl (linE_bad (by simp [h]))
      · exact Or.inl (linE_bad (by simp [h]))
    obtain ⟨q1, q2, q3⟩ := ap_bad hb
    rw [q1, q2, q3, errN_1]
    exact apply_none a b c d e f x y w h
end Go.Proofs.YtkechdflcmgciaaDoor
