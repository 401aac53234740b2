/-
  Contracts of two matrices, one behind the other: of the program and of the document's answer; the matrix that moves nothing.
-/
import Derived.Test.YtkechdflcmgciaaDoorMa
import Derived.Test.YtkechdflcmgciaaDoorMh
namespace Go.Proofs.YtkechdflcmgciaaDoor
open Go.RowKit
set_option maxRecDepth 100000

theorem bcell {W w1 : World} (hb : Below W.heap.size W w1) : (∀ b o, b < W.heap.size → w1.cell? ⟨b, o, none⟩ = W.cell? ⟨b, o, none⟩) ∧ (∀ b o, b < W.heap.size → w1.frozen? ⟨b, o, none⟩ = W.frozen? ⟨b, o, none⟩) :=
  ⟨fun b o h => hb.cell (p := ⟨b, o, none⟩) h, fun b o h => hb.frozen (p := ⟨b, o, none⟩) h⟩
theorem lin_swap (a x c y e : Int) : linE x a y c e = linE a x c y e ∧ linN x a y c e = linN a x c y e := by
  unfold linE linN
  rw [Int.mul_comm x a, Int.mul_comm y c]
  have h : (okF x && okF a && okF y && okF c && okF e && okF ((a * x + c * y) / 1000 + e)) = (okF a && okF x && okF c && okF y && okF e && okF ((a * x + c * y) / 1000 + e)) := by
    cases okF x <;> cases okF a <;> cases okF y <;> cases okF c <;> rfl
  rw [h]; exact ⟨rfl, rfl⟩
/-- Two matrices: the number of the error. -/
def coE (a b c d e f A B C D E F : Int) : Int := if linE a A b C 0 = 0 ∧ linE a B b D 0 = 0 ∧ linE c A d C 0 = 0 ∧ linE c B d D 0 = 0 ∧ linE e A f C E = 0 ∧ linE e B f D F = 0 then 0 else 1
theorem coE_01 (a b c d e f A B C D E F : Int) : 0 ≤ coE a b c d e f A B C D E F ∧ coE a b c d e f A B C D E F ≤ 1 := by unfold coE; split <;> omega
/-- A field of the two, or 0. -/
def coN (a b c d e f A B C D E F : Int) (n : Int) : Int := if coE a b c d e f A B C D E F = 0 then n else 0
def coV (a b c d e f A B C D E F : Int) : Value := .agg #[.int .i64 (coN a b c d e f A B C D E F (linN a A b C 0)), .int .i64 (coN a b c d e f A B C D E F (linN a B b D 0)), .int .i64 (coN a b c d e f A B C D E F (linN c A d C 0)), .int .i64 (coN a b c d e f A B C D E F (linN c B d D 0)), .int .i64 (coN a b c d e f A B C D E F (linN e A f C E)), .int .i64 (coN a b c d e f A B C D E F (linN e B f D F))]
theorem coV_ok {a b c d e f A B C D E F : Int} (h : coE a b c d e f A B C D E F = 0) : coV a b c d e f A B C D E F = .agg #[.int .i64 (linN a A b C 0), .int .i64 (linN a B b D 0), .int .i64 (linN c A d C 0), .int .i64 (linN c B d D 0), .int .i64 (linN e A f C E), .int .i64 (linN e B f D F)] := by
  simp [coV, coN, h]
theorem coV_bad {a b c d e f A B C D E F : Int} (h : coE a b c d e f A B C D E F = 1) : coV a b c d e f A B C D E F = .agg #[.int .i64 0, .int .i64 0, .int .i64 0, .int .i64 0, .int .i64 0, .int .i64 0] := by
  simp [coV, coN, h]

set_option maxHeartbeats 1000000 in
theorem rconcat_any (a b c d e f A B C D E F : Int) (w : World) :
    Calls Tryd.prog 24 #[.agg #[.int .i64 a, .int .i64 b, .int .i64 c, .int .i64 d, .int .i64 e, .int .i64 f], .agg #[.int .i64 A, .int .i64 B, .int .i64 C, .int .i64 D, .int .i64 E, .int .i64 F]] w fun r w' => r = .returned (.tuple #[coV a b c d e f A B C D E F, .int .i64 (coE a b c d e f A B C D E F)]) ∧ Below w.heap.size w w' := by
  have n1 := linE_01 a A b C 0
  have n2 := linE_01 a B b D 0
  have n3 := linE_01 c A d C 0
  have n4 := linE_01 c B d D 0
  have n5 := linE_01 e A f C E
  have n6 := linE_01 e B f D F
  by_cases hs : 0 < linE a A b C 0 + linE a B b D 0 + linE c A d C 0 + linE c B d D 0 + linE e A f C E + linE e B f D F
  · have q : coE a b c d e f A B C D E F = 1 := by unfold coE; rw [if_neg (by omega)]
    rw [coV_bad q, q]
    clear q
    go_enter Tryd.func24, Tryd.ntmps24
    go_wp2_with (go_at_call 56; refine (line_any _ _ _ _ _ _).mono ?_; rintro r w' ⟨rfl, rfl⟩)
    refine bodyPost_ret (v := .tuple #[.agg #[.int .i64 0, .int .i64 0, .int .i64 0, .int .i64 0, .int .i64 0, .int .i64 0], .int .i64 1]) (by simp [results, Tryd.results24, go_sem]) rfl ⟨rfl, ?_⟩
    go_grown
  · have q : coE a b c d e f A B C D E F = 0 := by unfold coE; rw [if_pos (by omega)]
    rw [coV_ok q, q]
    clear q
    go_enter Tryd.func24, Tryd.ntmps24
    go_wp2_with (go_at_call 56; refine (line_any _ _ _ _ _ _).mono ?_; rintro r w' ⟨rfl, rfl⟩)
    refine bodyPost_ret (v := .tuple #[.agg #[.int .i64 (linN a A b C 0), .int .i64 (linN a B b D 0), .int .i64 (linN c A d C 0), .int .i64 (linN c B d D 0), .int .i64 (linN e A f C E), .int .i64 (linN e B f D F)], .int .i64 0]) (by simp [results, Tryd.results24, go_sem]) rfl ⟨rfl, ?_⟩
    go_grown

set_option maxHeartbeats 400000 in
theorem unit_any (w : World) :
    Calls Tryd.prog 22 #[] w fun r w' => r = .returned (.agg #[.int .i64 1000, .int .i64 0, .int .i64 0, .int .i64 1000, .int .i64 0, .int .i64 0]) ∧ Below w.heap.size w w' := by
  go_enter Tryd.func22, Tryd.ntmps22
  go_wp2
  refine bodyPost_ret (v := .agg #[.int .i64 1000, .int .i64 0, .int .i64 0, .int .i64 1000, .int .i64 0, .int .i64 0]) (by simp [results, Tryd.results22, go_sem]) rfl ⟨rfl, ?_⟩
  go_grown

/-- What one of the program's three points is, against the document's two numbers. -/
theorem ap_lin (a b A B C D E F : Int) : (apE A B C D E F a b = 0 ↔ linE a A b C E = 0 ∧ linE a B b D F = 0) ∧ (apE A B C D E F a b = 0 → apX A B C D E F a b = linN a A b C E ∧ apY A B C D E F a b = linN a B b D F) := by
  have s1 := lin_swap a A b C E
  have s2 := lin_swap a B b D F
  have h01 := apE_01 A B C D E F a b
  constructor
  · unfold apE; rw [s1.1, s2.1]; split <;> simp_all
  · intro h
    unfold apX apY; rw [h, s1.2, s2.2]; exact ⟨rfl, rfl⟩

set_option maxHeartbeats 1000000 in
theorem concat_ok (a b c d e f A B C D E F : Int) (w : World) (h1 : apE A B C D 0 0 a b = 0) (h2 : apE A B C D 0 0 c d = 0) (h3 : apE A B C D E F e f = 0) :
    Calls Tryd.prog 23 #[.agg #[.int .i64 a, .int .i64 b, .int .i64 c, .int .i64 d, .int .i64 e, .int .i64 f], .agg #[.int .i64 A, .int .i64 B, .int .i64 C, .int .i64 D, .int .i64 E, .int .i64 F]] w fun r w' => r = .returned (.tuple #[.agg #[.int .i64 (linN a A b C 0), .int .i64 (linN a B b D 0), .int .i64 (linN c A d C 0), .int .i64 (linN c B d D 0), .int .i64 (linN e A f C E), .int .i64 (linN e B f D F)], .nilIface]) ∧ Below w.heap.size w w' := by
  have e1 : errN (apE A B C D 0 0 a b) = .nilIface := by rw [h1]; rfl
  have e2 : errN (apE A B C D 0 0 c d) = .nilIface := by rw [h2]; rfl
  have e3 : errN (apE A B C D E F e f) = .nilIface := by rw [h3]; rfl
  have v1 := (ap_lin a b A B C D 0 0).2 h1
  have v2 := (ap_lin c d A B C D 0 0).2 h2
  have v3 := (ap_lin e f A B C D E F).2 h3
  obtain ⟨x1, y1⟩ := v1
  obtain ⟨x2, y2⟩ := v2
  obtain ⟨x3, y3⟩ := v3
  clear h1 h2 h3
  go_enter Tryd.func23, Tryd.ntmps23
  go_wp2_with (go_at_call 27; fail)
  go_at_call 27
  refine (apply_any _ _ _ _ _ _ _ _ _).mono ?_
  rintro r w1 ⟨rfl, hb1⟩
  have B1 : Below w.heap.size w w1 := Below.trans (by go_grown) (hb1.mono (by simp; omega))
  have M := ((((At.new w #[.int .i64 a, .int .i64 b, .int .i64 c, .int .i64 d, .int .i64 e, .int .i64 f] 44 rfl).alloc _).alloc _).alloc _).later hb1
  have N := (((At.new (w.alloc _) #[.int .i64 A, .int .i64 B, .int .i64 C, .int .i64 D, .int .i64 E, .int .i64 F] 44 (b := w.heap.size + 1) (by simp)).alloc _).alloc _).later hb1
  have R := ((At.new ((w.alloc _).alloc _) #[.int .i64 0, .int .i64 0, .int .i64 0, .int .i64 0, .int .i64 0, .int .i64 0] 44 (b := w.heap.size + 1 + 1) (by simp)).alloc _).later hb1
  have S := (At.new (((w.alloc _).alloc _).alloc _) #[.int .i64 A, .int .i64 B, .int .i64 C, .int .i64 D, .int .i64 0, .int .i64 0] 44 (b := w.heap.size + 1 + 1 + 1) (by simp)).later hb1
  clear hb1
  have mz := M.lt
  have mc := M.cell
  have sz := S.lt
  have sc := S.cell
  go_wp2_with (go_at_call 27; fail)
  clear mz mc sz sc
  go_at_call 27
  refine (apply_any _ _ _ _ _ _ _ _ _).mono ?_
  rintro r w2 ⟨rfl, hb2⟩
  have B2 : Below w.heap.size w w2 := (B1.alloc B1.size _).trans (hb2.mono (by have := B1.size; simp; omega))
  have P1 := (At.new w1 #[.int .i64 (linN a A b C 0), .int .i64 (linN a B b D 0)] 55 rfl).later hb2
  have M2 := (M.alloc _).later hb2
  have N2 := (N.alloc _).later hb2
  have R2 := (R.alloc _).later hb2
  clear hb2 M N R S
  have mz := M2.lt
  have mc := M2.cell
  have nz := N2.lt
  have nc := N2.cell
  go_wp2_with (go_at_call 27; fail)
  clear mz mc nz nc
  go_at_call 27
  refine (apply_any _ _ _ _ _ _ _ _ _).mono ?_
  rintro r w3 ⟨rfl, hb3⟩
  have B3 : Below w.heap.size w w3 := (B2.alloc B2.size _).trans (hb3.mono (by have := B2.size; simp; omega))
  have P2 := (At.new w2 #[.int .i64 (linN c A d C 0), .int .i64 (linN c B d D 0)] 55 rfl).later hb3
  have P1' := (P1.alloc _).later hb3
  have R3 := (R2.alloc _).later hb3
  clear hb3 P1 M2 N2 R2
  have P3 := At.new w3 #[.int .i64 (linN e A f C E), .int .i64 (linN e B f D F)] 55 rfl
  have R4 := R3.alloc (.cells #[.int .i64 (linN e A f C E), .int .i64 (linN e B f D F)] 55)
  have Q1 := P1'.alloc (.cells #[.int .i64 (linN e A f C E), .int .i64 (linN e B f D F)] 55)
  have Q2 := P2.alloc (.cells #[.int .i64 (linN e A f C E), .int .i64 (linN e B f D F)] 55)
  have B4 := B3.alloc B3.size (.cells #[.int .i64 (linN e A f C E), .int .i64 (linN e B f D F)] 55)
  clear P1' P2 R3 B3
  have c1 := Q1.cell
  have c2 := Q2.cell
  go_wp2_with (refine wpList_store_row rfl 44 (.tmp 4) (.tmp 70) rfl (w.heap.size + 1 + 1) #[.int .i64 (linN a A b C 0), .int .i64 (linN a B b D 0), .int .i64 (linN c A d C 0), .int .i64 (linN c B d D 0), .int .i64 (linN e A f C E), .int .i64 (linN e B f D F)] rfl rfl 44 #[.int .i64 0, .int .i64 0, .int .i64 0, .int .i64 0, .int .i64 0, .int .i64 0] R4 (by kernel_rfl) rfl (ones6 _ _ _ _ _ _) ?_)
  have rc := (R4.setRow #[.int .i64 (linN a A b C 0), .int .i64 (linN a B b D 0), .int .i64 (linN c A d C 0), .int .i64 (linN c B d D 0), .int .i64 (linN e A f C E), .int .i64 (linN e B f D F)]).cell
  refine bodyPost_ret (v := .tuple #[.agg #[.int .i64 (linN a A b C 0), .int .i64 (linN a B b D 0), .int .i64 (linN c A d C 0), .int .i64 (linN c B d D 0), .int .i64 (linN e A f C E), .int .i64 (linN e B f D F)], .nilIface]) (by simp [results, Tryd.results23, go_sem, rc]) rfl ⟨rfl, ?_⟩
  exact below_setRow B4 (by omega) _
set_option maxHeartbeats 1000000 in
theorem concat_bad1 (a b c d e f A B C D E F : Int) (w : World) (h1 : apE A B C D 0 0 a b ≠ 0) :
    Calls Tryd.prog 23 #[.agg #[.int .i64 a, .int .i64 b, .int .i64 c, .int .i64 d, .int .i64 e, .int .i64 f], .agg #[.int .i64 A, .int .i64 B, .int .i64 C, .int .i64 D, .int .i64 E, .int .i64 F]] w fun r w' => r = .returned (.tuple #[.agg #[.int .i64 0, .int .i64 0, .int .i64 0, .int .i64 0, .int .i64 0, .int .i64 0], errV 1]) ∧ Below w.heap.size w w' := by
  have e1 := eq_of_lin (apE_01 A B C D 0 0 a b) h1
  go_enter Tryd.func23, Tryd.ntmps23
  go_wp2_with (go_at_call 27; fail)
  go_at_call 27
  refine (apply_any _ _ _ _ _ _ _ _ _).mono ?_
  rintro r w1 ⟨rfl, hb1⟩
  have B1 : Below w.heap.size w w1 := Below.trans (by go_grown) (hb1.mono (by simp; omega))
  have M := ((((At.new w #[.int .i64 a, .int .i64 b, .int .i64 c, .int .i64 d, .int .i64 e, .int .i64 f] 44 rfl).alloc _).alloc _).alloc _).later hb1
  have N := (((At.new (w.alloc _) #[.int .i64 A, .int .i64 B, .int .i64 C, .int .i64 D, .int .i64 E, .int .i64 F] 44 (b := w.heap.size + 1) (by simp)).alloc _).alloc _).later hb1
  have R := ((At.new ((w.alloc _).alloc _) #[.int .i64 0, .int .i64 0, .int .i64 0, .int .i64 0, .int .i64 0, .int .i64 0] 44 (b := w.heap.size + 1 + 1) (by simp)).alloc _).later hb1
  have S := (At.new (((w.alloc _).alloc _).alloc _) #[.int .i64 A, .int .i64 B, .int .i64 C, .int .i64 D, .int .i64 0, .int .i64 0] 44 (b := w.heap.size + 1 + 1 + 1) (by simp)).later hb1
  clear hb1
  have mz := M.lt
  have mc := M.cell
  have sz := S.lt
  have sc := S.cell
  go_wp2_with (go_at_call 27; fail)
  clear mz mc sz sc
  go_at_call 27
  refine (apply_any _ _ _ _ _ _ _ _ _).mono ?_
  rintro r w2 ⟨rfl, hb2⟩
  have B2 : Below w.heap.size w w2 := (B1.alloc B1.size _).trans (hb2.mono (by have := B1.size; simp; omega))
  have P1 := (At.new w1 #[.int .i64 (apX A B C D 0 0 a b), .int .i64 (apY A B C D 0 0 a b)] 55 rfl).later hb2
  have M2 := (M.alloc _).later hb2
  have N2 := (N.alloc _).later hb2
  have R2 := (R.alloc _).later hb2
  clear hb2 M N R S
  have mz := M2.lt
  have mc := M2.cell
  have nz := N2.lt
  have nc := N2.cell
  go_wp2_with (go_at_call 27; fail)
  clear mz mc nz nc
  go_at_call 27
  refine (apply_any _ _ _ _ _ _ _ _ _).mono ?_
  rintro r w3 ⟨rfl, hb3⟩
  have B3 : Below w.heap.size w w3 := (B2.alloc B2.size _).trans (hb3.mono (by have := B2.size; simp; omega))
  have P2 := (At.new w2 #[.int .i64 (apX A B C D 0 0 c d), .int .i64 (apY A B C D 0 0 c d)] 55 rfl).later hb3
  have P1' := (P1.alloc _).later hb3
  have R3 := (R2.alloc _).later hb3
  clear hb3 P1 M2 N2 R2
  have R4 := R3.alloc (.cells #[.int .i64 (apX A B C D E F e f), .int .i64 (apY A B C D E F e f)] 55)
  have B4 := B3.alloc B3.size (.cells #[.int .i64 (apX A B C D E F e f), .int .i64 (apY A B C D E F e f)] 55)
  clear P1' P2 R3 B3
  go_wp2_with (refine wpList_store_row rfl 44 (.tmp 4) (.tmp 56) rfl (w.heap.size + 1 + 1) #[.int .i64 0, .int .i64 0, .int .i64 0, .int .i64 0, .int .i64 0, .int .i64 0] rfl rfl 44 #[.int .i64 0, .int .i64 0, .int .i64 0, .int .i64 0, .int .i64 0, .int .i64 0] R4 (by kernel_rfl) rfl (ones6 _ _ _ _ _ _) ?_)
  have rc := (R4.setRow #[.int .i64 0, .int .i64 0, .int .i64 0, .int .i64 0, .int .i64 0, .int .i64 0]).cell
  refine bodyPost_ret (v := .tuple #[.agg #[.int .i64 0, .int .i64 0, .int .i64 0, .int .i64 0, .int .i64 0, .int .i64 0], errV 1]) (by simp [results, Tryd.results23, go_sem, rc, errV]) rfl ⟨rfl, ?_⟩
  exact below_setRow B4 (by omega) _

set_option maxHeartbeats 1000000 in
theorem concat_bad2 (a b c d e f A B C D E F : Int) (w : World) (h1 : apE A B C D 0 0 a b = 0) (h2 : apE A B C D 0 0 c d ≠ 0) :
    Calls Tryd.prog 23 #[.agg #[.int .i64 a, .int .i64 b, .int .i64 c, .int .i64 d, .int .i64 e, .int .i64 f], .agg #[.int .i64 A, .int .i64 B, .int .i64 C, .int .i64 D, .int .i64 E, .int .i64 F]] w fun r w' => r = .returned (.tuple #[.agg #[.int .i64 0, .int .i64 0, .int .i64 0, .int .i64 0, .int .i64 0, .int .i64 0], errV 1]) ∧ Below w.heap.size w w' := by
  have e1 : errN (apE A B C D 0 0 a b) = .nilIface := by rw [h1]; rfl
  have e2 := eq_of_lin (apE_01 A B C D 0 0 c d) h2
  clear h1 h2
  go_enter Tryd.func23, Tryd.ntmps23
  go_wp2_with (go_at_call 27; fail)
  go_at_call 27
  refine (apply_any _ _ _ _ _ _ _ _ _).mono ?_
  rintro r w1 ⟨rfl, hb1⟩
  have B1 : Below w.heap.size w w1 := Below.trans (by go_grown) (hb1.mono (by simp; omega))
  have M := ((((At.new w #[.int .i64 a, .int .i64 b, .int .i64 c, .int .i64 d, .int .i64 e, .int .i64 f] 44 rfl).alloc _).alloc _).alloc _).later hb1
  have N := (((At.new (w.alloc _) #[.int .i64 A, .int .i64 B, .int .i64 C, .int .i64 D, .int .i64 E, .int .i64 F] 44 (b := w.heap.size + 1) (by simp)).alloc _).alloc _).later hb1
  have R := ((At.new ((w.alloc _).alloc _) #[.int .i64 0, .int .i64 0, .int .i64 0, .int .i64 0, .int .i64 0, .int .i64 0] 44 (b := w.heap.size + 1 + 1) (by simp)).alloc _).later hb1
  have S := (At.new (((w.alloc _).alloc _).alloc _) #[.int .i64 A, .int .i64 B, .int .i64 C, .int .i64 D, .int .i64 0, .int .i64 0] 44 (b := w.heap.size + 1 + 1 + 1) (by simp)).later hb1
  clear hb1
  have mz := M.lt
  have mc := M.cell
  have sz := S.lt
  have sc := S.cell
  go_wp2_with (go_at_call 27; fail)
  clear mz mc sz sc
  go_at_call 27
  refine (apply_any _ _ _ _ _ _ _ _ _).mono ?_
  rintro r w2 ⟨rfl, hb2⟩
  have B2 : Below w.heap.size w w2 := (B1.alloc B1.size _).trans (hb2.mono (by have := B1.size; simp; omega))
  have P1 := (At.new w1 #[.int .i64 (apX A B C D 0 0 a b), .int .i64 (apY A B C D 0 0 a b)] 55 rfl).later hb2
  have M2 := (M.alloc _).later hb2
  have N2 := (N.alloc _).later hb2
  have R2 := (R.alloc _).later hb2
  clear hb2 M N R S
  have mz := M2.lt
  have mc := M2.cell
  have nz := N2.lt
  have nc := N2.cell
  go_wp2_with (go_at_call 27; fail)
  clear mz mc nz nc
  go_at_call 27
  refine (apply_any _ _ _ _ _ _ _ _ _).mono ?_
  rintro r w3 ⟨rfl, hb3⟩
  have B3 : Below w.heap.size w w3 := (B2.alloc B2.size _).trans (hb3.mono (by have := B2.size; simp; omega))
  have P2 := (At.new w2 #[.int .i64 (apX A B C D 0 0 c d), .int .i64 (apY A B C D 0 0 c d)] 55 rfl).later hb3
  have P1' := (P1.alloc _).later hb3
  have R3 := (R2.alloc _).later hb3
  clear hb3 P1 M2 N2 R2
  have R4 := R3.alloc (.cells #[.int .i64 (apX A B C D E F e f), .int .i64 (apY A B C D E F e f)] 55)
  have B4 := B3.alloc B3.size (.cells #[.int .i64 (apX A B C D E F e f), .int .i64 (apY A B C D E F e f)] 55)
  clear P1' P2 R3 B3
  go_wp2_with (refine wpList_store_row rfl 44 (.tmp 4) (.tmp 56) rfl (w.heap.size + 1 + 1) #[.int .i64 0, .int .i64 0, .int .i64 0, .int .i64 0, .int .i64 0, .int .i64 0] rfl rfl 44 #[.int .i64 0, .int .i64 0, .int .i64 0, .int .i64 0, .int .i64 0, .int .i64 0] R4 (by kernel_rfl) rfl (ones6 _ _ _ _ _ _) ?_)
  have rc := (R4.setRow #[.int .i64 0, .int .i64 0, .int .i64 0, .int .i64 0, .int .i64 0, .int .i64 0]).cell
  refine bodyPost_ret (v := .tuple #[.agg #[.int .i64 0, .int .i64 0, .int .i64 0, .int .i64 0, .int .i64 0, .int .i64 0], errV 1]) (by simp [results, Tryd.results23, go_sem, rc, errV]) rfl ⟨rfl, ?_⟩
  exact below_setRow B4 (by omega) _

set_option maxHeartbeats 1000000 in
theorem concat_bad3 (a b c d e f A B C D E F : Int) (w : World) (h1 : apE A B C D 0 0 a b = 0) (h2 : apE A B C D 0 0 c d = 0) (h3 : apE A B C D E F e f ≠ 0) :
    Calls Tryd.prog 23 #[.agg #[.int .i64 a, .int .i64 b, .int .i64 c, .int .i64 d, .int .i64 e, .int .i64 f], .agg #[.int .i64 A, .int .i64 B, .int .i64 C, .int .i64 D, .int .i64 E, .int .i64 F]] w fun r w' => r = .returned (.tuple #[.agg #[.int .i64 0, .int .i64 0, .int .i64 0, .int .i64 0, .int .i64 0, .int .i64 0], errV 1]) ∧ Below w.heap.size w w' := by
  have e1 : errN (apE A B C D 0 0 a b) = .nilIface := by rw [h1]; rfl
  have e2 : errN (apE A B C D 0 0 c d) = .nilIface := by rw [h2]; rfl
  have e3 := eq_of_lin (apE_01 A B C D E F e f) h3
  clear h1 h2 h3
  go_enter Tryd.func23, Tryd.ntmps23
  go_wp2_with (go_at_call 27; fail)
  go_at_call 27
  refine (apply_any _ _ _ _ _ _ _ _ _).mono ?_
  rintro r w1 ⟨rfl, hb1⟩
  have B1 : Below w.heap.size w w1 := Below.trans (by go_grown) (hb1.mono (by simp; omega))
  have M := ((((At.new w #[.int .i64 a, .int .i64 b, .int .i64 c, .int .i64 d, .int .i64 e, .int .i64 f] 44 rfl).alloc _).alloc _).alloc _).later hb1
  have N := (((At.new (w.alloc _) #[.int .i64 A, .int .i64 B, .int .i64 C, .int .i64 D, .int .i64 E, .int .i64 F] 44 (b := w.heap.size + 1) (by simp)).alloc _).alloc _).later hb1
  have R := ((At.new ((w.alloc _).alloc _) #[.int .i64 0, .int .i64 0, .int .i64 0, .int .i64 0, .int .i64 0, .int .i64 0] 44 (b := w.heap.size + 1 + 1) (by simp)).alloc _).later hb1
  have S := (At.new (((w.alloc _).alloc _).alloc _) #[.int .i64 A, .int .i64 B, .int .i64 C, .int .i64 D, .int .i64 0, .int .i64 0] 44 (b := w.heap.size + 1 + 1 + 1) (by simp)).later hb1
  clear hb1
  have mz := M.lt
  have mc := M.cell
  have sz := S.lt
  have sc := S.cell
  go_wp2_with (go_at_call 27; fail)
  clear mz mc sz sc
  go_at_call 27
  refine (apply_any _ _ _ _ _ _ _ _ _).mono ?_
  rintro r w2 ⟨rfl, hb2⟩
  have B2 : Below w.heap.size w w2 := (B1.alloc B1.size _).trans (hb2.mono (by have := B1.size; simp; omega))
  have P1 := (At.new w1 #[.int .i64 (apX A B C D 0 0 a b), .int .i64 (apY A B C D 0 0 a b)] 55 rfl).later hb2
  have M2 := (M.alloc _).later hb2
  have N2 := (N.alloc _).later hb2
  have R2 := (R.alloc _).later hb2
  clear hb2 M N R S
  have mz := M2.lt
  have mc := M2.cell
  have nz := N2.lt
  have nc := N2.cell
  go_wp2_with (go_at_call 27; fail)
  clear mz mc nz nc
  go_at_call 27
  refine (apply_any _ _ _ _ _ _ _ _ _).mono ?_
  rintro r w3 ⟨rfl, hb3⟩
  have B3 : Below w.heap.size w w3 := (B2.alloc B2.size _).trans (hb3.mono (by have := B2.size; simp; omega))
  have P2 := (At.new w2 #[.int .i64 (apX A B C D 0 0 c d), .int .i64 (apY A B C D 0 0 c d)] 55 rfl).later hb3
  have P1' := (P1.alloc _).later hb3
  have R3 := (R2.alloc _).later hb3
  clear hb3 P1 M2 N2 R2
  have R4 := R3.alloc (.cells #[.int .i64 (apX A B C D E F e f), .int .i64 (apY A B C D E F e f)] 55)
  have B4 := B3.alloc B3.size (.cells #[.int .i64 (apX A B C D E F e f), .int .i64 (apY A B C D E F e f)] 55)
  clear P1' P2 R3 B3
  go_wp2_with (refine wpList_store_row rfl 44 (.tmp 4) (.tmp 56) rfl (w.heap.size + 1 + 1) #[.int .i64 0, .int .i64 0, .int .i64 0, .int .i64 0, .int .i64 0, .int .i64 0] rfl rfl 44 #[.int .i64 0, .int .i64 0, .int .i64 0, .int .i64 0, .int .i64 0, .int .i64 0] R4 (by kernel_rfl) rfl (ones6 _ _ _ _ _ _) ?_)
  have rc := (R4.setRow #[.int .i64 0, .int .i64 0, .int .i64 0, .int .i64 0, .int .i64 0, .int .i64 0]).cell
  refine bodyPost_ret (v := .tuple #[.agg #[.int .i64 0, .int .i64 0, .int .i64 0, .int .i64 0, .int .i64 0, .int .i64 0], errV 1]) (by simp [results, Tryd.results23, go_sem, rc, errV]) rfl ⟨rfl, ?_⟩
  exact below_setRow B4 (by omega) _

theorem concat_any (a b c d e f A B C D E F : Int) (w : World) :
    Calls Tryd.prog 23 #[.agg #[.int .i64 a, .int .i64 b, .int .i64 c, .int .i64 d, .int .i64 e, .int .i64 f], .agg #[.int .i64 A, .int .i64 B, .int .i64 C, .int .i64 D, .int .i64 E, .int .i64 F]] w fun r w' => r = .returned (.tuple #[coV a b c d e f A B C D E F, errN (coE a b c d e f A B C D E F)]) ∧ Below w.heap.size w w' := by
  have i1 := (ap_lin a b A B C D 0 0).1
  have i2 := (ap_lin c d A B C D 0 0).1
  have i3 := (ap_lin e f A B C D E F).1
  by_cases h1 : apE A B C D 0 0 a b = 0
  · by_cases h2 : apE A B C D 0 0 c d = 0
    · by_cases h3 : apE A B C D E F e f = 0
      · have q : coE a b c d e f A B C D E F = 0 := by
          unfold coE; rw [if_pos ⟨(i1.1 h1).1, (i1.1 h1).2, (i2.1 h2).1, (i2.1 h2).2, (i3.1 h3).1, (i3.1 h3).2⟩]
        rw [coV_ok q, q, errN_0]
        exact concat_ok a b c d e f A B C D E F w h1 h2 h3
      · have q : coE a b c d e f A B C D E F = 1 := by
          unfold coE; rw [if_neg (fun h => h3 (i3.2 ⟨h.2.2.2.2.1, h.2.2.2.2.2⟩))]
        rw [coV_bad q, q, errN_1]
        exact concat_bad3 a b c d e f A B C D E F w h1 h2 h3
    · have q : coE a b c d e f A B C D E F = 1 := by
        unfold coE; rw [if_neg (fun h => h2 (i2.2 ⟨h.2.2.1, h.2.2.2.1⟩))]
      rw [coV_bad q, q, errN_1]
      exact concat_bad2 a b c d e f A B C D E F w h1 h2
  · have q : coE a b c d e f A B C D E F = 1 := by
      unfold coE; rw [if_neg (fun h => h1 (i1.2 ⟨h.1, h.2.1⟩))]
    rw [coV_bad q, q, errN_1]
    exact concat_bad1 a b c d e f A B C D E F w h1
end Go.Proofs.YtkechdflcmgciaaDoor
