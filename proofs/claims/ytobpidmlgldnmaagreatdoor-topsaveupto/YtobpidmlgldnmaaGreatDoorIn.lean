/-
  Joined: Im, Ir, In.
-/
import Derived.Test.YtobpidmlgldnmaaGreatDoorIl

/-
  A painter: where a glyph stands.
-/
namespace Go.Proofs.YtobpidmlgldnmaaGreatDoor
open Go.RowKit
set_option maxRecDepth 100000
theorem ahead {w1 w2 : World} {Z : Array Value} {T : TypeId} (hb : Below (w1.alloc (.cells Z T)).drew.heap.size (w1.alloc (.cells Z T)).drew w2) : At w2 w1.heap.size T Z := (At.new w1 Z T rfl).drew.later hb
set_option maxHeartbeats 4000000 in
theorem place_two (K : Pk) (p : PS) (tS tG : Value) (t : M6) (a k : Int) (w : World) (hP : PAt K w p tS tG) (h1 : mulX p.now.size p.now.scale = .ok a) (h2 : conX ⟨a, 0, 0, p.now.size, 0, p.now.rise⟩ t = .error k) :
    Calls Tryz.prog 104 #[.pointer (some ⟨K.P, 2, none⟩), .agg #[.int .i64 t.a, .int .i64 t.b, .int .i64 t.c, .int .i64 t.d, .int .i64 t.e, .int .i64 t.f]] w fun e w' => MatA e (.error k) ∧ Below w.heap.size w w' := by
  have HC := hid (concat_x ⟨a, 0, 0, p.now.size, 0, p.now.rise⟩ t)
  have H2 := hid h2
  clear h2
  have T0 := hid ((At.new w #[.int .i64 t.a, .int .i64 t.b, .int .i64 t.c, .int .i64 t.d, .int .i64 t.e, .int .i64 t.f] 74 rfl).alloc (.cells #[.int .i64 0, .int .i64 0, .int .i64 0, .int .i64 0, .int .i64 0, .int .i64 0] 74))
  have R0 := hid (At.new (w.alloc (.cells #[.int .i64 t.a, .int .i64 t.b, .int .i64 t.c, .int .i64 t.d, .int .i64 t.e, .int .i64 t.f] 74)) #[.int .i64 0, .int .i64 0, .int .i64 0, .int .i64 0, .int .i64 0, .int .i64 0] 74 (b := w.heap.size + 1) (by simp))
  have P0 := hid ((hP.alloc (.cells #[.int .i64 t.a, .int .i64 t.b, .int .i64 t.c, .int .i64 t.d, .int .i64 t.e, .int .i64 t.f] 74)).alloc (.cells #[.int .i64 0, .int .i64 0, .int .i64 0, .int .i64 0, .int .i64 0, .int .i64 0] 74))
  have B0 : Hid (Below w.heap.size w ((w.alloc (.cells #[.int .i64 t.a, .int .i64 t.b, .int .i64 t.c, .int .i64 t.d, .int .i64 t.e, .int .i64 t.f] 74)).alloc (.cells #[.int .i64 0, .int .i64 0, .int .i64 0, .int .i64 0, .int .i64 0, .int .i64 0] 74))) := hid (by go_grown)
  have HM := hid (mul_x p.now.size p.now.scale)
  have H1 := hid h1
  clear hP h1
  go_enter Tryz.func104, Tryz.ntmps104
  go_wp2_with fail
  generalize (w.alloc (.cells #[.int .i64 t.a, .int .i64 t.b, .int .i64 t.c, .int .i64 t.d, .int .i64 t.e, .int .i64 t.f] 74)).alloc (.cells #[.int .i64 0, .int .i64 0, .int .i64 0, .int .i64 0, .int .i64 0, .int .i64 0] 74) = W0 at T0 R0 P0 B0 ⊢
  have H0 := hid (show ∀ W, Below W0.heap.size W0 W → Below W0.heap.size W0 W ∧ W.cell? ⟨K.P, 14, none⟩ = some (.int .i64 p.now.size) ∧ W.cell? ⟨K.P, 17, none⟩ = some (.int .i64 p.now.scale) from fun W hW => ⟨hW, (P0.out.later hW).c 14, (P0.out.later hW).c 17⟩)
  go_region_held3 (fun (W : World) => Below W0.heap.size W0 W ∧ W.cell? ⟨K.P, 14, none⟩ = some (.int .i64 p.now.size) ∧ W.cell? ⟨K.P, 17, none⟩ = some (.int .i64 p.now.scale))
    ((refine H0.out _ ?_; go_grown))
    (first
      | (go_at_call 108; refine (HM.out _).mono ?_; rintro e w1 ⟨hm, hb1⟩; rw [H1.out] at hm; cases (show e = .returned (.tuple #[.int .i64 a, .nilIface]) from hm); clear hm; (have B1 : Below W0.heap.size W0 w1 := chn0 (by go_grown) hb1); clear hb1))
  have T1 := hid (T0.out.later B1)
  have R1 := hid (R0.out.later B1)
  have P1 := hid (P0.out.later B1)
  have Bw := hid (chn0 B0.out B1)
  clear T0 R0 P0 B0 H0 B1 HM
  have H0 := hid (show ∀ W, Below w1.heap.size w1 W → Below w1.heap.size w1 W ∧ W.cell? ⟨K.P, 14, none⟩ = some (.int .i64 p.now.size) ∧ W.cell? ⟨K.P, 19, none⟩ = some (.int .i64 p.now.rise) ∧ W.cell? ⟨w.heap.size, 0, none⟩ = some (.int .i64 t.a) ∧ W.cell? ⟨w.heap.size, 1, none⟩ = some (.int .i64 t.b) ∧ W.cell? ⟨w.heap.size, 2, none⟩ = some (.int .i64 t.c) ∧ W.cell? ⟨w.heap.size, 3, none⟩ = some (.int .i64 t.d) ∧ W.cell? ⟨w.heap.size, 4, none⟩ = some (.int .i64 t.e) ∧ W.cell? ⟨w.heap.size, 5, none⟩ = some (.int .i64 t.f) from fun W hW => ⟨hW, (P1.out.later hW).c 14, (P1.out.later hW).c 19, (T1.out.later hW).cell 0, (T1.out.later hW).cell 1, (T1.out.later hW).cell 2, (T1.out.later hW).cell 3, (T1.out.later hW).cell 4, (T1.out.later hW).cell 5⟩)
  go_wp2_with fail
  go_region_held3 (fun (W : World) => Below w1.heap.size w1 W ∧ W.cell? ⟨K.P, 14, none⟩ = some (.int .i64 p.now.size) ∧ W.cell? ⟨K.P, 19, none⟩ = some (.int .i64 p.now.rise) ∧ W.cell? ⟨w.heap.size, 0, none⟩ = some (.int .i64 t.a) ∧ W.cell? ⟨w.heap.size, 1, none⟩ = some (.int .i64 t.b) ∧ W.cell? ⟨w.heap.size, 2, none⟩ = some (.int .i64 t.c) ∧ W.cell? ⟨w.heap.size, 3, none⟩ = some (.int .i64 t.d) ∧ W.cell? ⟨w.heap.size, 4, none⟩ = some (.int .i64 t.e) ∧ W.cell? ⟨w.heap.size, 5, none⟩ = some (.int .i64 t.f))
    (first | with_reducible exact H0.out _ (below6 B2.out (Nat.le_refl _) _ _ _ _ _ _) | with_reducible exact H0.out _ (Below.refl _ _) | with_reducible exact H0.out _ (Below.refl _ _).drew | with_reducible exact H0.out _ ((Below.refl _ _).alloc (Nat.le_refl _) _).drew | with_reducible exact H0.out _ ((Below.refl _ _).drew.alloc (Nat.le_refl _) _) | with_reducible exact H0.out _ B2.out | with_reducible exact H0.out _ (B2.out.alloc B2.out.size _) | with_reducible exact H0.out _ (below6 B2.out (Nat.le_refl _) _ _ _ _ _ _) | with_reducible exact H0.out _ (below6 (B2.out.alloc B2.out.size _) B2.out.size _ _ _ _ _ _))
    (first
      | (go_at_call 70; refine (HC.out _).mono ?_; rintro e w2 ⟨hm, hb2⟩; rw [H2.out] at hm; cases (show e = .returned (.tuple #[.agg #[.int .i64 0, .int .i64 0, .int .i64 0, .int .i64 0, .int .i64 0, .int .i64 0], .iface 68 (.int .i64 k)]) from hm); clear hm; (have B2 : Hid (Below w1.heap.size w1 w2) := by first | with_reducible exact hid (chn0 (Below.refl _ _).drew hb2) | with_reducible exact hid (chn0 ((Below.refl _ _).alloc (Nat.le_refl _) _).drew hb2)); (try (have Am := ahead hb2)); (try (have m0 : w2.cell? ⟨w1.heap.size, 0, none⟩ = some (.int .i64 0) := Am.cell 0)); (try (have m1 : w2.cell? ⟨w1.heap.size, 1, none⟩ = some (.int .i64 0) := Am.cell 1)); (try (have m2 : w2.cell? ⟨w1.heap.size, 2, none⟩ = some (.int .i64 0) := Am.cell 2)); (try (have m3 : w2.cell? ⟨w1.heap.size, 3, none⟩ = some (.int .i64 0) := Am.cell 3)); (try (have m4 : w2.cell? ⟨w1.heap.size, 4, none⟩ = some (.int .i64 0) := Am.cell 4)); (try (have m5 : w2.cell? ⟨w1.heap.size, 5, none⟩ = some (.int .i64 0) := Am.cell 5)); (try (have n0 := Am.free 0)); (try (have n1 := Am.free 1)); (try (have n2 := Am.free 2)); (try (have n3 := Am.free 3)); (try (have n4 := Am.free 4)); (try (have n5 := Am.free 5)); (try (clear Am)); clear hb2))
  all_goals
    obtain ⟨wf, hwf, BF⟩ : ∃ wf, wf = w2.alloc (.cells #[.int .i64 0, .int .i64 0, .int .i64 0, .int .i64 0, .int .i64 0, .int .i64 0] 74) ∧ Below w1.heap.size w1 wf := ⟨_, rfl, B2.out.alloc B2.out.size _⟩
    first
      | rw [← hwf]
      | (clear hwf BF wf
         obtain ⟨wf, hwf, BF⟩ : ∃ wf, wf = ((((((w2.setCell ⟨w1.heap.size, 0, none⟩ (.int .i64 0)).setCell ⟨w1.heap.size, 1, none⟩ (.int .i64 0)).setCell ⟨w1.heap.size, 2, none⟩ (.int .i64 0)).setCell ⟨w1.heap.size, 3, none⟩ (.int .i64 0)).setCell ⟨w1.heap.size, 4, none⟩ (.int .i64 0)).setCell ⟨w1.heap.size, 5, none⟩ (.int .i64 0)) ∧ Below w1.heap.size w1 wf := ⟨_, rfl, below6 B2.out (Nat.le_refl _) _ _ _ _ _ _⟩
         rw [← hwf])
    have R3 := R1.out.later BF
    have rc := R3.cell
    have rfr := R3.free
    have zR := R3.lt
    have BW := hid (chn0 Bw.out BF)
    clear hwf BF R3 R1 T1 P1 H0 B2 HC H1 H2 Bw
    go_wp2_with fail
    refine bodyPost_ret (v := .tuple #[.agg #[.int .i64 0, .int .i64 0, .int .i64 0, .int .i64 0, .int .i64 0, .int .i64 0], errV k]) (by simp [results, Tryz.results104, go_sem, errV, rc]) rfl ⟨rfl, below6 BW.out (by omega) _ _ _ _ _ _⟩
end Go.Proofs.YtobpidmlgldnmaaGreatDoor

/-
  A painter: where a glyph stands, at last.
-/
namespace Go.Proofs.YtobpidmlgldnmaaGreatDoor
open Go.RowKit
set_option maxRecDepth 100000
theorem other6 {w : World} {b b' o : Nat} (hne : b' ≠ b) (v0 v1 v2 v3 v4 v5 : Value) : ((((((w.setCell ⟨b, 0, none⟩ v0).setCell ⟨b, 1, none⟩ v1).setCell ⟨b, 2, none⟩ v2).setCell ⟨b, 3, none⟩ v3).setCell ⟨b, 4, none⟩ v4).setCell ⟨b, 5, none⟩ v5).cell? ⟨b', o, none⟩ = w.cell? ⟨b', o, none⟩ := by
  rw [World.cell?_setCell_other _ _ _ _ (by simp), World.cell?_setCell_other _ _ _ _ (by simp), World.cell?_setCell_other _ _ _ _ (by simp), World.cell?_setCell_other _ _ _ _ (by simp), World.cell?_setCell_other _ _ _ _ (by simp), World.cell?_setCell_other _ _ _ _ (by simp)]
set_option maxHeartbeats 4000000 in
theorem place_three (K : Pk) (p : PS) (tS tG : Value) (t : M6) (a : Int) (m : M6) (r : Ex M6) (w : World) (hP : PAt K w p tS tG) (h1 : mulX p.now.size p.now.scale = .ok a) (h2 : conX ⟨a, 0, 0, p.now.size, 0, p.now.rise⟩ t = .ok m) (h3 : conX m p.now.m = r) :
    Calls Tryz.prog 104 #[.pointer (some ⟨K.P, 2, none⟩), .agg #[.int .i64 t.a, .int .i64 t.b, .int .i64 t.c, .int .i64 t.d, .int .i64 t.e, .int .i64 t.f]] w fun e w' => MatA e (r) ∧ Below w.heap.size w w' := by
  have HC := hid (concat_x ⟨a, 0, 0, p.now.size, 0, p.now.rise⟩ t)
  have HD := hid (concat_x m p.now.m)
  have ZP := hid hP.at_.lt
  have H2 := hid h2
  have H3 := hid h3
  clear h2 h3
  have T0 := hid ((At.new w #[.int .i64 t.a, .int .i64 t.b, .int .i64 t.c, .int .i64 t.d, .int .i64 t.e, .int .i64 t.f] 74 rfl).alloc (.cells #[.int .i64 0, .int .i64 0, .int .i64 0, .int .i64 0, .int .i64 0, .int .i64 0] 74))
  have R0 := hid (At.new (w.alloc (.cells #[.int .i64 t.a, .int .i64 t.b, .int .i64 t.c, .int .i64 t.d, .int .i64 t.e, .int .i64 t.f] 74)) #[.int .i64 0, .int .i64 0, .int .i64 0, .int .i64 0, .int .i64 0, .int .i64 0] 74 (b := w.heap.size + 1) (by simp))
  have P0 := hid ((hP.alloc (.cells #[.int .i64 t.a, .int .i64 t.b, .int .i64 t.c, .int .i64 t.d, .int .i64 t.e, .int .i64 t.f] 74)).alloc (.cells #[.int .i64 0, .int .i64 0, .int .i64 0, .int .i64 0, .int .i64 0, .int .i64 0] 74))
  have B0 : Hid (Below w.heap.size w ((w.alloc (.cells #[.int .i64 t.a, .int .i64 t.b, .int .i64 t.c, .int .i64 t.d, .int .i64 t.e, .int .i64 t.f] 74)).alloc (.cells #[.int .i64 0, .int .i64 0, .int .i64 0, .int .i64 0, .int .i64 0, .int .i64 0] 74))) := hid (by go_grown)
  have HM := hid (mul_x p.now.size p.now.scale)
  have H1 := hid h1
  clear hP h1
  go_enter Tryz.func104, Tryz.ntmps104
  go_wp2_with fail
  generalize (w.alloc (.cells #[.int .i64 t.a, .int .i64 t.b, .int .i64 t.c, .int .i64 t.d, .int .i64 t.e, .int .i64 t.f] 74)).alloc (.cells #[.int .i64 0, .int .i64 0, .int .i64 0, .int .i64 0, .int .i64 0, .int .i64 0] 74) = W0 at T0 R0 P0 B0 ⊢
  have H0 := hid (show ∀ W, Below W0.heap.size W0 W → Below W0.heap.size W0 W ∧ W.cell? ⟨K.P, 14, none⟩ = some (.int .i64 p.now.size) ∧ W.cell? ⟨K.P, 17, none⟩ = some (.int .i64 p.now.scale) from fun W hW => ⟨hW, (P0.out.later hW).c 14, (P0.out.later hW).c 17⟩)
  go_region_held3 (fun (W : World) => Below W0.heap.size W0 W ∧ W.cell? ⟨K.P, 14, none⟩ = some (.int .i64 p.now.size) ∧ W.cell? ⟨K.P, 17, none⟩ = some (.int .i64 p.now.scale))
    ((refine H0.out _ ?_; go_grown))
    (first
      | (go_at_call 108; refine (HM.out _).mono ?_; rintro e w1 ⟨hm, hb1⟩; rw [H1.out] at hm; cases (show e = .returned (.tuple #[.int .i64 a, .nilIface]) from hm); clear hm; (have B1 : Below W0.heap.size W0 w1 := chn0 (by go_grown) hb1); clear hb1))
  have T1 := hid (T0.out.later B1)
  have R1 := hid (R0.out.later B1)
  have P1 := hid (P0.out.later B1)
  have Bw := hid (chn0 B0.out B1)
  clear T0 R0 P0 B0 H0 B1 HM
  have H0 := hid (show ∀ W, Below w1.heap.size w1 W → Below w1.heap.size w1 W ∧ W.cell? ⟨K.P, 14, none⟩ = some (.int .i64 p.now.size) ∧ W.cell? ⟨K.P, 19, none⟩ = some (.int .i64 p.now.rise) ∧ W.cell? ⟨w.heap.size, 0, none⟩ = some (.int .i64 t.a) ∧ W.cell? ⟨w.heap.size, 1, none⟩ = some (.int .i64 t.b) ∧ W.cell? ⟨w.heap.size, 2, none⟩ = some (.int .i64 t.c) ∧ W.cell? ⟨w.heap.size, 3, none⟩ = some (.int .i64 t.d) ∧ W.cell? ⟨w.heap.size, 4, none⟩ = some (.int .i64 t.e) ∧ W.cell? ⟨w.heap.size, 5, none⟩ = some (.int .i64 t.f) from fun W hW => ⟨hW, (P1.out.later hW).c 14, (P1.out.later hW).c 19, (T1.out.later hW).cell 0, (T1.out.later hW).cell 1, (T1.out.later hW).cell 2, (T1.out.later hW).cell 3, (T1.out.later hW).cell 4, (T1.out.later hW).cell 5⟩)
  go_wp2_with fail
  go_region_held3 (fun (W : World) => Below w1.heap.size w1 W ∧ W.cell? ⟨K.P, 14, none⟩ = some (.int .i64 p.now.size) ∧ W.cell? ⟨K.P, 19, none⟩ = some (.int .i64 p.now.rise) ∧ W.cell? ⟨w.heap.size, 0, none⟩ = some (.int .i64 t.a) ∧ W.cell? ⟨w.heap.size, 1, none⟩ = some (.int .i64 t.b) ∧ W.cell? ⟨w.heap.size, 2, none⟩ = some (.int .i64 t.c) ∧ W.cell? ⟨w.heap.size, 3, none⟩ = some (.int .i64 t.d) ∧ W.cell? ⟨w.heap.size, 4, none⟩ = some (.int .i64 t.e) ∧ W.cell? ⟨w.heap.size, 5, none⟩ = some (.int .i64 t.f))
    (first | with_reducible exact H0.out _ (below6 B2.out (Nat.le_refl _) _ _ _ _ _ _) | with_reducible exact H0.out _ (Below.refl _ _) | with_reducible exact H0.out _ (Below.refl _ _).drew | with_reducible exact H0.out _ ((Below.refl _ _).alloc (Nat.le_refl _) _).drew | with_reducible exact H0.out _ ((Below.refl _ _).drew.alloc (Nat.le_refl _) _) | with_reducible exact H0.out _ B2.out | with_reducible exact H0.out _ (B2.out.alloc B2.out.size _) | with_reducible exact H0.out _ (below6 B2.out (Nat.le_refl _) _ _ _ _ _ _) | with_reducible exact H0.out _ (below6 (B2.out.alloc B2.out.size _) B2.out.size _ _ _ _ _ _))
    (first
      | (go_at_call 70; refine (HC.out _).mono ?_; rintro e w2 ⟨hm, hb2⟩; rw [H2.out] at hm; cases (show e = .returned (.tuple #[.agg #[.int .i64 m.a, .int .i64 m.b, .int .i64 m.c, .int .i64 m.d, .int .i64 m.e, .int .i64 m.f], .nilIface]) from hm); clear hm; (have B2 : Hid (Below w1.heap.size w1 w2) := by first | with_reducible exact hid (chn0 (Below.refl _ _).drew hb2) | with_reducible exact hid (chn0 ((Below.refl _ _).alloc (Nat.le_refl _) _).drew hb2)); (try (have HAm := hid (ahead hb2))); (try (have m0 : w2.cell? ⟨w1.heap.size, 0, none⟩ = some (.int .i64 0) := HAm.out.cell 0)); (try (have m1 : w2.cell? ⟨w1.heap.size, 1, none⟩ = some (.int .i64 0) := HAm.out.cell 1)); (try (have m2 : w2.cell? ⟨w1.heap.size, 2, none⟩ = some (.int .i64 0) := HAm.out.cell 2)); (try (have m3 : w2.cell? ⟨w1.heap.size, 3, none⟩ = some (.int .i64 0) := HAm.out.cell 3)); (try (have m4 : w2.cell? ⟨w1.heap.size, 4, none⟩ = some (.int .i64 0) := HAm.out.cell 4)); (try (have m5 : w2.cell? ⟨w1.heap.size, 5, none⟩ = some (.int .i64 0) := HAm.out.cell 5)); (try (have n0 := HAm.out.free 0)); (try (have n1 := HAm.out.free 1)); (try (have n2 := HAm.out.free 2)); (try (have n3 := HAm.out.free 3)); (try (have n4 := HAm.out.free 4)); (try (have n5 := HAm.out.free 5)); clear hb2))
  all_goals
    obtain ⟨wf, hwf, BF, bm, hbm, MF⟩ : ∃ wf, wf = w2.alloc (.cells #[.int .i64 m.a, .int .i64 m.b, .int .i64 m.c, .int .i64 m.d, .int .i64 m.e, .int .i64 m.f] 74) ∧ Below w1.heap.size w1 wf ∧ ∃ bm, bm = w2.heap.size ∧ At wf bm 74 #[.int .i64 m.a, .int .i64 m.b, .int .i64 m.c, .int .i64 m.d, .int .i64 m.e, .int .i64 m.f] := ⟨_, rfl, B2.out.alloc B2.out.size _, _, rfl, At.new w2 _ _ rfl⟩
    first
      | rw [← hwf, ← hbm]
      | (clear hwf BF MF hbm bm wf
         obtain ⟨wf, hwf, BF, bm, hbm, MF⟩ : ∃ wf, wf = ((((((w2.setCell ⟨w1.heap.size, 0, none⟩ (.int .i64 m.a)).setCell ⟨w1.heap.size, 1, none⟩ (.int .i64 m.b)).setCell ⟨w1.heap.size, 2, none⟩ (.int .i64 m.c)).setCell ⟨w1.heap.size, 3, none⟩ (.int .i64 m.d)).setCell ⟨w1.heap.size, 4, none⟩ (.int .i64 m.e)).setCell ⟨w1.heap.size, 5, none⟩ (.int .i64 m.f)) ∧ Below w1.heap.size w1 wf ∧ ∃ bm, bm = w1.heap.size ∧ At wf bm 74 #[.int .i64 m.a, .int .i64 m.b, .int .i64 m.c, .int .i64 m.d, .int .i64 m.e, .int .i64 m.f] := ⟨_, rfl, below6 B2.out (Nat.le_refl _) _ _ _ _ _ _, _, rfl, (putM_six HAm.out m.a m.b m.c m.d m.e m.f).2⟩
         rw [← hwf, ← hbm])
    have R3 := hid (R1.out.later BF)
    have P3 := hid (P1.out.later BF)
    have BW := hid (chn0 Bw.out BF)
    have MF := hid MF
    have hne : bm ≠ w.heap.size + 1 := by
      have := R1.out.lt
      have := B2.out.size
      rw [hbm]; omega
    have hnp : K.P ≠ w.heap.size + 1 := by have := ZP.out; omega
    have HN := hid (And.intro hne hnp)
    clear hwf hbm BF R1 T1 P1 H0 B2 HC H1 H2 Bw hne hnp
    try clear HAm m0 m1 m2 m3 m4 m5 n0 n1 n2 n3 n4 n5
    have HS := hid (fun W (hM : At W bm 74 #[.int .i64 m.a, .int .i64 m.b, .int .i64 m.c, .int .i64 m.d, .int .i64 m.e, .int .i64 m.f]) (hQ : PAt K W p tS tG) => (show W.cell? ⟨bm, 0, none⟩ = some (.int .i64 m.a) ∧ W.cell? ⟨bm, 1, none⟩ = some (.int .i64 m.b) ∧ W.cell? ⟨bm, 2, none⟩ = some (.int .i64 m.c) ∧ W.cell? ⟨bm, 3, none⟩ = some (.int .i64 m.d) ∧ W.cell? ⟨bm, 4, none⟩ = some (.int .i64 m.e) ∧ W.cell? ⟨bm, 5, none⟩ = some (.int .i64 m.f) ∧ W.cell? ⟨K.P, 2, none⟩ = some (.int .i64 p.now.m.a) ∧ W.cell? ⟨K.P, 3, none⟩ = some (.int .i64 p.now.m.b) ∧ W.cell? ⟨K.P, 4, none⟩ = some (.int .i64 p.now.m.c) ∧ W.cell? ⟨K.P, 5, none⟩ = some (.int .i64 p.now.m.d) ∧ W.cell? ⟨K.P, 6, none⟩ = some (.int .i64 p.now.m.e) ∧ W.cell? ⟨K.P, 7, none⟩ = some (.int .i64 p.now.m.f) from ⟨hM.cell 0, hM.cell 1, hM.cell 2, hM.cell 3, hM.cell 4, hM.cell 5, hQ.c 2, hQ.c 3, hQ.c 4, hQ.c 5, hQ.c 6, hQ.c 7⟩))
    go_wp2_with fail
    cases r with
    | ok m3 =>
      go_region_held3 (fun (W : World) => W.cell? ⟨bm, 0, none⟩ = some (.int .i64 m.a) ∧ W.cell? ⟨bm, 1, none⟩ = some (.int .i64 m.b) ∧ W.cell? ⟨bm, 2, none⟩ = some (.int .i64 m.c) ∧ W.cell? ⟨bm, 3, none⟩ = some (.int .i64 m.d) ∧ W.cell? ⟨bm, 4, none⟩ = some (.int .i64 m.e) ∧ W.cell? ⟨bm, 5, none⟩ = some (.int .i64 m.f) ∧ W.cell? ⟨K.P, 2, none⟩ = some (.int .i64 p.now.m.a) ∧ W.cell? ⟨K.P, 3, none⟩ = some (.int .i64 p.now.m.b) ∧ W.cell? ⟨K.P, 4, none⟩ = some (.int .i64 p.now.m.c) ∧ W.cell? ⟨K.P, 5, none⟩ = some (.int .i64 p.now.m.d) ∧ W.cell? ⟨K.P, 6, none⟩ = some (.int .i64 p.now.m.e) ∧ W.cell? ⟨K.P, 7, none⟩ = some (.int .i64 p.now.m.f))
        (first | with_reducible exact HS4.out | with_reducible exact HS.out _ M3.out P4.out | with_reducible exact HS.out _ MF.out.drew P3.out.drew | with_reducible exact HS.out _ MF.out P3.out)
        (first
          | (go_at_call 70; refine (HD.out _).mono ?_; rintro e w3 ⟨hm, hb3⟩; rw [H3.out] at hm; cases (show e = .returned (.tuple #[.agg #[.int .i64 m3.a, .int .i64 m3.b, .int .i64 m3.c, .int .i64 m3.d, .int .i64 m3.e, .int .i64 m3.f], .nilIface]) from hm); clear hm; (have M3 := hid (MF.out.drew.later hb3)); (have P4 := hid (P3.out.drew.later hb3)); (have R4 := R3.out.drew.later hb3); (have r0 : w3.cell? ⟨w.heap.size + 1, 0, none⟩ = some (.int .i64 0) := R4.cell 0); (have r1 : w3.cell? ⟨w.heap.size + 1, 1, none⟩ = some (.int .i64 0) := R4.cell 1); (have r2 : w3.cell? ⟨w.heap.size + 1, 2, none⟩ = some (.int .i64 0) := R4.cell 2); (have r3 : w3.cell? ⟨w.heap.size + 1, 3, none⟩ = some (.int .i64 0) := R4.cell 3); (have r4 : w3.cell? ⟨w.heap.size + 1, 4, none⟩ = some (.int .i64 0) := R4.cell 4); (have r5 : w3.cell? ⟨w.heap.size + 1, 5, none⟩ = some (.int .i64 0) := R4.cell 5); (have f0 := R4.free 0); (have f1 := R4.free 1); (have f2 := R4.free 2); (have f3 := R4.free 3); (have f4 := R4.free 4); (have f5 := R4.free 5); (have zR := R4.lt); (have HS4 := hid (show ((((((w3.setCell ⟨(w.heap.size + 1), 0, none⟩ (.int .i64 m3.a)).setCell ⟨(w.heap.size + 1), 1, none⟩ (.int .i64 m3.b)).setCell ⟨(w.heap.size + 1), 2, none⟩ (.int .i64 m3.c)).setCell ⟨(w.heap.size + 1), 3, none⟩ (.int .i64 m3.d)).setCell ⟨(w.heap.size + 1), 4, none⟩ (.int .i64 m3.e)).setCell ⟨(w.heap.size + 1), 5, none⟩ (.int .i64 m3.f)).cell? ⟨bm, 0, none⟩ = some (.int .i64 m.a) ∧ ((((((w3.setCell ⟨(w.heap.size + 1), 0, none⟩ (.int .i64 m3.a)).setCell ⟨(w.heap.size + 1), 1, none⟩ (.int .i64 m3.b)).setCell ⟨(w.heap.size + 1), 2, none⟩ (.int .i64 m3.c)).setCell ⟨(w.heap.size + 1), 3, none⟩ (.int .i64 m3.d)).setCell ⟨(w.heap.size + 1), 4, none⟩ (.int .i64 m3.e)).setCell ⟨(w.heap.size + 1), 5, none⟩ (.int .i64 m3.f)).cell? ⟨bm, 1, none⟩ = some (.int .i64 m.b) ∧ ((((((w3.setCell ⟨(w.heap.size + 1), 0, none⟩ (.int .i64 m3.a)).setCell ⟨(w.heap.size + 1), 1, none⟩ (.int .i64 m3.b)).setCell ⟨(w.heap.size + 1), 2, none⟩ (.int .i64 m3.c)).setCell ⟨(w.heap.size + 1), 3, none⟩ (.int .i64 m3.d)).setCell ⟨(w.heap.size + 1), 4, none⟩ (.int .i64 m3.e)).setCell ⟨(w.heap.size + 1), 5, none⟩ (.int .i64 m3.f)).cell? ⟨bm, 2, none⟩ = some (.int .i64 m.c) ∧ ((((((w3.setCell ⟨(w.heap.size + 1), 0, none⟩ (.int .i64 m3.a)).setCell ⟨(w.heap.size + 1), 1, none⟩ (.int .i64 m3.b)).setCell ⟨(w.heap.size + 1), 2, none⟩ (.int .i64 m3.c)).setCell ⟨(w.heap.size + 1), 3, none⟩ (.int .i64 m3.d)).setCell ⟨(w.heap.size + 1), 4, none⟩ (.int .i64 m3.e)).setCell ⟨(w.heap.size + 1), 5, none⟩ (.int .i64 m3.f)).cell? ⟨bm, 3, none⟩ = some (.int .i64 m.d) ∧ ((((((w3.setCell ⟨(w.heap.size + 1), 0, none⟩ (.int .i64 m3.a)).setCell ⟨(w.heap.size + 1), 1, none⟩ (.int .i64 m3.b)).setCell ⟨(w.heap.size + 1), 2, none⟩ (.int .i64 m3.c)).setCell ⟨(w.heap.size + 1), 3, none⟩ (.int .i64 m3.d)).setCell ⟨(w.heap.size + 1), 4, none⟩ (.int .i64 m3.e)).setCell ⟨(w.heap.size + 1), 5, none⟩ (.int .i64 m3.f)).cell? ⟨bm, 4, none⟩ = some (.int .i64 m.e) ∧ ((((((w3.setCell ⟨(w.heap.size + 1), 0, none⟩ (.int .i64 m3.a)).setCell ⟨(w.heap.size + 1), 1, none⟩ (.int .i64 m3.b)).setCell ⟨(w.heap.size + 1), 2, none⟩ (.int .i64 m3.c)).setCell ⟨(w.heap.size + 1), 3, none⟩ (.int .i64 m3.d)).setCell ⟨(w.heap.size + 1), 4, none⟩ (.int .i64 m3.e)).setCell ⟨(w.heap.size + 1), 5, none⟩ (.int .i64 m3.f)).cell? ⟨bm, 5, none⟩ = some (.int .i64 m.f) ∧ ((((((w3.setCell ⟨(w.heap.size + 1), 0, none⟩ (.int .i64 m3.a)).setCell ⟨(w.heap.size + 1), 1, none⟩ (.int .i64 m3.b)).setCell ⟨(w.heap.size + 1), 2, none⟩ (.int .i64 m3.c)).setCell ⟨(w.heap.size + 1), 3, none⟩ (.int .i64 m3.d)).setCell ⟨(w.heap.size + 1), 4, none⟩ (.int .i64 m3.e)).setCell ⟨(w.heap.size + 1), 5, none⟩ (.int .i64 m3.f)).cell? ⟨K.P, 2, none⟩ = some (.int .i64 p.now.m.a) ∧ ((((((w3.setCell ⟨(w.heap.size + 1), 0, none⟩ (.int .i64 m3.a)).setCell ⟨(w.heap.size + 1), 1, none⟩ (.int .i64 m3.b)).setCell ⟨(w.heap.size + 1), 2, none⟩ (.int .i64 m3.c)).setCell ⟨(w.heap.size + 1), 3, none⟩ (.int .i64 m3.d)).setCell ⟨(w.heap.size + 1), 4, none⟩ (.int .i64 m3.e)).setCell ⟨(w.heap.size + 1), 5, none⟩ (.int .i64 m3.f)).cell? ⟨K.P, 3, none⟩ = some (.int .i64 p.now.m.b) ∧ ((((((w3.setCell ⟨(w.heap.size + 1), 0, none⟩ (.int .i64 m3.a)).setCell ⟨(w.heap.size + 1), 1, none⟩ (.int .i64 m3.b)).setCell ⟨(w.heap.size + 1), 2, none⟩ (.int .i64 m3.c)).setCell ⟨(w.heap.size + 1), 3, none⟩ (.int .i64 m3.d)).setCell ⟨(w.heap.size + 1), 4, none⟩ (.int .i64 m3.e)).setCell ⟨(w.heap.size + 1), 5, none⟩ (.int .i64 m3.f)).cell? ⟨K.P, 4, none⟩ = some (.int .i64 p.now.m.c) ∧ ((((((w3.setCell ⟨(w.heap.size + 1), 0, none⟩ (.int .i64 m3.a)).setCell ⟨(w.heap.size + 1), 1, none⟩ (.int .i64 m3.b)).setCell ⟨(w.heap.size + 1), 2, none⟩ (.int .i64 m3.c)).setCell ⟨(w.heap.size + 1), 3, none⟩ (.int .i64 m3.d)).setCell ⟨(w.heap.size + 1), 4, none⟩ (.int .i64 m3.e)).setCell ⟨(w.heap.size + 1), 5, none⟩ (.int .i64 m3.f)).cell? ⟨K.P, 5, none⟩ = some (.int .i64 p.now.m.d) ∧ ((((((w3.setCell ⟨(w.heap.size + 1), 0, none⟩ (.int .i64 m3.a)).setCell ⟨(w.heap.size + 1), 1, none⟩ (.int .i64 m3.b)).setCell ⟨(w.heap.size + 1), 2, none⟩ (.int .i64 m3.c)).setCell ⟨(w.heap.size + 1), 3, none⟩ (.int .i64 m3.d)).setCell ⟨(w.heap.size + 1), 4, none⟩ (.int .i64 m3.e)).setCell ⟨(w.heap.size + 1), 5, none⟩ (.int .i64 m3.f)).cell? ⟨K.P, 6, none⟩ = some (.int .i64 p.now.m.e) ∧ ((((((w3.setCell ⟨(w.heap.size + 1), 0, none⟩ (.int .i64 m3.a)).setCell ⟨(w.heap.size + 1), 1, none⟩ (.int .i64 m3.b)).setCell ⟨(w.heap.size + 1), 2, none⟩ (.int .i64 m3.c)).setCell ⟨(w.heap.size + 1), 3, none⟩ (.int .i64 m3.d)).setCell ⟨(w.heap.size + 1), 4, none⟩ (.int .i64 m3.e)).setCell ⟨(w.heap.size + 1), 5, none⟩ (.int .i64 m3.f)).cell? ⟨K.P, 7, none⟩ = some (.int .i64 p.now.m.f) from ⟨(other6 HN.out.1 _ _ _ _ _ _).trans (M3.out.cell 0), (other6 HN.out.1 _ _ _ _ _ _).trans (M3.out.cell 1), (other6 HN.out.1 _ _ _ _ _ _).trans (M3.out.cell 2), (other6 HN.out.1 _ _ _ _ _ _).trans (M3.out.cell 3), (other6 HN.out.1 _ _ _ _ _ _).trans (M3.out.cell 4), (other6 HN.out.1 _ _ _ _ _ _).trans (M3.out.cell 5), (other6 HN.out.2 _ _ _ _ _ _).trans (P4.out.c 2), (other6 HN.out.2 _ _ _ _ _ _).trans (P4.out.c 3), (other6 HN.out.2 _ _ _ _ _ _).trans (P4.out.c 4), (other6 HN.out.2 _ _ _ _ _ _).trans (P4.out.c 5), (other6 HN.out.2 _ _ _ _ _ _).trans (P4.out.c 6), (other6 HN.out.2 _ _ _ _ _ _).trans (P4.out.c 7)⟩)); (have BX := hid (chn0 BW.out.drew hb3)); clear hb3 R4))
      all_goals
        go_wp2_with fail
        refine bodyPost_ret (v := .tuple #[.agg m3.cs.toArray, .nilIface]) (by simp [results, Tryz.results104, go_sem, M6.cs, r0, r1, r2, r3, r4, r5]) rfl ⟨rfl, below6 BX.out (by omega) _ _ _ _ _ _⟩
    | error k =>
      go_region_held3 (fun (W : World) => W.cell? ⟨bm, 0, none⟩ = some (.int .i64 m.a) ∧ W.cell? ⟨bm, 1, none⟩ = some (.int .i64 m.b) ∧ W.cell? ⟨bm, 2, none⟩ = some (.int .i64 m.c) ∧ W.cell? ⟨bm, 3, none⟩ = some (.int .i64 m.d) ∧ W.cell? ⟨bm, 4, none⟩ = some (.int .i64 m.e) ∧ W.cell? ⟨bm, 5, none⟩ = some (.int .i64 m.f) ∧ W.cell? ⟨K.P, 2, none⟩ = some (.int .i64 p.now.m.a) ∧ W.cell? ⟨K.P, 3, none⟩ = some (.int .i64 p.now.m.b) ∧ W.cell? ⟨K.P, 4, none⟩ = some (.int .i64 p.now.m.c) ∧ W.cell? ⟨K.P, 5, none⟩ = some (.int .i64 p.now.m.d) ∧ W.cell? ⟨K.P, 6, none⟩ = some (.int .i64 p.now.m.e) ∧ W.cell? ⟨K.P, 7, none⟩ = some (.int .i64 p.now.m.f))
        (first | with_reducible exact HS4.out | with_reducible exact HS.out _ M3.out P4.out | with_reducible exact HS.out _ MF.out.drew P3.out.drew | with_reducible exact HS.out _ MF.out P3.out)
        (first
          | (go_at_call 70; refine (HD.out _).mono ?_; rintro e w3 ⟨hm, hb3⟩; rw [H3.out] at hm; cases (show e = .returned (.tuple #[.agg #[.int .i64 0, .int .i64 0, .int .i64 0, .int .i64 0, .int .i64 0, .int .i64 0], .iface 68 (.int .i64 k)]) from hm); clear hm; (have M3 := hid (MF.out.drew.later hb3)); (have P4 := hid (P3.out.drew.later hb3)); (have R4 := R3.out.drew.later hb3); (have r0 : w3.cell? ⟨w.heap.size + 1, 0, none⟩ = some (.int .i64 0) := R4.cell 0); (have r1 : w3.cell? ⟨w.heap.size + 1, 1, none⟩ = some (.int .i64 0) := R4.cell 1); (have r2 : w3.cell? ⟨w.heap.size + 1, 2, none⟩ = some (.int .i64 0) := R4.cell 2); (have r3 : w3.cell? ⟨w.heap.size + 1, 3, none⟩ = some (.int .i64 0) := R4.cell 3); (have r4 : w3.cell? ⟨w.heap.size + 1, 4, none⟩ = some (.int .i64 0) := R4.cell 4); (have r5 : w3.cell? ⟨w.heap.size + 1, 5, none⟩ = some (.int .i64 0) := R4.cell 5); (have f0 := R4.free 0); (have f1 := R4.free 1); (have f2 := R4.free 2); (have f3 := R4.free 3); (have f4 := R4.free 4); (have f5 := R4.free 5); (have zR := R4.lt); (have HS4 := hid (show ((((((w3.setCell ⟨(w.heap.size + 1), 0, none⟩ (.int .i64 0)).setCell ⟨(w.heap.size + 1), 1, none⟩ (.int .i64 0)).setCell ⟨(w.heap.size + 1), 2, none⟩ (.int .i64 0)).setCell ⟨(w.heap.size + 1), 3, none⟩ (.int .i64 0)).setCell ⟨(w.heap.size + 1), 4, none⟩ (.int .i64 0)).setCell ⟨(w.heap.size + 1), 5, none⟩ (.int .i64 0)).cell? ⟨bm, 0, none⟩ = some (.int .i64 m.a) ∧ ((((((w3.setCell ⟨(w.heap.size + 1), 0, none⟩ (.int .i64 0)).setCell ⟨(w.heap.size + 1), 1, none⟩ (.int .i64 0)).setCell ⟨(w.heap.size + 1), 2, none⟩ (.int .i64 0)).setCell ⟨(w.heap.size + 1), 3, none⟩ (.int .i64 0)).setCell ⟨(w.heap.size + 1), 4, none⟩ (.int .i64 0)).setCell ⟨(w.heap.size + 1), 5, none⟩ (.int .i64 0)).cell? ⟨bm, 1, none⟩ = some (.int .i64 m.b) ∧ ((((((w3.setCell ⟨(w.heap.size + 1), 0, none⟩ (.int .i64 0)).setCell ⟨(w.heap.size + 1), 1, none⟩ (.int .i64 0)).setCell ⟨(w.heap.size + 1), 2, none⟩ (.int .i64 0)).setCell ⟨(w.heap.size + 1), 3, none⟩ (.int .i64 0)).setCell ⟨(w.heap.size + 1), 4, none⟩ (.int .i64 0)).setCell ⟨(w.heap.size + 1), 5, none⟩ (.int .i64 0)).cell? ⟨bm, 2, none⟩ = some (.int .i64 m.c) ∧ ((((((w3.setCell ⟨(w.heap.size + 1), 0, none⟩ (.int .i64 0)).setCell ⟨(w.heap.size + 1), 1, none⟩ (.int .i64 0)).setCell ⟨(w.heap.size + 1), 2, none⟩ (.int .i64 0)).setCell ⟨(w.heap.size + 1), 3, none⟩ (.int .i64 0)).setCell ⟨(w.heap.size + 1), 4, none⟩ (.int .i64 0)).setCell ⟨(w.heap.size + 1), 5, none⟩ (.int .i64 0)).cell? ⟨bm, 3, none⟩ = some (.int .i64 m.d) ∧ ((((((w3.setCell ⟨(w.heap.size + 1), 0, none⟩ (.int .i64 0)).setCell ⟨(w.heap.size + 1), 1, none⟩ (.int .i64 0)).setCell ⟨(w.heap.size + 1), 2, none⟩ (.int .i64 0)).setCell ⟨(w.heap.size + 1), 3, none⟩ (.int .i64 0)).setCell ⟨(w.heap.size + 1), 4, none⟩ (.int .i64 0)).setCell ⟨(w.heap.size + 1), 5, none⟩ (.int .i64 0)).cell? ⟨bm, 4, none⟩ = some (.int .i64 m.e) ∧ ((((((w3.setCell ⟨(w.heap.size + 1), 0, none⟩ (.int .i64 0)).setCell ⟨(w.heap.size + 1), 1, none⟩ (.int .i64 0)).setCell ⟨(w.heap.size + 1), 2, none⟩ (.int .i64 0)).setCell ⟨(w.heap.size + 1), 3, none⟩ (.int .i64 0)).setCell ⟨(w.heap.size + 1), 4, none⟩ (.int .i64 0)).setCell ⟨(w.heap.size + 1), 5, none⟩ (.int .i64 0)).cell? ⟨bm, 5, none⟩ = some (.int .i64 m.f) ∧ ((((((w3.setCell ⟨(w.heap.size + 1), 0, none⟩ (.int .i64 0)).setCell ⟨(w.heap.size + 1), 1, none⟩ (.int .i64 0)).setCell ⟨(w.heap.size + 1), 2, none⟩ (.int .i64 0)).setCell ⟨(w.heap.size + 1), 3, none⟩ (.int .i64 0)).setCell ⟨(w.heap.size + 1), 4, none⟩ (.int .i64 0)).setCell ⟨(w.heap.size + 1), 5, none⟩ (.int .i64 0)).cell? ⟨K.P, 2, none⟩ = some (.int .i64 p.now.m.a) ∧ ((((((w3.setCell ⟨(w.heap.size + 1), 0, none⟩ (.int .i64 0)).setCell ⟨(w.heap.size + 1), 1, none⟩ (.int .i64 0)).setCell ⟨(w.heap.size + 1), 2, none⟩ (.int .i64 0)).setCell ⟨(w.heap.size + 1), 3, none⟩ (.int .i64 0)).setCell ⟨(w.heap.size + 1), 4, none⟩ (.int .i64 0)).setCell ⟨(w.heap.size + 1), 5, none⟩ (.int .i64 0)).cell? ⟨K.P, 3, none⟩ = some (.int .i64 p.now.m.b) ∧ ((((((w3.setCell ⟨(w.heap.size + 1), 0, none⟩ (.int .i64 0)).setCell ⟨(w.heap.size + 1), 1, none⟩ (.int .i64 0)).setCell ⟨(w.heap.size + 1), 2, none⟩ (.int .i64 0)).setCell ⟨(w.heap.size + 1), 3, none⟩ (.int .i64 0)).setCell ⟨(w.heap.size + 1), 4, none⟩ (.int .i64 0)).setCell ⟨(w.heap.size + 1), 5, none⟩ (.int .i64 0)).cell? ⟨K.P, 4, none⟩ = some (.int .i64 p.now.m.c) ∧ ((((((w3.setCell ⟨(w.heap.size + 1), 0, none⟩ (.int .i64 0)).setCell ⟨(w.heap.size + 1), 1, none⟩ (.int .i64 0)).setCell ⟨(w.heap.size + 1), 2, none⟩ (.int .i64 0)).setCell ⟨(w.heap.size + 1), 3, none⟩ (.int .i64 0)).setCell ⟨(w.heap.size + 1), 4, none⟩ (.int .i64 0)).setCell ⟨(w.heap.size + 1), 5, none⟩ (.int .i64 0)).cell? ⟨K.P, 5, none⟩ = some (.int .i64 p.now.m.d) ∧ ((((((w3.setCell ⟨(w.heap.size + 1), 0, none⟩ (.int .i64 0)).setCell ⟨(w.heap.size + 1), 1, none⟩ (.int .i64 0)).setCell ⟨(w.heap.size + 1), 2, none⟩ (.int .i64 0)).setCell ⟨(w.heap.size + 1), 3, none⟩ (.int .i64 0)).setCell ⟨(w.heap.size + 1), 4, none⟩ (.int .i64 0)).setCell ⟨(w.heap.size + 1), 5, none⟩ (.int .i64 0)).cell? ⟨K.P, 6, none⟩ = some (.int .i64 p.now.m.e) ∧ ((((((w3.setCell ⟨(w.heap.size + 1), 0, none⟩ (.int .i64 0)).setCell ⟨(w.heap.size + 1), 1, none⟩ (.int .i64 0)).setCell ⟨(w.heap.size + 1), 2, none⟩ (.int .i64 0)).setCell ⟨(w.heap.size + 1), 3, none⟩ (.int .i64 0)).setCell ⟨(w.heap.size + 1), 4, none⟩ (.int .i64 0)).setCell ⟨(w.heap.size + 1), 5, none⟩ (.int .i64 0)).cell? ⟨K.P, 7, none⟩ = some (.int .i64 p.now.m.f) from ⟨(other6 HN.out.1 _ _ _ _ _ _).trans (M3.out.cell 0), (other6 HN.out.1 _ _ _ _ _ _).trans (M3.out.cell 1), (other6 HN.out.1 _ _ _ _ _ _).trans (M3.out.cell 2), (other6 HN.out.1 _ _ _ _ _ _).trans (M3.out.cell 3), (other6 HN.out.1 _ _ _ _ _ _).trans (M3.out.cell 4), (other6 HN.out.1 _ _ _ _ _ _).trans (M3.out.cell 5), (other6 HN.out.2 _ _ _ _ _ _).trans (P4.out.c 2), (other6 HN.out.2 _ _ _ _ _ _).trans (P4.out.c 3), (other6 HN.out.2 _ _ _ _ _ _).trans (P4.out.c 4), (other6 HN.out.2 _ _ _ _ _ _).trans (P4.out.c 5), (other6 HN.out.2 _ _ _ _ _ _).trans (P4.out.c 6), (other6 HN.out.2 _ _ _ _ _ _).trans (P4.out.c 7)⟩)); (have BX := hid (chn0 BW.out.drew hb3)); clear hb3 R4))
      all_goals
        go_wp2_with fail
        refine bodyPost_ret (v := .tuple #[.agg #[.int .i64 0, .int .i64 0, .int .i64 0, .int .i64 0, .int .i64 0, .int .i64 0], errV k]) (by simp [results, Tryz.results104, go_sem, errV, r0, r1, r2, r3, r4, r5]) rfl ⟨rfl, below6 BX.out (by omega) _ _ _ _ _ _⟩
theorem place_says (K : Pk) (p : PS) (tS tG : Value) (t : M6) (w : World) (hP : PAt K w p tS tG) :
    Calls Tryz.prog 104 #[.pointer (some ⟨K.P, 2, none⟩), .agg #[.int .i64 t.a, .int .i64 t.b, .int .i64 t.c, .int .i64 t.d, .int .i64 t.e, .int .i64 t.f]] w fun e w' => MatA e (placeX p.now t) ∧ Below w.heap.size w w' := by
  unfold placeX
  cases h1 : mulX p.now.size p.now.scale with
  | error k => exact place_one K p tS tG t k w hP h1
  | ok a =>
    show Calls _ _ _ _ fun e w' => MatA e ((conX ⟨a, 0, 0, p.now.size, 0, p.now.rise⟩ t).bind _) ∧ _
    cases h2 : conX ⟨a, 0, 0, p.now.size, 0, p.now.rise⟩ t with
    | error k => exact place_two K p tS tG t a k w hP h1 h2
    | ok m => exact place_three K p tS tG t a m _ w hP h1 h2 rfl
end Go.Proofs.YtobpidmlgldnmaaGreatDoor

/-
  A painter: how far behind a glyph the next one stands.
-/
namespace Go.Proofs.YtobpidmlgldnmaaGreatDoor
open Go.RowKit
set_option maxRecDepth 100000

set_option maxHeartbeats 4000000 in
theorem advance_1 (K : Pk) (p : PS) (tS tG : Value) (g : Sp) (w : World) (hP : PAt K w p tS tG) (k : Int) (h1 : mulX g.t p.now.size = .error k) :
    Calls Tryz.prog 106 #[.pointer (some ⟨K.P, 2, none⟩), .agg #[.int .i64 g.f, .int .i64 g.t, .string g.s]] w fun e w' => NumA e (.error k) ∧ Below w.heap.size w w' := by
  have C1 := hid (mul_x g.t p.now.size)
  have G0 := hid (At.new w #[.int .i64 g.f, .int .i64 g.t, .string g.s] 142 rfl)
  have P0 := hid (hP.alloc (.cells #[.int .i64 g.f, .int .i64 g.t, .string g.s] 142))
  have B0 : Hid (Below w.heap.size w (w.alloc (.cells #[.int .i64 g.f, .int .i64 g.t, .string g.s] 142))) := hid (by go_grown)
  have H1 := hid h1
  clear hP h1
  go_enter Tryz.func106, Tryz.ntmps106
  go_wp2_with fail
  generalize (w.alloc (.cells #[.int .i64 g.f, .int .i64 g.t, .string g.s] 142)) = W0 at G0 P0 B0 ⊢
  have H0 := hid (show ∀ W, Below W0.heap.size W0 W → Below W0.heap.size W0 W ∧ W.cell? ⟨w.heap.size, 0, none⟩ = some (.int .i64 g.f) ∧ W.cell? ⟨w.heap.size, 1, none⟩ = some (.int .i64 g.t) ∧ W.cell? ⟨K.P, 8, none⟩ = some (.bool p.now.x.wide) ∧ W.cell? ⟨K.P, 14, none⟩ = some (.int .i64 p.now.size) ∧ W.cell? ⟨K.P, 15, none⟩ = some (.int .i64 p.now.char) ∧ W.cell? ⟨K.P, 16, none⟩ = some (.int .i64 p.now.word) ∧ W.cell? ⟨K.P, 17, none⟩ = some (.int .i64 p.now.scale) from fun W hW => ⟨hW, (G0.out.later hW).cell 0, (G0.out.later hW).cell 1, (P0.out.later hW).c 8, (P0.out.later hW).c 14, (P0.out.later hW).c 15, (P0.out.later hW).c 16, (P0.out.later hW).c 17⟩)
  go_region_held3 (fun (W : World) => Below W0.heap.size W0 W ∧ W.cell? ⟨w.heap.size, 0, none⟩ = some (.int .i64 g.f) ∧ W.cell? ⟨w.heap.size, 1, none⟩ = some (.int .i64 g.t) ∧ W.cell? ⟨K.P, 8, none⟩ = some (.bool p.now.x.wide) ∧ W.cell? ⟨K.P, 14, none⟩ = some (.int .i64 p.now.size) ∧ W.cell? ⟨K.P, 15, none⟩ = some (.int .i64 p.now.char) ∧ W.cell? ⟨K.P, 16, none⟩ = some (.int .i64 p.now.word) ∧ W.cell? ⟨K.P, 17, none⟩ = some (.int .i64 p.now.scale))
    (first | with_reducible exact H0.out _ (Below.refl _ _) | with_reducible exact H0.out _ (Below.refl _ _).drew | with_reducible exact H0.out _ B1.out)
    (first
      | (go_at_call 108; refine (C1.out _).mono ?_; rintro e w1 ⟨hm, hb⟩; rw [H1.out] at hm; cases (show e = .returned (.tuple #[.int .i64 0, .iface 68 (.int .i64 k)]) from hm); clear hm; (have B1 : Hid (Below W0.heap.size W0 w1) := by first | with_reducible exact hid (chn0 (Below.refl _ _).drew hb) | with_reducible exact hid (chn0 (Below.refl _ _) hb)); clear hb))
  go_wp2_with fail
  go_ret2
  exact ⟨rfl, chn0 B0.out B1.out⟩
set_option maxHeartbeats 4000000 in
theorem advance_2 (K : Pk) (p : PS) (tS tG : Value) (g : Sp) (w : World) (hP : PAt K w p tS tG) (x k : Int) (h1 : mulX g.t p.now.size = .ok x) (h2 : addX x p.now.char = .error k) :
    Calls Tryz.prog 106 #[.pointer (some ⟨K.P, 2, none⟩), .agg #[.int .i64 g.f, .int .i64 g.t, .string g.s]] w fun e w' => NumA e (.error k) ∧ Below w.heap.size w w' := by
  have C1 := hid (mul_x g.t p.now.size)
  have C2 := hid (add_x x p.now.char)
  have G0 := hid (At.new w #[.int .i64 g.f, .int .i64 g.t, .string g.s] 142 rfl)
  have P0 := hid (hP.alloc (.cells #[.int .i64 g.f, .int .i64 g.t, .string g.s] 142))
  have B0 : Hid (Below w.heap.size w (w.alloc (.cells #[.int .i64 g.f, .int .i64 g.t, .string g.s] 142))) := hid (by go_grown)
  have H1 := hid h1
  have H2 := hid h2
  clear hP h1 h2
  go_enter Tryz.func106, Tryz.ntmps106
  go_wp2_with fail
  generalize (w.alloc (.cells #[.int .i64 g.f, .int .i64 g.t, .string g.s] 142)) = W0 at G0 P0 B0 ⊢
  have H0 := hid (show ∀ W, Below W0.heap.size W0 W → Below W0.heap.size W0 W ∧ W.cell? ⟨w.heap.size, 0, none⟩ = some (.int .i64 g.f) ∧ W.cell? ⟨w.heap.size, 1, none⟩ = some (.int .i64 g.t) ∧ W.cell? ⟨K.P, 8, none⟩ = some (.bool p.now.x.wide) ∧ W.cell? ⟨K.P, 14, none⟩ = some (.int .i64 p.now.size) ∧ W.cell? ⟨K.P, 15, none⟩ = some (.int .i64 p.now.char) ∧ W.cell? ⟨K.P, 16, none⟩ = some (.int .i64 p.now.word) ∧ W.cell? ⟨K.P, 17, none⟩ = some (.int .i64 p.now.scale) from fun W hW => ⟨hW, (G0.out.later hW).cell 0, (G0.out.later hW).cell 1, (P0.out.later hW).c 8, (P0.out.later hW).c 14, (P0.out.later hW).c 15, (P0.out.later hW).c 16, (P0.out.later hW).c 17⟩)
  go_region_held3 (fun (W : World) => Below W0.heap.size W0 W ∧ W.cell? ⟨w.heap.size, 0, none⟩ = some (.int .i64 g.f) ∧ W.cell? ⟨w.heap.size, 1, none⟩ = some (.int .i64 g.t) ∧ W.cell? ⟨K.P, 8, none⟩ = some (.bool p.now.x.wide) ∧ W.cell? ⟨K.P, 14, none⟩ = some (.int .i64 p.now.size) ∧ W.cell? ⟨K.P, 15, none⟩ = some (.int .i64 p.now.char) ∧ W.cell? ⟨K.P, 16, none⟩ = some (.int .i64 p.now.word) ∧ W.cell? ⟨K.P, 17, none⟩ = some (.int .i64 p.now.scale))
    (first | with_reducible exact H0.out _ (Below.refl _ _) | with_reducible exact H0.out _ (Below.refl _ _).drew | with_reducible exact H0.out _ B1.out)
    (first
      | (go_at_call 108; refine (C1.out _).mono ?_; rintro e w1 ⟨hm, hb⟩; rw [H1.out] at hm; cases (show e = .returned (.tuple #[.int .i64 x, .nilIface]) from hm); clear hm; (have B1 : Hid (Below W0.heap.size W0 w1) := by first | with_reducible exact hid (chn0 (Below.refl _ _).drew hb) | with_reducible exact hid (chn0 (Below.refl _ _) hb)); clear hb))
  obtain ⟨_, s0, s1, q8, q14, q15, q16, q17⟩ := H0.out _ B1.out
  go_wp2_with (go_at_call 131; fail)
  go_at_call 131
  refine (C2.out _).mono ?_
  rintro e w2 ⟨hm, hb⟩
  rw [H2.out] at hm
  cases (show e = .returned (.tuple #[.int .i64 0, .iface 68 (.int .i64 k)]) from hm)
  have B2 : Hid (Below W0.heap.size W0 w2) := hid (chn0 B1.out hb)
  clear hm hb s0 s1 q8 q14 q15 q16 q17
  go_wp2_with fail
  go_ret2
  exact ⟨rfl, chn0 B0.out B2.out⟩
set_option maxHeartbeats 4000000 in
theorem advance_3 (K : Pk) (p : PS) (tS tG : Value) (g : Sp) (w : World) (hP : PAt K w p tS tG) (x y k : Int) (h1 : mulX g.t p.now.size = .ok x) (h2 : addX x p.now.char = .ok y) (hf : g.f = 32) (hw : p.now.x.wide = false) (h3 : addX y p.now.word = .error k) :
    Calls Tryz.prog 106 #[.pointer (some ⟨K.P, 2, none⟩), .agg #[.int .i64 g.f, .int .i64 g.t, .string g.s]] w fun e w' => NumA e (.error k) ∧ Below w.heap.size w w' := by
  have C1 := hid (mul_x g.t p.now.size)
  have C2 := hid (add_x x p.now.char)
  have C3 := hid (add_x y p.now.word)
  have G0 := hid (At.new w #[.int .i64 g.f, .int .i64 g.t, .string g.s] 142 rfl)
  have P0 := hid (hP.alloc (.cells #[.int .i64 g.f, .int .i64 g.t, .string g.s] 142))
  have B0 : Hid (Below w.heap.size w (w.alloc (.cells #[.int .i64 g.f, .int .i64 g.t, .string g.s] 142))) := hid (by go_grown)
  have H1 := hid h1
  have H2 := hid h2
  have H3 := hid h3
  have Hf := hid hf
  have Hw := hid hw
  clear hP h1 h2 h3 hf hw
  go_enter Tryz.func106, Tryz.ntmps106
  go_wp2_with fail
  generalize (w.alloc (.cells #[.int .i64 g.f, .int .i64 g.t, .string g.s] 142)) = W0 at G0 P0 B0 ⊢
  have H0 := hid (show ∀ W, Below W0.heap.size W0 W → Below W0.heap.size W0 W ∧ W.cell? ⟨w.heap.size, 0, none⟩ = some (.int .i64 g.f) ∧ W.cell? ⟨w.heap.size, 1, none⟩ = some (.int .i64 g.t) ∧ W.cell? ⟨K.P, 8, none⟩ = some (.bool p.now.x.wide) ∧ W.cell? ⟨K.P, 14, none⟩ = some (.int .i64 p.now.size) ∧ W.cell? ⟨K.P, 15, none⟩ = some (.int .i64 p.now.char) ∧ W.cell? ⟨K.P, 16, none⟩ = some (.int .i64 p.now.word) ∧ W.cell? ⟨K.P, 17, none⟩ = some (.int .i64 p.now.scale) from fun W hW => ⟨hW, (G0.out.later hW).cell 0, (G0.out.later hW).cell 1, (P0.out.later hW).c 8, (P0.out.later hW).c 14, (P0.out.later hW).c 15, (P0.out.later hW).c 16, (P0.out.later hW).c 17⟩)
  go_region_held3 (fun (W : World) => Below W0.heap.size W0 W ∧ W.cell? ⟨w.heap.size, 0, none⟩ = some (.int .i64 g.f) ∧ W.cell? ⟨w.heap.size, 1, none⟩ = some (.int .i64 g.t) ∧ W.cell? ⟨K.P, 8, none⟩ = some (.bool p.now.x.wide) ∧ W.cell? ⟨K.P, 14, none⟩ = some (.int .i64 p.now.size) ∧ W.cell? ⟨K.P, 15, none⟩ = some (.int .i64 p.now.char) ∧ W.cell? ⟨K.P, 16, none⟩ = some (.int .i64 p.now.word) ∧ W.cell? ⟨K.P, 17, none⟩ = some (.int .i64 p.now.scale))
    (first | with_reducible exact H0.out _ (Below.refl _ _) | with_reducible exact H0.out _ (Below.refl _ _).drew | with_reducible exact H0.out _ B1.out)
    (first
      | (go_at_call 108; refine (C1.out _).mono ?_; rintro e w1 ⟨hm, hb⟩; rw [H1.out] at hm; cases (show e = .returned (.tuple #[.int .i64 x, .nilIface]) from hm); clear hm; (have B1 : Hid (Below W0.heap.size W0 w1) := by first | with_reducible exact hid (chn0 (Below.refl _ _).drew hb) | with_reducible exact hid (chn0 (Below.refl _ _) hb)); clear hb))
  obtain ⟨_, s0, s1, q8, q14, q15, q16, q17⟩ := H0.out _ B1.out
  go_wp2_with (go_at_call 131; fail)
  go_at_call 131
  refine (C2.out _).mono ?_
  rintro e w2 ⟨hm, hb⟩
  rw [H2.out] at hm
  cases (show e = .returned (.tuple #[.int .i64 y, .nilIface]) from hm)
  have B2 : Hid (Below W0.heap.size W0 w2) := hid (chn0 B1.out hb)
  clear hm hb s0 s1 q8 q14 q15 q16 q17
  obtain ⟨_, s0, s1, q8, q14, q15, q16, q17⟩ := H0.out _ B2.out
  rw [Hf.out] at s0
  rw [Hw.out] at q8
  go_wp2_with (go_at_call 131; fail)
  go_at_call 131
  refine (C3.out _).mono ?_
  rintro e w3 ⟨hm, hb⟩
  rw [H3.out] at hm
  cases (show e = .returned (.tuple #[.int .i64 0, .iface 68 (.int .i64 k)]) from hm)
  have B3 : Hid (Below W0.heap.size W0 w3) := hid (chn0 B2.out hb)
  clear hm hb s0 s1 q8 q14 q15 q16 q17
  go_wp2_with fail
  go_ret2
  exact ⟨rfl, chn0 B0.out B3.out⟩
set_option maxHeartbeats 4000000 in
theorem advance_4e (K : Pk) (p : PS) (tS tG : Value) (g : Sp) (w : World) (hP : PAt K w p tS tG) (x y z k : Int) (h1 : mulX g.t p.now.size = .ok x) (h2 : addX x p.now.char = .ok y) (hf : g.f = 32) (hw : p.now.x.wide = false) (h3 : addX y p.now.word = .ok z) (h4 : mulX z p.now.scale = .error k) :
    Calls Tryz.prog 106 #[.pointer (some ⟨K.P, 2, none⟩), .agg #[.int .i64 g.f, .int .i64 g.t, .string g.s]] w fun e w' => NumA e (.error k) ∧ Below w.heap.size w w' := by
  have C1 := hid (mul_x g.t p.now.size)
  have C2 := hid (add_x x p.now.char)
  have C3 := hid (add_x y p.now.word)
  have C4 := hid (mul_x z p.now.scale)
  have G0 := hid (At.new w #[.int .i64 g.f, .int .i64 g.t, .string g.s] 142 rfl)
  have P0 := hid (hP.alloc (.cells #[.int .i64 g.f, .int .i64 g.t, .string g.s] 142))
  have B0 : Hid (Below w.heap.size w (w.alloc (.cells #[.int .i64 g.f, .int .i64 g.t, .string g.s] 142))) := hid (by go_grown)
  have H1 := hid h1
  have H2 := hid h2
  have H3 := hid h3
  have H4 := hid h4
  have Hf := hid hf
  have Hw := hid hw
  clear hP h1 h2 h3 h4 hf hw
  go_enter Tryz.func106, Tryz.ntmps106
  go_wp2_with fail
  generalize (w.alloc (.cells #[.int .i64 g.f, .int .i64 g.t, .string g.s] 142)) = W0 at G0 P0 B0 ⊢
  have H0 := hid (show ∀ W, Below W0.heap.size W0 W → Below W0.heap.size W0 W ∧ W.cell? ⟨w.heap.size, 0, none⟩ = some (.int .i64 g.f) ∧ W.cell? ⟨w.heap.size, 1, none⟩ = some (.int .i64 g.t) ∧ W.cell? ⟨K.P, 8, none⟩ = some (.bool p.now.x.wide) ∧ W.cell? ⟨K.P, 14, none⟩ = some (.int .i64 p.now.size) ∧ W.cell? ⟨K.P, 15, none⟩ = some (.int .i64 p.now.char) ∧ W.cell? ⟨K.P, 16, none⟩ = some (.int .i64 p.now.word) ∧ W.cell? ⟨K.P, 17, none⟩ = some (.int .i64 p.now.scale) from fun W hW => ⟨hW, (G0.out.later hW).cell 0, (G0.out.later hW).cell 1, (P0.out.later hW).c 8, (P0.out.later hW).c 14, (P0.out.later hW).c 15, (P0.out.later hW).c 16, (P0.out.later hW).c 17⟩)
  go_region_held3 (fun (W : World) => Below W0.heap.size W0 W ∧ W.cell? ⟨w.heap.size, 0, none⟩ = some (.int .i64 g.f) ∧ W.cell? ⟨w.heap.size, 1, none⟩ = some (.int .i64 g.t) ∧ W.cell? ⟨K.P, 8, none⟩ = some (.bool p.now.x.wide) ∧ W.cell? ⟨K.P, 14, none⟩ = some (.int .i64 p.now.size) ∧ W.cell? ⟨K.P, 15, none⟩ = some (.int .i64 p.now.char) ∧ W.cell? ⟨K.P, 16, none⟩ = some (.int .i64 p.now.word) ∧ W.cell? ⟨K.P, 17, none⟩ = some (.int .i64 p.now.scale))
    (first | with_reducible exact H0.out _ (Below.refl _ _) | with_reducible exact H0.out _ (Below.refl _ _).drew | with_reducible exact H0.out _ B1.out)
    (first
      | (go_at_call 108; refine (C1.out _).mono ?_; rintro e w1 ⟨hm, hb⟩; rw [H1.out] at hm; cases (show e = .returned (.tuple #[.int .i64 x, .nilIface]) from hm); clear hm; (have B1 : Hid (Below W0.heap.size W0 w1) := by first | with_reducible exact hid (chn0 (Below.refl _ _).drew hb) | with_reducible exact hid (chn0 (Below.refl _ _) hb)); clear hb))
  obtain ⟨_, s0, s1, q8, q14, q15, q16, q17⟩ := H0.out _ B1.out
  go_wp2_with (go_at_call 131; fail)
  go_at_call 131
  refine (C2.out _).mono ?_
  rintro e w2 ⟨hm, hb⟩
  rw [H2.out] at hm
  cases (show e = .returned (.tuple #[.int .i64 y, .nilIface]) from hm)
  have B2 : Hid (Below W0.heap.size W0 w2) := hid (chn0 B1.out hb)
  clear hm hb s0 s1 q8 q14 q15 q16 q17
  obtain ⟨_, s0, s1, q8, q14, q15, q16, q17⟩ := H0.out _ B2.out
  rw [Hf.out] at s0
  rw [Hw.out] at q8
  go_wp2_with (go_at_call 131; fail)
  go_at_call 131
  refine (C3.out _).mono ?_
  rintro e w3 ⟨hm, hb⟩
  rw [H3.out] at hm
  cases (show e = .returned (.tuple #[.int .i64 z, .nilIface]) from hm)
  have B3 : Hid (Below W0.heap.size W0 w3) := hid (chn0 B2.out hb)
  clear hm hb s0 s1 q8 q14 q15 q16 q17
  obtain ⟨_, s0, s1, q8, q14, q15, q16, q17⟩ := H0.out _ B3.out
  go_wp2_with (go_at_call 108; fail)
  go_at_call 108
  refine (C4.out _).mono ?_
  rintro e w4 ⟨hm, hb⟩
  rw [H4.out] at hm
  cases (show e = .returned (.tuple #[.int .i64 0, .iface 68 (.int .i64 k)]) from hm)
  have B4 : Hid (Below W0.heap.size W0 w4) := hid (chn0 B3.out hb)
  clear hm hb s0 s1 q8 q14 q15 q16 q17
  go_wp2_with fail
  go_ret2
  exact ⟨rfl, chn0 B0.out B4.out⟩
set_option maxHeartbeats 4000000 in
theorem advance_4o (K : Pk) (p : PS) (tS tG : Value) (g : Sp) (w : World) (hP : PAt K w p tS tG) (x y z u : Int) (h1 : mulX g.t p.now.size = .ok x) (h2 : addX x p.now.char = .ok y) (hf : g.f = 32) (hw : p.now.x.wide = false) (h3 : addX y p.now.word = .ok z) (h4 : mulX z p.now.scale = .ok u) :
    Calls Tryz.prog 106 #[.pointer (some ⟨K.P, 2, none⟩), .agg #[.int .i64 g.f, .int .i64 g.t, .string g.s]] w fun e w' => NumA e (.ok u) ∧ Below w.heap.size w w' := by
  have C1 := hid (mul_x g.t p.now.size)
  have C2 := hid (add_x x p.now.char)
  have C3 := hid (add_x y p.now.word)
  have C4 := hid (mul_x z p.now.scale)
  have G0 := hid (At.new w #[.int .i64 g.f, .int .i64 g.t, .string g.s] 142 rfl)
  have P0 := hid (hP.alloc (.cells #[.int .i64 g.f, .int .i64 g.t, .string g.s] 142))
  have B0 : Hid (Below w.heap.size w (w.alloc (.cells #[.int .i64 g.f, .int .i64 g.t, .string g.s] 142))) := hid (by go_grown)
  have H1 := hid h1
  have H2 := hid h2
  have H3 := hid h3
  have H4 := hid h4
  have Hf := hid hf
  have Hw := hid hw
  clear hP h1 h2 h3 h4 hf hw
  go_enter Tryz.func106, Tryz.ntmps106
  go_wp2_with fail
  generalize (w.alloc (.cells #[.int .i64 g.f, .int .i64 g.t, .string g.s] 142)) = W0 at G0 P0 B0 ⊢
  have H0 := hid (show ∀ W, Below W0.heap.size W0 W → Below W0.heap.size W0 W ∧ W.cell? ⟨w.heap.size, 0, none⟩ = some (.int .i64 g.f) ∧ W.cell? ⟨w.heap.size, 1, none⟩ = some (.int .i64 g.t) ∧ W.cell? ⟨K.P, 8, none⟩ = some (.bool p.now.x.wide) ∧ W.cell? ⟨K.P, 14, none⟩ = some (.int .i64 p.now.size) ∧ W.cell? ⟨K.P, 15, none⟩ = some (.int .i64 p.now.char) ∧ W.cell? ⟨K.P, 16, none⟩ = some (.int .i64 p.now.word) ∧ W.cell? ⟨K.P, 17, none⟩ = some (.int .i64 p.now.scale) from fun W hW => ⟨hW, (G0.out.later hW).cell 0, (G0.out.later hW).cell 1, (P0.out.later hW).c 8, (P0.out.later hW).c 14, (P0.out.later hW).c 15, (P0.out.later hW).c 16, (P0.out.later hW).c 17⟩)
  go_region_held3 (fun (W : World) => Below W0.heap.size W0 W ∧ W.cell? ⟨w.heap.size, 0, none⟩ = some (.int .i64 g.f) ∧ W.cell? ⟨w.heap.size, 1, none⟩ = some (.int .i64 g.t) ∧ W.cell? ⟨K.P, 8, none⟩ = some (.bool p.now.x.wide) ∧ W.cell? ⟨K.P, 14, none⟩ = some (.int .i64 p.now.size) ∧ W.cell? ⟨K.P, 15, none⟩ = some (.int .i64 p.now.char) ∧ W.cell? ⟨K.P, 16, none⟩ = some (.int .i64 p.now.word) ∧ W.cell? ⟨K.P, 17, none⟩ = some (.int .i64 p.now.scale))
    (first | with_reducible exact H0.out _ (Below.refl _ _) | with_reducible exact H0.out _ (Below.refl _ _).drew | with_reducible exact H0.out _ B1.out)
    (first
      | (go_at_call 108; refine (C1.out _).mono ?_; rintro e w1 ⟨hm, hb⟩; rw [H1.out] at hm; cases (show e = .returned (.tuple #[.int .i64 x, .nilIface]) from hm); clear hm; (have B1 : Hid (Below W0.heap.size W0 w1) := by first | with_reducible exact hid (chn0 (Below.refl _ _).drew hb) | with_reducible exact hid (chn0 (Below.refl _ _) hb)); clear hb))
  obtain ⟨_, s0, s1, q8, q14, q15, q16, q17⟩ := H0.out _ B1.out
  go_wp2_with (go_at_call 131; fail)
  go_at_call 131
  refine (C2.out _).mono ?_
  rintro e w2 ⟨hm, hb⟩
  rw [H2.out] at hm
  cases (show e = .returned (.tuple #[.int .i64 y, .nilIface]) from hm)
  have B2 : Hid (Below W0.heap.size W0 w2) := hid (chn0 B1.out hb)
  clear hm hb s0 s1 q8 q14 q15 q16 q17
  obtain ⟨_, s0, s1, q8, q14, q15, q16, q17⟩ := H0.out _ B2.out
  rw [Hf.out] at s0
  rw [Hw.out] at q8
  go_wp2_with (go_at_call 131; fail)
  go_at_call 131
  refine (C3.out _).mono ?_
  rintro e w3 ⟨hm, hb⟩
  rw [H3.out] at hm
  cases (show e = .returned (.tuple #[.int .i64 z, .nilIface]) from hm)
  have B3 : Hid (Below W0.heap.size W0 w3) := hid (chn0 B2.out hb)
  clear hm hb s0 s1 q8 q14 q15 q16 q17
  obtain ⟨_, s0, s1, q8, q14, q15, q16, q17⟩ := H0.out _ B3.out
  go_wp2_with (go_at_call 108; fail)
  go_at_call 108
  refine (C4.out _).mono ?_
  rintro e w4 ⟨hm, hb⟩
  rw [H4.out] at hm
  cases (show e = .returned (.tuple #[.int .i64 u, .nilIface]) from hm)
  have B4 : Hid (Below W0.heap.size W0 w4) := hid (chn0 B3.out hb)
  clear hm hb s0 s1 q8 q14 q15 q16 q17
  go_wp2_with fail
  go_ret2
  exact ⟨rfl, chn0 B0.out B4.out⟩
set_option maxHeartbeats 4000000 in
theorem advance_5ea (K : Pk) (p : PS) (tS tG : Value) (g : Sp) (w : World) (hP : PAt K w p tS tG) (x z k : Int) (h1 : mulX g.t p.now.size = .ok x) (h2 : addX x p.now.char = .ok z) (hf : ¬ g.f = 32) (h4 : mulX z p.now.scale = .error k) :
    Calls Tryz.prog 106 #[.pointer (some ⟨K.P, 2, none⟩), .agg #[.int .i64 g.f, .int .i64 g.t, .string g.s]] w fun e w' => NumA e (.error k) ∧ Below w.heap.size w w' := by
  have C1 := hid (mul_x g.t p.now.size)
  have C2 := hid (add_x x p.now.char)
  have C4 := hid (mul_x z p.now.scale)
  have G0 := hid (At.new w #[.int .i64 g.f, .int .i64 g.t, .string g.s] 142 rfl)
  have P0 := hid (hP.alloc (.cells #[.int .i64 g.f, .int .i64 g.t, .string g.s] 142))
  have B0 : Hid (Below w.heap.size w (w.alloc (.cells #[.int .i64 g.f, .int .i64 g.t, .string g.s] 142))) := hid (by go_grown)
  have H1 := hid h1
  have H2 := hid h2
  have H4 := hid h4
  have Hf := hid hf
  clear hP h1 h2 h4 hf
  go_enter Tryz.func106, Tryz.ntmps106
  go_wp2_with fail
  generalize (w.alloc (.cells #[.int .i64 g.f, .int .i64 g.t, .string g.s] 142)) = W0 at G0 P0 B0 ⊢
  have H0 := hid (show ∀ W, Below W0.heap.size W0 W → Below W0.heap.size W0 W ∧ W.cell? ⟨w.heap.size, 0, none⟩ = some (.int .i64 g.f) ∧ W.cell? ⟨w.heap.size, 1, none⟩ = some (.int .i64 g.t) ∧ W.cell? ⟨K.P, 8, none⟩ = some (.bool p.now.x.wide) ∧ W.cell? ⟨K.P, 14, none⟩ = some (.int .i64 p.now.size) ∧ W.cell? ⟨K.P, 15, none⟩ = some (.int .i64 p.now.char) ∧ W.cell? ⟨K.P, 16, none⟩ = some (.int .i64 p.now.word) ∧ W.cell? ⟨K.P, 17, none⟩ = some (.int .i64 p.now.scale) from fun W hW => ⟨hW, (G0.out.later hW).cell 0, (G0.out.later hW).cell 1, (P0.out.later hW).c 8, (P0.out.later hW).c 14, (P0.out.later hW).c 15, (P0.out.later hW).c 16, (P0.out.later hW).c 17⟩)
  go_region_held3 (fun (W : World) => Below W0.heap.size W0 W ∧ W.cell? ⟨w.heap.size, 0, none⟩ = some (.int .i64 g.f) ∧ W.cell? ⟨w.heap.size, 1, none⟩ = some (.int .i64 g.t) ∧ W.cell? ⟨K.P, 8, none⟩ = some (.bool p.now.x.wide) ∧ W.cell? ⟨K.P, 14, none⟩ = some (.int .i64 p.now.size) ∧ W.cell? ⟨K.P, 15, none⟩ = some (.int .i64 p.now.char) ∧ W.cell? ⟨K.P, 16, none⟩ = some (.int .i64 p.now.word) ∧ W.cell? ⟨K.P, 17, none⟩ = some (.int .i64 p.now.scale))
    (first | with_reducible exact H0.out _ (Below.refl _ _) | with_reducible exact H0.out _ (Below.refl _ _).drew | with_reducible exact H0.out _ B1.out)
    (first
      | (go_at_call 108; refine (C1.out _).mono ?_; rintro e w1 ⟨hm, hb⟩; rw [H1.out] at hm; cases (show e = .returned (.tuple #[.int .i64 x, .nilIface]) from hm); clear hm; (have B1 : Hid (Below W0.heap.size W0 w1) := by first | with_reducible exact hid (chn0 (Below.refl _ _).drew hb) | with_reducible exact hid (chn0 (Below.refl _ _) hb)); clear hb))
  obtain ⟨_, s0, s1, q8, q14, q15, q16, q17⟩ := H0.out _ B1.out
  go_wp2_with (go_at_call 131; fail)
  go_at_call 131
  refine (C2.out _).mono ?_
  rintro e w2 ⟨hm, hb⟩
  rw [H2.out] at hm
  cases (show e = .returned (.tuple #[.int .i64 z, .nilIface]) from hm)
  have B2 : Hid (Below W0.heap.size W0 w2) := hid (chn0 B1.out hb)
  clear hm hb s0 s1 q8 q14 q15 q16 q17
  obtain ⟨_, s0, s1, q8, q14, q15, q16, q17⟩ := H0.out _ B2.out
  have hf2 : (g.f == 32) = false := by simpa using Hf.out
  go_wp2_with (go_at_call 108; fail)
  go_at_call 108
  refine (C4.out _).mono ?_
  rintro e w3 ⟨hm, hb⟩
  rw [H4.out] at hm
  cases (show e = .returned (.tuple #[.int .i64 0, .iface 68 (.int .i64 k)]) from hm)
  have B3 : Hid (Below W0.heap.size W0 w3) := hid (chn0 B2.out hb)
  clear hm hb s0 s1 q8 q14 q15 q16 q17
  go_wp2_with fail
  go_ret2
  exact ⟨rfl, chn0 B0.out B3.out⟩
set_option maxHeartbeats 4000000 in
theorem advance_5eb (K : Pk) (p : PS) (tS tG : Value) (g : Sp) (w : World) (hP : PAt K w p tS tG) (x z k : Int) (h1 : mulX g.t p.now.size = .ok x) (h2 : addX x p.now.char = .ok z) (hf : g.f = 32) (hw : p.now.x.wide = true) (h4 : mulX z p.now.scale = .error k) :
    Calls Tryz.prog 106 #[.pointer (some ⟨K.P, 2, none⟩), .agg #[.int .i64 g.f, .int .i64 g.t, .string g.s]] w fun e w' => NumA e (.error k) ∧ Below w.heap.size w w' := by
  have C1 := hid (mul_x g.t p.now.size)
  have C2 := hid (add_x x p.now.char)
  have C4 := hid (mul_x z p.now.scale)
  have G0 := hid (At.new w #[.int .i64 g.f, .int .i64 g.t, .string g.s] 142 rfl)
  have P0 := hid (hP.alloc (.cells #[.int .i64 g.f, .int .i64 g.t, .string g.s] 142))
  have B0 : Hid (Below w.heap.size w (w.alloc (.cells #[.int .i64 g.f, .int .i64 g.t, .string g.s] 142))) := hid (by go_grown)
  have H1 := hid h1
  have H2 := hid h2
  have H4 := hid h4
  have Hf := hid hf
  have Hw := hid hw
  clear hP h1 h2 h4 hf hw
  go_enter Tryz.func106, Tryz.ntmps106
  go_wp2_with fail
  generalize (w.alloc (.cells #[.int .i64 g.f, .int .i64 g.t, .string g.s] 142)) = W0 at G0 P0 B0 ⊢
  have H0 := hid (show ∀ W, Below W0.heap.size W0 W → Below W0.heap.size W0 W ∧ W.cell? ⟨w.heap.size, 0, none⟩ = some (.int .i64 g.f) ∧ W.cell? ⟨w.heap.size, 1, none⟩ = some (.int .i64 g.t) ∧ W.cell? ⟨K.P, 8, none⟩ = some (.bool p.now.x.wide) ∧ W.cell? ⟨K.P, 14, none⟩ = some (.int .i64 p.now.size) ∧ W.cell? ⟨K.P, 15, none⟩ = some (.int .i64 p.now.char) ∧ W.cell? ⟨K.P, 16, none⟩ = some (.int .i64 p.now.word) ∧ W.cell? ⟨K.P, 17, none⟩ = some (.int .i64 p.now.scale) from fun W hW => ⟨hW, (G0.out.later hW).cell 0, (G0.out.later hW).cell 1, (P0.out.later hW).c 8, (P0.out.later hW).c 14, (P0.out.later hW).c 15, (P0.out.later hW).c 16, (P0.out.later hW).c 17⟩)
  go_region_held3 (fun (W : World) => Below W0.heap.size W0 W ∧ W.cell? ⟨w.heap.size, 0, none⟩ = some (.int .i64 g.f) ∧ W.cell? ⟨w.heap.size, 1, none⟩ = some (.int .i64 g.t) ∧ W.cell? ⟨K.P, 8, none⟩ = some (.bool p.now.x.wide) ∧ W.cell? ⟨K.P, 14, none⟩ = some (.int .i64 p.now.size) ∧ W.cell? ⟨K.P, 15, none⟩ = some (.int .i64 p.now.char) ∧ W.cell? ⟨K.P, 16, none⟩ = some (.int .i64 p.now.word) ∧ W.cell? ⟨K.P, 17, none⟩ = some (.int .i64 p.now.scale))
    (first | with_reducible exact H0.out _ (Below.refl _ _) | with_reducible exact H0.out _ (Below.refl _ _).drew | with_reducible exact H0.out _ B1.out)
    (first
      | (go_at_call 108; refine (C1.out _).mono ?_; rintro e w1 ⟨hm, hb⟩; rw [H1.out] at hm; cases (show e = .returned (.tuple #[.int .i64 x, .nilIface]) from hm); clear hm; (have B1 : Hid (Below W0.heap.size W0 w1) := by first | with_reducible exact hid (chn0 (Below.refl _ _).drew hb) | with_reducible exact hid (chn0 (Below.refl _ _) hb)); clear hb))
  obtain ⟨_, s0, s1, q8, q14, q15, q16, q17⟩ := H0.out _ B1.out
  go_wp2_with (go_at_call 131; fail)
  go_at_call 131
  refine (C2.out _).mono ?_
  rintro e w2 ⟨hm, hb⟩
  rw [H2.out] at hm
  cases (show e = .returned (.tuple #[.int .i64 z, .nilIface]) from hm)
  have B2 : Hid (Below W0.heap.size W0 w2) := hid (chn0 B1.out hb)
  clear hm hb s0 s1 q8 q14 q15 q16 q17
  obtain ⟨_, s0, s1, q8, q14, q15, q16, q17⟩ := H0.out _ B2.out
  rw [Hf.out] at s0
  rw [Hw.out] at q8
  go_wp2_with (go_at_call 108; fail)
  go_at_call 108
  refine (C4.out _).mono ?_
  rintro e w3 ⟨hm, hb⟩
  rw [H4.out] at hm
  cases (show e = .returned (.tuple #[.int .i64 0, .iface 68 (.int .i64 k)]) from hm)
  have B3 : Hid (Below W0.heap.size W0 w3) := hid (chn0 B2.out hb)
  clear hm hb s0 s1 q8 q14 q15 q16 q17
  go_wp2_with fail
  go_ret2
  exact ⟨rfl, chn0 B0.out B3.out⟩
set_option maxHeartbeats 4000000 in
theorem advance_5oa (K : Pk) (p : PS) (tS tG : Value) (g : Sp) (w : World) (hP : PAt K w p tS tG) (x z u : Int) (h1 : mulX g.t p.now.size = .ok x) (h2 : addX x p.now.char = .ok z) (hf : ¬ g.f = 32) (h4 : mulX z p.now.scale = .ok u) :
    Calls Tryz.prog 106 #[.pointer (some ⟨K.P, 2, none⟩), .agg #[.int .i64 g.f, .int .i64 g.t, .string g.s]] w fun e w' => NumA e (.ok u) ∧ Below w.heap.size w w' := by
  have C1 := hid (mul_x g.t p.now.size)
  have C2 := hid (add_x x p.now.char)
  have C4 := hid (mul_x z p.now.scale)
  have G0 := hid (At.new w #[.int .i64 g.f, .int .i64 g.t, .string g.s] 142 rfl)
  have P0 := hid (hP.alloc (.cells #[.int .i64 g.f, .int .i64 g.t, .string g.s] 142))
  have B0 : Hid (Below w.heap.size w (w.alloc (.cells #[.int .i64 g.f, .int .i64 g.t, .string g.s] 142))) := hid (by go_grown)
  have H1 := hid h1
  have H2 := hid h2
  have H4 := hid h4
  have Hf := hid hf
  clear hP h1 h2 h4 hf
  go_enter Tryz.func106, Tryz.ntmps106
  go_wp2_with fail
  generalize (w.alloc (.cells #[.int .i64 g.f, .int .i64 g.t, .string g.s] 142)) = W0 at G0 P0 B0 ⊢
  have H0 := hid (show ∀ W, Below W0.heap.size W0 W → Below W0.heap.size W0 W ∧ W.cell? ⟨w.heap.size, 0, none⟩ = some (.int .i64 g.f) ∧ W.cell? ⟨w.heap.size, 1, none⟩ = some (.int .i64 g.t) ∧ W.cell? ⟨K.P, 8, none⟩ = some (.bool p.now.x.wide) ∧ W.cell? ⟨K.P, 14, none⟩ = some (.int .i64 p.now.size) ∧ W.cell? ⟨K.P, 15, none⟩ = some (.int .i64 p.now.char) ∧ W.cell? ⟨K.P, 16, none⟩ = some (.int .i64 p.now.word) ∧ W.cell? ⟨K.P, 17, none⟩ = some (.int .i64 p.now.scale) from fun W hW => ⟨hW, (G0.out.later hW).cell 0, (G0.out.later hW).cell 1, (P0.out.later hW).c 8, (P0.out.later hW).c 14, (P0.out.later hW).c 15, (P0.out.later hW).c 16, (P0.out.later hW).c 17⟩)
  go_region_held3 (fun (W : World) => Below W0.heap.size W0 W ∧ W.cell? ⟨w.heap.size, 0, none⟩ = some (.int .i64 g.f) ∧ W.cell? ⟨w.heap.size, 1, none⟩ = some (.int .i64 g.t) ∧ W.cell? ⟨K.P, 8, none⟩ = some (.bool p.now.x.wide) ∧ W.cell? ⟨K.P, 14, none⟩ = some (.int .i64 p.now.size) ∧ W.cell? ⟨K.P, 15, none⟩ = some (.int .i64 p.now.char) ∧ W.cell? ⟨K.P, 16, none⟩ = some (.int .i64 p.now.word) ∧ W.cell? ⟨K.P, 17, none⟩ = some (.int .i64 p.now.scale))
    (first | with_reducible exact H0.out _ (Below.refl _ _) | with_reducible exact H0.out _ (Below.refl _ _).drew | with_reducible exact H0.out _ B1.out)
    (first
      | (go_at_call 108; refine (C1.out _).mono ?_; rintro e w1 ⟨hm, hb⟩; rw [H1.out] at hm; cases (show e = .returned (.tuple #[.int .i64 x, .nilIface]) from hm); clear hm; (have B1 : Hid (Below W0.heap.size W0 w1) := by first | with_reducible exact hid (chn0 (Below.refl _ _).drew hb) | with_reducible exact hid (chn0 (Below.refl _ _) hb)); clear hb))
  obtain ⟨_, s0, s1, q8, q14, q15, q16, q17⟩ := H0.out _ B1.out
  go_wp2_with (go_at_call 131; fail)
  go_at_call 131
  refine (C2.out _).mono ?_
  rintro e w2 ⟨hm, hb⟩
  rw [H2.out] at hm
  cases (show e = .returned (.tuple #[.int .i64 z, .nilIface]) from hm)
  have B2 : Hid (Below W0.heap.size W0 w2) := hid (chn0 B1.out hb)
  clear hm hb s0 s1 q8 q14 q15 q16 q17
  obtain ⟨_, s0, s1, q8, q14, q15, q16, q17⟩ := H0.out _ B2.out
  have hf2 : (g.f == 32) = false := by simpa using Hf.out
  go_wp2_with (go_at_call 108; fail)
  go_at_call 108
  refine (C4.out _).mono ?_
  rintro e w3 ⟨hm, hb⟩
  rw [H4.out] at hm
  cases (show e = .returned (.tuple #[.int .i64 u, .nilIface]) from hm)
  have B3 : Hid (Below W0.heap.size W0 w3) := hid (chn0 B2.out hb)
  clear hm hb s0 s1 q8 q14 q15 q16 q17
  go_wp2_with fail
  go_ret2
  exact ⟨rfl, chn0 B0.out B3.out⟩
set_option maxHeartbeats 4000000 in
theorem advance_5ob (K : Pk) (p : PS) (tS tG : Value) (g : Sp) (w : World) (hP : PAt K w p tS tG) (x z u : Int) (h1 : mulX g.t p.now.size = .ok x) (h2 : addX x p.now.char = .ok z) (hf : g.f = 32) (hw : p.now.x.wide = true) (h4 : mulX z p.now.scale = .ok u) :
    Calls Tryz.prog 106 #[.pointer (some ⟨K.P, 2, none⟩), .agg #[.int .i64 g.f, .int .i64 g.t, .string g.s]] w fun e w' => NumA e (.ok u) ∧ Below w.heap.size w w' := by
  have C1 := hid (mul_x g.t p.now.size)
  have C2 := hid (add_x x p.now.char)
  have C4 := hid (mul_x z p.now.scale)
  have G0 := hid (At.new w #[.int .i64 g.f, .int .i64 g.t, .string g.s] 142 rfl)
  have P0 := hid (hP.alloc (.cells #[.int .i64 g.f, .int .i64 g.t, .string g.s] 142))
  have B0 : Hid (Below w.heap.size w (w.alloc (.cells #[.int .i64 g.f, .int .i64 g.t, .string g.s] 142))) := hid (by go_grown)
  have H1 := hid h1
  have H2 := hid h2
  have H4 := hid h4
  have Hf := hid hf
  have Hw := hid hw
  clear hP h1 h2 h4 hf hw
  go_enter Tryz.func106, Tryz.ntmps106
  go_wp2_with fail
  generalize (w.alloc (.cells #[.int .i64 g.f, .int .i64 g.t, .string g.s] 142)) = W0 at G0 P0 B0 ⊢
  have H0 := hid (show ∀ W, Below W0.heap.size W0 W → Below W0.heap.size W0 W ∧ W.cell? ⟨w.heap.size, 0, none⟩ = some (.int .i64 g.f) ∧ W.cell? ⟨w.heap.size, 1, none⟩ = some (.int .i64 g.t) ∧ W.cell? ⟨K.P, 8, none⟩ = some (.bool p.now.x.wide) ∧ W.cell? ⟨K.P, 14, none⟩ = some (.int .i64 p.now.size) ∧ W.cell? ⟨K.P, 15, none⟩ = some (.int .i64 p.now.char) ∧ W.cell? ⟨K.P, 16, none⟩ = some (.int .i64 p.now.word) ∧ W.cell? ⟨K.P, 17, none⟩ = some (.int .i64 p.now.scale) from fun W hW => ⟨hW, (G0.out.later hW).cell 0, (G0.out.later hW).cell 1, (P0.out.later hW).c 8, (P0.out.later hW).c 14, (P0.out.later hW).c 15, (P0.out.later hW).c 16, (P0.out.later hW).c 17⟩)
  go_region_held3 (fun (W : World) => Below W0.heap.size W0 W ∧ W.cell? ⟨w.heap.size, 0, none⟩ = some (.int .i64 g.f) ∧ W.cell? ⟨w.heap.size, 1, none⟩ = some (.int .i64 g.t) ∧ W.cell? ⟨K.P, 8, none⟩ = some (.bool p.now.x.wide) ∧ W.cell? ⟨K.P, 14, none⟩ = some (.int .i64 p.now.size) ∧ W.cell? ⟨K.P, 15, none⟩ = some (.int .i64 p.now.char) ∧ W.cell? ⟨K.P, 16, none⟩ = some (.int .i64 p.now.word) ∧ W.cell? ⟨K.P, 17, none⟩ = some (.int .i64 p.now.scale))
    (first | with_reducible exact H0.out _ (Below.refl _ _) | with_reducible exact H0.out _ (Below.refl _ _).drew | with_reducible exact H0.out _ B1.out)
    (first
      | (go_at_call 108; refine (C1.out _).mono ?_; rintro e w1 ⟨hm, hb⟩; rw [H1.out] at hm; cases (show e = .returned (.tuple #[.int .i64 x, .nilIface]) from hm); clear hm; (have B1 : Hid (Below W0.heap.size W0 w1) := by first | with_reducible exact hid (chn0 (Below.refl _ _).drew hb) | with_reducible exact hid (chn0 (Below.refl _ _) hb)); clear hb))
  obtain ⟨_, s0, s1, q8, q14, q15, q16, q17⟩ := H0.out _ B1.out
  go_wp2_with (go_at_call 131; fail)
  go_at_call 131
  refine (C2.out _).mono ?_
  rintro e w2 ⟨hm, hb⟩
  rw [H2.out] at hm
  cases (show e = .returned (.tuple #[.int .i64 z, .nilIface]) from hm)
  have B2 : Hid (Below W0.heap.size W0 w2) := hid (chn0 B1.out hb)
  clear hm hb s0 s1 q8 q14 q15 q16 q17
  obtain ⟨_, s0, s1, q8, q14, q15, q16, q17⟩ := H0.out _ B2.out
  rw [Hf.out] at s0
  rw [Hw.out] at q8
  go_wp2_with (go_at_call 108; fail)
  go_at_call 108
  refine (C4.out _).mono ?_
  rintro e w3 ⟨hm, hb⟩
  rw [H4.out] at hm
  cases (show e = .returned (.tuple #[.int .i64 u, .nilIface]) from hm)
  have B3 : Hid (Below W0.heap.size W0 w3) := hid (chn0 B2.out hb)
  clear hm hb s0 s1 q8 q14 q15 q16 q17
  go_wp2_with fail
  go_ret2
  exact ⟨rfl, chn0 B0.out B3.out⟩
theorem advance_says (K : Pk) (p : PS) (tS tG : Value) (g : Sp) (w : World) (hP : PAt K w p tS tG) :
    Calls Tryz.prog 106 #[.pointer (some ⟨K.P, 2, none⟩), .agg #[.int .i64 g.f, .int .i64 g.t, .string g.s]] w fun e w' => NumA e (advX p.now g) ∧ Below w.heap.size w w' := by
  unfold advX
  cases h1 : mulX g.t p.now.size with
  | error k => exact advance_1 K p tS tG g w hP k h1
  | ok x =>
    show Calls _ _ _ _ fun e w' => NumA e ((addX x p.now.char).bind _) ∧ _
    cases h2 : addX x p.now.char with
    | error k => exact advance_2 K p tS tG g w hP x k h1 h2
    | ok y =>
      by_cases hf : g.f = 32
      · by_cases hw : p.now.x.wide = false
        · show Calls _ _ _ _ fun e w' => NumA e ((if g.f = 32 ∧ p.now.x.wide = false then addX y p.now.word else .ok y).bind _) ∧ _
          rw [if_pos ⟨hf, hw⟩]
          cases h3 : addX y p.now.word with
          | error k => exact advance_3 K p tS tG g w hP x y k h1 h2 hf hw h3
          | ok z =>
            show Calls _ _ _ _ fun e w' => NumA e (mulX z p.now.scale) ∧ _
            cases h4 : mulX z p.now.scale with
            | error k => exact advance_4e K p tS tG g w hP x y z k h1 h2 hf hw h3 h4
            | ok u => exact advance_4o K p tS tG g w hP x y z u h1 h2 hf hw h3 h4
        · have hw2 : p.now.x.wide = true := by simpa using hw
          show Calls _ _ _ _ fun e w' => NumA e ((if g.f = 32 ∧ p.now.x.wide = false then addX y p.now.word else .ok y).bind _) ∧ _
          rw [if_neg (fun q => hw q.2)]
          show Calls _ _ _ _ fun e w' => NumA e (mulX y p.now.scale) ∧ _
          cases h4 : mulX y p.now.scale with
          | error k => exact advance_5eb K p tS tG g w hP x y k h1 h2 hf hw2 h4
          | ok u => exact advance_5ob K p tS tG g w hP x y u h1 h2 hf hw2 h4
      · show Calls _ _ _ _ fun e w' => NumA e ((if g.f = 32 ∧ p.now.x.wide = false then addX y p.now.word else .ok y).bind _) ∧ _
        rw [if_neg (fun q => hf q.1)]
        show Calls _ _ _ _ fun e w' => NumA e (mulX y p.now.scale) ∧ _
        cases h4 : mulX y p.now.scale with
        | error k => exact advance_5ea K p tS tG g w hP x y k h1 h2 hf h4
        | ok u => exact advance_5oa K p tS tG g w hP x y u h1 h2 hf h4
end Go.Proofs.YtobpidmlgldnmaaGreatDoor
