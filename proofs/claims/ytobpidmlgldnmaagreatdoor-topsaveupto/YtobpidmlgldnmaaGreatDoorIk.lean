/-
  Joined: It, If, Ik.
-/
import Derived.Test.YtobpidmlgldnmaaGreatDoorIs
import Derived.Test.YtobpidmlgldnmaaGreatDoorIn
import Derived.Test.YtobpidmlgldnmaaGreatDoorIv
import Derived.Test.YtobpidmlgldnmaaGreatDoorIl
import Derived.Maps.OwnOps
import Derived.WalkKit
import Derived.Handy
import Derived.Carry

/-
  A painter: a sign is shown.
-/
namespace Go.Proofs.YtobpidmlgldnmaaGreatDoor
open Go.RowKit
set_option maxRecDepth 100000

theorem infoGl : (Tryz.prog.info? 48).map (fun i => (i.zero, i.size, i.bytes)) = some (some (.agg #[.string ⟨#[]⟩, .int .i64 0, .int .i64 0, .int .i64 0, .int .i64 0, .int .i64 0, .int .i64 0, .int .i64 0, .int .i64 0, .int .i64 0]), 10, 88) := by kernel_rfl
theorem flatG_snoc (l : List Gl) (s : Gl) : flatG (l ++ [s]) = flatG l ++ s.cs := by simp [flatG]
theorem one_gl (s : Gl) : ∀ u ∈ s.cs, u.oneCell' = true := by
  intro u hu
  simp only [Gl.cs, List.mem_cons, List.not_mem_nil, or_false] at hu
  rcases hu with rfl | rfl | rfl | rfl | rfl | rfl | rfl | rfl | rfl | rfl <;> rfl
/-- One more glyph. -/
theorem PAt.pushG {K : Pk} {wa w2 : World} {p : PS} {tS tG v' : Value} {g : Gl} (h1 : PAt K wa p tS tG) (hown : w2.ownsRow K.B 48 10 v' (p.out.length + 1) (flatG p.out ++ g.cs)) (hg : wa.grownBy w2 tG.ownBlock) (hat : v'.ownBlock = tG.ownBlock ∨ v'.ownBlock = some wa.heap.size) :
    PAt K (w2.setCell ⟨K.P, 34, none⟩ v') { p with out := p.out ++ [g] } tS v' := by
  have hne : some K.P ≠ tG.ownBlock := fun e => by have := (h1.ownG.lt K.P e.symm).1; have := h1.lt; omega
  have hA : At w2 K.P 79 (p.cs K.fm K.sm tS tG) := (hg.block K.P h1.at_.lt hne).trans h1.at_
  have kb : KeepBut K.P w2 (w2.setCell ⟨K.P, 34, none⟩ v') := (KeepBut.refl _ _).set 34 _
  have kg : w2.grownBy (w2.setCell ⟨K.P, 34, none⟩ v') (some K.P) := ⟨kb.os, kb.tape, kb.output, kb.size, fun i hi hn => kb.block i hi (fun e => hn (by rw [e]))⟩
  refine ⟨heap_setCell_same w2 K.P 34 _ _ _ hA, h1.le, h1.lt, Nat.le_trans h1.bl (Nat.le_trans hg.size kb.size), ?_, ?_, ?_, ?_, fun i hi hn => ((kb.block i (Nat.lt_of_lt_of_le hi (Nat.le_trans h1.bl hg.size)) hn).trans (hg.block i (Nat.lt_of_lt_of_le hi h1.bl) (fun e => by have := (h1.ownG.lt i e.symm).1; omega))).trans (h1.fix i hi hn)⟩
  · exact kb.below (h1.keep.grown hg h1.keep.size (fun j hj => by have := (h1.ownG.lt j hj).1; have := h1.le; have := h1.lt; omega)) h1.le
  · have q : w2.ownsRow K.B 76 18 tS p.saved.length (flatS p.saved) := World.ownsRow.kept h1.ownS hg (by
      cases ht : tS.ownBlock with
      | none => exact .inl rfl
      | some g => exact .inr fun e => h1.apart g ht e.symm)
    exact World.ownsRow.kept q kg (.inr fun e => by have := (q.lt K.P e).1; have := h1.lt; omega)
  · rw [flatG_snoc, List.length_append]
    exact World.ownsRow.kept hown kg (.inr fun e => by have := (hown.lt K.P e).1; have := h1.lt; omega)
  · intro g e1 e2
    rcases hat with q | q
    · exact h1.apart g e1 (q.symm.trans e2)
    · rw [e2] at q
      injection q with q
      have := (h1.ownS.lt g e1).2
      omega
set_option maxHeartbeats 4000000 in
theorem showSign_many (K : Pk) (p : PS) (tS tG : Value) (g : Sp) (w : World) (hP : PAt K w p tS tG) (h1 : 1000 ≤ p.out.length) (h9 : p.out.length ≤ 2000) :
    Calls Tryz.prog 88 #[.pointer (some ⟨K.P, 0, none⟩), .agg #[.int .i64 g.f, .int .i64 g.t, .string g.s]] w fun e w' => GRes K w tG e w' (.error 2) := by
  have c34 := hP.c 34
  simp at c34
  obtain ⟨aG, cG, rfl⟩ : ∃ a c, tG = .slice a p.out.length c := by
    rcases hP.ownG.2 with ⟨rfl, h0⟩ | ⟨g, cap, cur, rfl, _⟩
    · exact ⟨none, 0, by rw [h0]⟩
    · exact ⟨_, cap, rfl⟩
  have HP := hid hP
  have zP := hP.at_.lt
  have NG : Hid ((Value.slice aG p.out.length cG).ownBlock ≠ some w.heap.size) := hid (fun e => by have := (hP.ownG.lt _ e).2; omega)
  have h2 : (1000 : Int) ≤ p.out.length := by omega
  clear hP
  go_enter Tryz.func88, Tryz.ntmps88
  go_wp2_with fail
  go_ret
  exact GRes.err rfl (HP.out.alloc _).keep
theorem grownG {w w2 : World} {b : Nat} {T : TypeId} {cs : Array Value} {o : Obj} {t : Value} (h : At w b T cs) (hg : (w.alloc o).drew.grownBy w2 t.ownBlock) (hne : t.ownBlock ≠ some b) : At w2 b T cs := by
  unfold At
  rw [hg.block b (by show b < (w.alloc o).heap.size; have := h.lt; simp; omega) (fun e => hne e.symm)]
  show (w.alloc o).heap[b]? = _
  rw [heap_alloc_old _ _ h.lt]; exact h
theorem newG {w a : World} {o : Obj} {t v : Value} (h : Below w.heap.size w a) (hat : v.ownBlock = t.ownBlock ∨ v.ownBlock = some (a.alloc o).drew.heap.size) : NewG w t v := by
  rcases hat with q | q
  · exact .inl q
  · refine .inr ⟨_, q, ?_⟩
    show w.heap.size ≤ (a.alloc o).heap.size
    have := h.size
    simp; omega
set_option maxHeartbeats 4000000 in
theorem showSign_place (K : Pk) (p : PS) (tS tG : Value) (g : Sp) (w : World) (hP : PAt K w p tS tG) (h1 : ¬ 1000 ≤ p.out.length) (k : Int) (hp : placeX p.now p.t = .error k) :
    Calls Tryz.prog 88 #[.pointer (some ⟨K.P, 0, none⟩), .agg #[.int .i64 g.f, .int .i64 g.t, .string g.s]] w fun e w' => GRes K w tG e w' (.error k) := by
  have c34 := hP.c 34
  simp at c34
  obtain ⟨aG, cG, rfl⟩ : ∃ a c, tG = .slice a p.out.length c := by
    rcases hP.ownG.2 with ⟨rfl, h0⟩ | ⟨g, cap, cur, rfl, _⟩
    · exact ⟨none, 0, by rw [h0]⟩
    · exact ⟨_, cap, rfl⟩
  have HP := hid hP
  have zP := hP.at_.lt
  have NG : Hid ((Value.slice aG p.out.length cG).ownBlock ≠ some w.heap.size) := hid (fun e => by have := (hP.ownG.lt _ e).2; omega)
  have G0 := hid (At.new w #[.int .i64 g.f, .int .i64 g.t, .string g.s] 142 rfl)
  have P0 := hid (hP.alloc (.cells #[.int .i64 g.f, .int .i64 g.t, .string g.s] 142))
  have C1 := hid (place_says K p tS (.slice aG p.out.length cG) p.t)
  have H1 := hid hp
  have h2 : ¬ (1000 : Int) ≤ p.out.length := by omega
  clear hP hp
  go_enter Tryz.func88, Tryz.ntmps88
  go_wp2_with fail
  have B0 : Hid (Below w.heap.size w (w.alloc (.cells #[.int .i64 g.f, .int .i64 g.t, .string g.s] 142))) := hid (by go_grown)
  have L0 : Hid (w.heap.size < (w.alloc (.cells #[.int .i64 g.f, .int .i64 g.t, .string g.s] 142)).heap.size) := hid (by simp)
  generalize (w.alloc (.cells #[.int .i64 g.f, .int .i64 g.t, .string g.s] 142)) = W0 at G0 P0 B0 L0 ⊢
  have H0 := hid (show ∀ W, Below W0.heap.size W0 W → Below W0.heap.size W0 W ∧ W.cell? ⟨K.P, 22, none⟩ = some (.int .i64 p.t.a) ∧ W.cell? ⟨K.P, 23, none⟩ = some (.int .i64 p.t.b) ∧ W.cell? ⟨K.P, 24, none⟩ = some (.int .i64 p.t.c) ∧ W.cell? ⟨K.P, 25, none⟩ = some (.int .i64 p.t.d) ∧ W.cell? ⟨K.P, 26, none⟩ = some (.int .i64 p.t.e) ∧ W.cell? ⟨K.P, 27, none⟩ = some (.int .i64 p.t.f) from fun W hW => ⟨hW, (P0.out.later hW).c 22, (P0.out.later hW).c 23, (P0.out.later hW).c 24, (P0.out.later hW).c 25, (P0.out.later hW).c 26, (P0.out.later hW).c 27⟩)
  clear HP zP c34
  go_region_held3 (fun (W : World) => Below W0.heap.size W0 W ∧ W.cell? ⟨K.P, 22, none⟩ = some (.int .i64 p.t.a) ∧ W.cell? ⟨K.P, 23, none⟩ = some (.int .i64 p.t.b) ∧ W.cell? ⟨K.P, 24, none⟩ = some (.int .i64 p.t.c) ∧ W.cell? ⟨K.P, 25, none⟩ = some (.int .i64 p.t.d) ∧ W.cell? ⟨K.P, 26, none⟩ = some (.int .i64 p.t.e) ∧ W.cell? ⟨K.P, 27, none⟩ = some (.int .i64 p.t.f))
    (first | with_reducible exact H0.out _ (below6 B2.out (Nat.le_refl _) _ _ _ _ _ _) | with_reducible exact H0.out _ (Below.refl _ _) | with_reducible exact H0.out _ (Below.refl _ _).drew | with_reducible exact H0.out _ ((Below.refl _ _).alloc (Nat.le_refl _) _).drew | with_reducible exact H0.out _ ((Below.refl _ _).drew.alloc (Nat.le_refl _) _) | with_reducible exact H0.out _ B2.out | with_reducible exact H0.out _ (B2.out.alloc B2.out.size _) | with_reducible exact H0.out _ (below6 (B2.out.alloc B2.out.size _) B2.out.size _ _ _ _ _ _))
    (first
      | (go_at_call 104; refine (C1.out _ (P0.out.later (H0.out _ (by go_grown)).1)).mono ?_; rintro e w2 ⟨hm, hb2⟩; rw [H1.out] at hm; cases (show e = .returned (.tuple #[.agg #[.int .i64 0, .int .i64 0, .int .i64 0, .int .i64 0, .int .i64 0, .int .i64 0], .iface 68 (.int .i64 k)]) from hm); clear hm; (have B2 : Hid (Below W0.heap.size W0 w2) := by first | with_reducible exact hid (chn0 (Below.refl _ _).drew hb2) | with_reducible exact hid (chn0 ((Below.refl _ _).alloc (Nat.le_refl _) _).drew hb2)); (try (have HAm := hid (ahead hb2))); (try (have m0 := HAm.out.cell 0)); (try (have mf0 := HAm.out.free 0)); (try (have m1 := HAm.out.cell 1)); (try (have mf1 := HAm.out.free 1)); (try (have m2 := HAm.out.cell 2)); (try (have mf2 := HAm.out.free 2)); (try (have m3 := HAm.out.cell 3)); (try (have mf3 := HAm.out.free 3)); (try (have m4 := HAm.out.cell 4)); (try (have mf4 := HAm.out.free 4)); (try (have m5 := HAm.out.cell 5)); (try (have mf5 := HAm.out.free 5)); clear hb2))
  all_goals
    obtain ⟨wf, hwf, BF, bm, hbm, MF, hle⟩ : ∃ wf, wf = w2.alloc (.cells #[.int .i64 0, .int .i64 0, .int .i64 0, .int .i64 0, .int .i64 0, .int .i64 0] 74) ∧ Below W0.heap.size W0 wf ∧ ∃ bm, bm = w2.heap.size ∧ At wf bm 74 #[.int .i64 0, .int .i64 0, .int .i64 0, .int .i64 0, .int .i64 0, .int .i64 0] ∧ W0.heap.size ≤ bm := ⟨_, rfl, B2.out.alloc B2.out.size _, _, rfl, At.new w2 _ _ rfl, B2.out.size⟩
    first
      | rw [← hwf, ← hbm]
      | (clear hwf BF MF hbm hle bm wf
         obtain ⟨wf, hwf, BF, bm, hbm, MF, hle⟩ : ∃ wf, wf = ((((((w2.setCell ⟨W0.heap.size, 0, none⟩ (.int .i64 0)).setCell ⟨W0.heap.size, 1, none⟩ (.int .i64 0)).setCell ⟨W0.heap.size, 2, none⟩ (.int .i64 0)).setCell ⟨W0.heap.size, 3, none⟩ (.int .i64 0)).setCell ⟨W0.heap.size, 4, none⟩ (.int .i64 0)).setCell ⟨W0.heap.size, 5, none⟩ (.int .i64 0)) ∧ Below W0.heap.size W0 wf ∧ ∃ bm, bm = W0.heap.size ∧ At wf bm 74 #[.int .i64 0, .int .i64 0, .int .i64 0, .int .i64 0, .int .i64 0, .int .i64 0] ∧ W0.heap.size ≤ bm := ⟨_, rfl, below6 B2.out (Nat.le_refl _) _ _ _ _ _ _, _, rfl, (putM_six HAm.out 0 0 0 0 0 0).2, Nat.le_refl _⟩
         rw [← hwf, ← hbm])
    clear hwf hbm
    try clear HAm
    go_wp2_with fail
    go_ret
    exact GRes.err rfl (P0.out.later BF).keep
set_option maxHeartbeats 4000000 in
theorem showSign_glyph (K : Pk) (p : PS) (tS tG : Value) (g : Sp) (w : World) (hP : PAt K w p tS tG) (h1 : ¬ 1000 ≤ p.out.length) (m : M6) (k : Int) (hp : placeX p.now p.t = .ok m) (hg : glyphX m g = .error k) :
    Calls Tryz.prog 88 #[.pointer (some ⟨K.P, 0, none⟩), .agg #[.int .i64 g.f, .int .i64 g.t, .string g.s]] w fun e w' => GRes K w tG e w' (.error k) := by
  have c34 := hP.c 34
  simp at c34
  obtain ⟨aG, cG, rfl⟩ : ∃ a c, tG = .slice a p.out.length c := by
    rcases hP.ownG.2 with ⟨rfl, h0⟩ | ⟨g, cap, cur, rfl, _⟩
    · exact ⟨none, 0, by rw [h0]⟩
    · exact ⟨_, cap, rfl⟩
  have HP := hid hP
  have zP := hP.at_.lt
  have NG : Hid ((Value.slice aG p.out.length cG).ownBlock ≠ some w.heap.size) := hid (fun e => by have := (hP.ownG.lt _ e).2; omega)
  have G0 := hid (At.new w #[.int .i64 g.f, .int .i64 g.t, .string g.s] 142 rfl)
  have P0 := hid (hP.alloc (.cells #[.int .i64 g.f, .int .i64 g.t, .string g.s] 142))
  have C1 := hid (place_says K p tS (.slice aG p.out.length cG) p.t)
  have H1 := hid hp
  have h2 : ¬ (1000 : Int) ≤ p.out.length := by omega
  clear hP hp
  go_enter Tryz.func88, Tryz.ntmps88
  go_wp2_with fail
  have B0 : Hid (Below w.heap.size w (w.alloc (.cells #[.int .i64 g.f, .int .i64 g.t, .string g.s] 142))) := hid (by go_grown)
  have L0 : Hid (w.heap.size < (w.alloc (.cells #[.int .i64 g.f, .int .i64 g.t, .string g.s] 142)).heap.size) := hid (by simp)
  generalize (w.alloc (.cells #[.int .i64 g.f, .int .i64 g.t, .string g.s] 142)) = W0 at G0 P0 B0 L0 ⊢
  have H0 := hid (show ∀ W, Below W0.heap.size W0 W → Below W0.heap.size W0 W ∧ W.cell? ⟨K.P, 22, none⟩ = some (.int .i64 p.t.a) ∧ W.cell? ⟨K.P, 23, none⟩ = some (.int .i64 p.t.b) ∧ W.cell? ⟨K.P, 24, none⟩ = some (.int .i64 p.t.c) ∧ W.cell? ⟨K.P, 25, none⟩ = some (.int .i64 p.t.d) ∧ W.cell? ⟨K.P, 26, none⟩ = some (.int .i64 p.t.e) ∧ W.cell? ⟨K.P, 27, none⟩ = some (.int .i64 p.t.f) from fun W hW => ⟨hW, (P0.out.later hW).c 22, (P0.out.later hW).c 23, (P0.out.later hW).c 24, (P0.out.later hW).c 25, (P0.out.later hW).c 26, (P0.out.later hW).c 27⟩)
  clear HP zP c34
  go_region_held3 (fun (W : World) => Below W0.heap.size W0 W ∧ W.cell? ⟨K.P, 22, none⟩ = some (.int .i64 p.t.a) ∧ W.cell? ⟨K.P, 23, none⟩ = some (.int .i64 p.t.b) ∧ W.cell? ⟨K.P, 24, none⟩ = some (.int .i64 p.t.c) ∧ W.cell? ⟨K.P, 25, none⟩ = some (.int .i64 p.t.d) ∧ W.cell? ⟨K.P, 26, none⟩ = some (.int .i64 p.t.e) ∧ W.cell? ⟨K.P, 27, none⟩ = some (.int .i64 p.t.f))
    (first | with_reducible exact H0.out _ (below6 B2.out (Nat.le_refl _) _ _ _ _ _ _) | with_reducible exact H0.out _ (Below.refl _ _) | with_reducible exact H0.out _ (Below.refl _ _).drew | with_reducible exact H0.out _ ((Below.refl _ _).alloc (Nat.le_refl _) _).drew | with_reducible exact H0.out _ ((Below.refl _ _).drew.alloc (Nat.le_refl _) _) | with_reducible exact H0.out _ B2.out | with_reducible exact H0.out _ (B2.out.alloc B2.out.size _) | with_reducible exact H0.out _ (below6 (B2.out.alloc B2.out.size _) B2.out.size _ _ _ _ _ _))
    (first
      | (go_at_call 104; refine (C1.out _ (P0.out.later (H0.out _ (by go_grown)).1)).mono ?_; rintro e w2 ⟨hm, hb2⟩; rw [H1.out] at hm; cases (show e = .returned (.tuple #[.agg #[.int .i64 m.a, .int .i64 m.b, .int .i64 m.c, .int .i64 m.d, .int .i64 m.e, .int .i64 m.f], .nilIface]) from hm); clear hm; (have B2 : Hid (Below W0.heap.size W0 w2) := by first | with_reducible exact hid (chn0 (Below.refl _ _).drew hb2) | with_reducible exact hid (chn0 ((Below.refl _ _).alloc (Nat.le_refl _) _).drew hb2)); (try (have HAm := hid (ahead hb2))); (try (have m0 := HAm.out.cell 0)); (try (have mf0 := HAm.out.free 0)); (try (have m1 := HAm.out.cell 1)); (try (have mf1 := HAm.out.free 1)); (try (have m2 := HAm.out.cell 2)); (try (have mf2 := HAm.out.free 2)); (try (have m3 := HAm.out.cell 3)); (try (have mf3 := HAm.out.free 3)); (try (have m4 := HAm.out.cell 4)); (try (have mf4 := HAm.out.free 4)); (try (have m5 := HAm.out.cell 5)); (try (have mf5 := HAm.out.free 5)); clear hb2))
  all_goals
    obtain ⟨wf, hwf, BF, bm, hbm, MF, hle⟩ : ∃ wf, wf = w2.alloc (.cells #[.int .i64 m.a, .int .i64 m.b, .int .i64 m.c, .int .i64 m.d, .int .i64 m.e, .int .i64 m.f] 74) ∧ Below W0.heap.size W0 wf ∧ ∃ bm, bm = w2.heap.size ∧ At wf bm 74 #[.int .i64 m.a, .int .i64 m.b, .int .i64 m.c, .int .i64 m.d, .int .i64 m.e, .int .i64 m.f] ∧ W0.heap.size ≤ bm := ⟨_, rfl, B2.out.alloc B2.out.size _, _, rfl, At.new w2 _ _ rfl, B2.out.size⟩
    first
      | rw [← hwf, ← hbm]
      | (clear hwf BF MF hbm hle bm wf
         obtain ⟨wf, hwf, BF, bm, hbm, MF, hle⟩ : ∃ wf, wf = ((((((w2.setCell ⟨W0.heap.size, 0, none⟩ (.int .i64 m.a)).setCell ⟨W0.heap.size, 1, none⟩ (.int .i64 m.b)).setCell ⟨W0.heap.size, 2, none⟩ (.int .i64 m.c)).setCell ⟨W0.heap.size, 3, none⟩ (.int .i64 m.d)).setCell ⟨W0.heap.size, 4, none⟩ (.int .i64 m.e)).setCell ⟨W0.heap.size, 5, none⟩ (.int .i64 m.f)) ∧ Below W0.heap.size W0 wf ∧ ∃ bm, bm = W0.heap.size ∧ At wf bm 74 #[.int .i64 m.a, .int .i64 m.b, .int .i64 m.c, .int .i64 m.d, .int .i64 m.e, .int .i64 m.f] ∧ W0.heap.size ≤ bm := ⟨_, rfl, below6 B2.out (Nat.le_refl _) _ _ _ _ _ _, _, rfl, (putM_six HAm.out m.a m.b m.c m.d m.e m.f).2, Nat.le_refl _⟩
         rw [← hwf, ← hbm])
    clear hwf hbm
    try clear HAm
    have P1 := hid (P0.out.later BF)
    have G1 := hid (G0.out.later BF)
    have M1 := hid MF
    have BB := hid (chn0 B0.out BF)
    try clear m0 m1 m2 m3 m4 m5 mf0 mf1 mf2 mf3 mf4 mf5
    clear P0 G0 BF MF H0 C1 H1 B2 hle
    have C2 := hid (glyphAt_says m g)
    have H2 := hid hg
    clear hg
    have m0 := M1.out.cell 0
    have m1 := M1.out.cell 1
    have m2 := M1.out.cell 2
    have m3 := M1.out.cell 3
    have m4 := M1.out.cell 4
    have m5 := M1.out.cell 5
    have s0 := G1.out.cell 0
    have s1 := G1.out.cell 1
    have s2 := G1.out.cell 2
    simp at m0 m1 m2 m3 m4 m5 s0 s1 s2
    go_wp2_with (go_at_call 105; fail)
    go_at_call 105
    refine (C2.out _).mono ?_
    rintro e w3 ⟨hm, hb2⟩
    rw [H2.out] at hm
    cases (show e = .returned (.tuple #[.agg #[.string ⟨#[]⟩, .int .i64 0, .int .i64 0, .int .i64 0, .int .i64 0, .int .i64 0, .int .i64 0, .int .i64 0, .int .i64 0, .int .i64 0], .iface 68 (.int .i64 k)]) from hm)
    have B3 := hid hb2
    clear hm hb2 m0 m1 m2 m3 m4 m5 s0 s1 s2
    go_wp2_with fail
    go_ret
    exact GRes.err rfl (P1.out.later (B3.out.alloc B3.out.size _)).keep
set_option maxHeartbeats 4000000 in
theorem showSign_gone (K : Pk) (p : PS) (tS tG : Value) (g : Sp) (w : World) (hP : PAt K w p tS tG) (h1 : ¬ 1000 ≤ p.out.length) (m : M6) (gl : Gl) (r : Ex Int) (hp : placeX p.now p.t = .ok m) (hg : glyphX m g = .ok gl) (ha : advX p.now g = r) :
    Calls Tryz.prog 88 #[.pointer (some ⟨K.P, 0, none⟩), .agg #[.int .i64 g.f, .int .i64 g.t, .string g.s]] w fun e w' => GRes K w tG e w' (r.bind fun x => textX { p with out := p.out ++ [{ gl with sz := p.now.size }] } x) := by
  have c34 := hP.c 34
  simp at c34
  obtain ⟨aG, cG, rfl⟩ : ∃ a c, tG = .slice a p.out.length c := by
    rcases hP.ownG.2 with ⟨rfl, h0⟩ | ⟨g, cap, cur, rfl, _⟩
    · exact ⟨none, 0, by rw [h0]⟩
    · exact ⟨_, cap, rfl⟩
  have HP := hid hP
  have zP := hP.at_.lt
  have NG : Hid ((Value.slice aG p.out.length cG).ownBlock ≠ some w.heap.size) := hid (fun e => by have := (hP.ownG.lt _ e).2; omega)
  have HA := hid ha
  have NP := hid (show K.P < w.heap.size from zP)
  clear ha
  have G0 := hid (At.new w #[.int .i64 g.f, .int .i64 g.t, .string g.s] 142 rfl)
  have P0 := hid (hP.alloc (.cells #[.int .i64 g.f, .int .i64 g.t, .string g.s] 142))
  have C1 := hid (place_says K p tS (.slice aG p.out.length cG) p.t)
  have H1 := hid hp
  have h2 : ¬ (1000 : Int) ≤ p.out.length := by omega
  clear hP hp
  go_enter Tryz.func88, Tryz.ntmps88
  go_wp2_with fail
  have B0 : Hid (Below w.heap.size w (w.alloc (.cells #[.int .i64 g.f, .int .i64 g.t, .string g.s] 142))) := hid (by go_grown)
  have L0 : Hid (w.heap.size < (w.alloc (.cells #[.int .i64 g.f, .int .i64 g.t, .string g.s] 142)).heap.size) := hid (by simp)
  generalize (w.alloc (.cells #[.int .i64 g.f, .int .i64 g.t, .string g.s] 142)) = W0 at G0 P0 B0 L0 ⊢
  have H0 := hid (show ∀ W, Below W0.heap.size W0 W → Below W0.heap.size W0 W ∧ W.cell? ⟨K.P, 22, none⟩ = some (.int .i64 p.t.a) ∧ W.cell? ⟨K.P, 23, none⟩ = some (.int .i64 p.t.b) ∧ W.cell? ⟨K.P, 24, none⟩ = some (.int .i64 p.t.c) ∧ W.cell? ⟨K.P, 25, none⟩ = some (.int .i64 p.t.d) ∧ W.cell? ⟨K.P, 26, none⟩ = some (.int .i64 p.t.e) ∧ W.cell? ⟨K.P, 27, none⟩ = some (.int .i64 p.t.f) from fun W hW => ⟨hW, (P0.out.later hW).c 22, (P0.out.later hW).c 23, (P0.out.later hW).c 24, (P0.out.later hW).c 25, (P0.out.later hW).c 26, (P0.out.later hW).c 27⟩)
  clear HP zP c34
  go_region_held3 (fun (W : World) => Below W0.heap.size W0 W ∧ W.cell? ⟨K.P, 22, none⟩ = some (.int .i64 p.t.a) ∧ W.cell? ⟨K.P, 23, none⟩ = some (.int .i64 p.t.b) ∧ W.cell? ⟨K.P, 24, none⟩ = some (.int .i64 p.t.c) ∧ W.cell? ⟨K.P, 25, none⟩ = some (.int .i64 p.t.d) ∧ W.cell? ⟨K.P, 26, none⟩ = some (.int .i64 p.t.e) ∧ W.cell? ⟨K.P, 27, none⟩ = some (.int .i64 p.t.f))
    (first | with_reducible exact H0.out _ (below6 B2.out (Nat.le_refl _) _ _ _ _ _ _) | with_reducible exact H0.out _ (Below.refl _ _) | with_reducible exact H0.out _ (Below.refl _ _).drew | with_reducible exact H0.out _ ((Below.refl _ _).alloc (Nat.le_refl _) _).drew | with_reducible exact H0.out _ ((Below.refl _ _).drew.alloc (Nat.le_refl _) _) | with_reducible exact H0.out _ B2.out | with_reducible exact H0.out _ (B2.out.alloc B2.out.size _) | with_reducible exact H0.out _ (below6 (B2.out.alloc B2.out.size _) B2.out.size _ _ _ _ _ _))
    (first
      | (go_at_call 104; refine (C1.out _ (P0.out.later (H0.out _ (by go_grown)).1)).mono ?_; rintro e w2 ⟨hm, hb2⟩; rw [H1.out] at hm; cases (show e = .returned (.tuple #[.agg #[.int .i64 m.a, .int .i64 m.b, .int .i64 m.c, .int .i64 m.d, .int .i64 m.e, .int .i64 m.f], .nilIface]) from hm); clear hm; (have B2 : Hid (Below W0.heap.size W0 w2) := by first | with_reducible exact hid (chn0 (Below.refl _ _).drew hb2) | with_reducible exact hid (chn0 ((Below.refl _ _).alloc (Nat.le_refl _) _).drew hb2)); (try (have HAm := hid (ahead hb2))); (try (have m0 := HAm.out.cell 0)); (try (have mf0 := HAm.out.free 0)); (try (have m1 := HAm.out.cell 1)); (try (have mf1 := HAm.out.free 1)); (try (have m2 := HAm.out.cell 2)); (try (have mf2 := HAm.out.free 2)); (try (have m3 := HAm.out.cell 3)); (try (have mf3 := HAm.out.free 3)); (try (have m4 := HAm.out.cell 4)); (try (have mf4 := HAm.out.free 4)); (try (have m5 := HAm.out.cell 5)); (try (have mf5 := HAm.out.free 5)); clear hb2))
  all_goals
    obtain ⟨wf, hwf, BF, bm, hbm, MF, hle⟩ : ∃ wf, wf = w2.alloc (.cells #[.int .i64 m.a, .int .i64 m.b, .int .i64 m.c, .int .i64 m.d, .int .i64 m.e, .int .i64 m.f] 74) ∧ Below W0.heap.size W0 wf ∧ ∃ bm, bm = w2.heap.size ∧ At wf bm 74 #[.int .i64 m.a, .int .i64 m.b, .int .i64 m.c, .int .i64 m.d, .int .i64 m.e, .int .i64 m.f] ∧ W0.heap.size ≤ bm := ⟨_, rfl, B2.out.alloc B2.out.size _, _, rfl, At.new w2 _ _ rfl, B2.out.size⟩
    first
      | rw [← hwf, ← hbm]
      | (clear hwf BF MF hbm hle bm wf
         obtain ⟨wf, hwf, BF, bm, hbm, MF, hle⟩ : ∃ wf, wf = ((((((w2.setCell ⟨W0.heap.size, 0, none⟩ (.int .i64 m.a)).setCell ⟨W0.heap.size, 1, none⟩ (.int .i64 m.b)).setCell ⟨W0.heap.size, 2, none⟩ (.int .i64 m.c)).setCell ⟨W0.heap.size, 3, none⟩ (.int .i64 m.d)).setCell ⟨W0.heap.size, 4, none⟩ (.int .i64 m.e)).setCell ⟨W0.heap.size, 5, none⟩ (.int .i64 m.f)) ∧ Below W0.heap.size W0 wf ∧ ∃ bm, bm = W0.heap.size ∧ At wf bm 74 #[.int .i64 m.a, .int .i64 m.b, .int .i64 m.c, .int .i64 m.d, .int .i64 m.e, .int .i64 m.f] ∧ W0.heap.size ≤ bm := ⟨_, rfl, below6 B2.out (Nat.le_refl _) _ _ _ _ _ _, _, rfl, (putM_six HAm.out m.a m.b m.c m.d m.e m.f).2, Nat.le_refl _⟩
         rw [← hwf, ← hbm])
    clear hwf hbm
    try clear HAm
    have P1 := hid (P0.out.later BF)
    have G1 := hid (G0.out.later BF)
    have M1 := hid MF
    have BB := hid (chn0 B0.out BF)
    try clear m0 m1 m2 m3 m4 m5 mf0 mf1 mf2 mf3 mf4 mf5
    clear P0 G0 BF MF H0 C1 H1 B2 hle
    have C2 := hid (glyphAt_says m g)
    have H2 := hid hg
    clear hg
    have m0 := M1.out.cell 0
    have m1 := M1.out.cell 1
    have m2 := M1.out.cell 2
    have m3 := M1.out.cell 3
    have m4 := M1.out.cell 4
    have m5 := M1.out.cell 5
    have s0 := G1.out.cell 0
    have s1 := G1.out.cell 1
    have s2 := G1.out.cell 2
    simp at m0 m1 m2 m3 m4 m5 s0 s1 s2
    go_wp2_with (go_at_call 105; fail)
    go_at_call 105
    refine (C2.out _).mono ?_
    rintro e w3 ⟨hm, hb2⟩
    rw [H2.out] at hm
    cases (show e = .returned (.tuple #[.agg #[.string gl.s, .int .i64 gl.ax, .int .i64 gl.ay, .int .i64 gl.ex, .int .i64 gl.ey, .int .i64 gl.sz, .int .i64 gl.x0, .int .i64 gl.y0, .int .i64 gl.x1, .int .i64 gl.y1], .nilIface]) from hm)
    have B3 := hid hb2
    clear hm hb2 m0 m1 m2 m3 m4 m5 s0 s1 s2
    have P3 := hid (P1.out.later B3.out)
    have G3 := hid (G1.out.later B3.out)
    have c14 := P3.out.c 14
    have c34 := P3.out.c 34
    have zP := P3.out.at_.lt
    have rf := P3.out.at_.free
    simp at c14 c34
    clear P1 G1 M1
    go_wp2_with fail
    have A4 := hid (At.new w3 #[.string gl.s, .int .i64 gl.ax, .int .i64 gl.ay, .int .i64 gl.ex, .int .i64 gl.ey, .int .i64 p.now.size, .int .i64 gl.x0, .int .i64 gl.y0, .int .i64 gl.x1, .int .i64 gl.y1] 48 rfl)
    have P4 := hid (P3.out.alloc (.cells #[.string gl.s, .int .i64 gl.ax, .int .i64 gl.ay, .int .i64 gl.ex, .int .i64 gl.ey, .int .i64 p.now.size, .int .i64 gl.x0, .int .i64 gl.y0, .int .i64 gl.x1, .int .i64 gl.y1] 48))
    have G4 := hid (G3.out.alloc (.cells #[.string gl.s, .int .i64 gl.ax, .int .i64 gl.ay, .int .i64 gl.ex, .int .i64 gl.ey, .int .i64 p.now.size, .int .i64 gl.x0, .int .i64 gl.y0, .int .i64 gl.x1, .int .i64 gl.y1] 48))
    have B4 := hid ((chn0 BB.out B3.out).alloc (Nat.le_trans (by omega) (chn0 BB.out B3.out).size) (.cells #[.string gl.s, .int .i64 gl.ax, .int .i64 gl.ay, .int .i64 gl.ex, .int .i64 gl.ey, .int .i64 p.now.size, .int .i64 gl.x0, .int .i64 gl.y0, .int .i64 gl.x1, .int .i64 gl.y1] 48))
    clear c14 c34 zP rf P3 G3 B3
    generalize w3.alloc (.cells #[.string gl.s, .int .i64 gl.ax, .int .i64 gl.ay, .int .i64 gl.ex, .int .i64 gl.ey, .int .i64 p.now.size, .int .i64 gl.x0, .int .i64 gl.y0, .int .i64 gl.x1, .int .i64 gl.y1] 48) = W4 at A4 P4 G4 B4 ⊢
    generalize w3.heap.size = bg at A4 ⊢
    have c34 := P4.out.c 34
    have zP := P4.out.at_.lt
    have rf := P4.out.at_.free
    have e0 := A4.out.cell 0
    have e1 := A4.out.cell 1
    have e2 := A4.out.cell 2
    have e3 := A4.out.cell 3
    have e4 := A4.out.cell 4
    have e5 := A4.out.cell 5
    have e6 := A4.out.cell 6
    have e7 := A4.out.cell 7
    have e8 := A4.out.cell 8
    have e9 := A4.out.cell 9
    simp at c34 e0 e1 e2 e3 e4 e5 e6 e7 e8 e9
    obtain ⟨iV, hiV, hv0, hv1, hv2⟩ := info_parts infoGl
    obtain ⟨gn, hgn⟩ : ∃ gn : Gl, gn = { gl with sz := p.now.size } := ⟨_, rfl⟩
    have Hgn := hid hgn
    have HO := hid (one_gl gn)
    have hcs : Hid (gn.cs = [.string gl.s, .int .i64 gl.ax, .int .i64 gl.ay, .int .i64 gl.ex, .int .i64 gl.ey, .int .i64 p.now.size, .int .i64 gl.x0, .int .i64 gl.y0, .int .i64 gl.x1, .int .i64 gl.y1]) := hid (by rw [hgn]; rfl)
    clear hgn
    have HL := hid (show p.out.length < 1000 by omega)
    go_region_law ((refine stepOwn (by rfl) (.tmp 49) (.tmp 51) 30 (by rfl) K.B 48 iV _ 10 88 Tryz.underlying30 hiV hv0 hv1 hv2 rfl (by decide) _ _ _ (by rfl) (P4.out.ownG.alloc _) ⟨W4.heap.size, 0, none⟩ 1 1 gn.cs (by rfl) (by rw [hcs.out]; rfl) (fun j u hj => news_at (by rw [hcs.out]) j u hj) HO.out (by have := HL.out; unfold maxLen; omega) (by have := HL.out; omega) (by have := P4.out.bl; simp; omega) ?_; intro v' w5 hown2 hg2 hat2; obtain ⟨a', c', rfl⟩ := own_sliceO hown2; (have P5 := hid ((P4.out.alloc _).drew.pushG hown2 hg2 hat2)); (have A5 := P4.out.at_.grown P4.out.lt P4.out.ownG hg2); (have G5 := hid (grownG G4.out hg2 NG.out)); (have K5 := hid (KeepG.push (P := K.P) (z := 34) (v := .slice a' (p.out.length + 1) c') B4.out hg2)); (have N5 := hid (newG B4.out hat2)); (have d34 := A5.cell 34); (have e34 := A5.free 34); (have z5 := A5.lt); simp at d34))
    all_goals
      have G6 := hid (G5.out.other (b' := K.P) (o := 34) (v := .slice a' (p.out.length + 1) c') (by have := NP.out; omega))
      clear d34 e34 z5 A5 G5 hown2 hg2 hat2 c34 zP rf e0 e1 e2 e3 e4 e5 e6 e7 e8 e9 A4 P4 G4 B4
      generalize w5.setCell ⟨K.P, 34, none⟩ (.slice a' (p.out.length + 1) c') = W6 at P5 G6 K5 ⊢
      have s0 := G6.out.cell 0
      have s1 := G6.out.cell 1
      have s2 := G6.out.cell 2
      simp at s0 s1 s2
      have CA := hid (advance_says K { p with out := p.out ++ [gn] } tS (.slice a' (p.out.length + 1) c') g)
      have H0 := hid (show ∀ W, Below W6.heap.size W6 W → Below W6.heap.size W6 W ∧ W.cell? ⟨w.heap.size, 0, none⟩ = some (.int .i64 g.f) ∧ W.cell? ⟨w.heap.size, 1, none⟩ = some (.int .i64 g.t) ∧ W.cell? ⟨w.heap.size, 2, none⟩ = some (.string g.s) from fun W hW => ⟨hW, (G6.out.later hW).cell 0, (G6.out.later hW).cell 1, (G6.out.later hW).cell 2⟩)
      clear s0 s1 s2
      go_wp2_with fail
      cases r with
      | ok z =>
        go_region_held3 (fun (W : World) => Below W6.heap.size W6 W ∧ W.cell? ⟨w.heap.size, 0, none⟩ = some (.int .i64 g.f) ∧ W.cell? ⟨w.heap.size, 1, none⟩ = some (.int .i64 g.t) ∧ W.cell? ⟨w.heap.size, 2, none⟩ = some (.string g.s))
          (first | with_reducible exact H0.out _ (Below.refl _ _) | with_reducible exact H0.out _ (Below.refl _ _).drew | with_reducible exact H0.out _ B7.out)
          (first
            | (go_at_call 106; refine (CA.out _ (P5.out.later (by first | with_reducible exact Below.refl _ _ | with_reducible exact (Below.refl _ _).drew))).mono ?_; rintro e w7 ⟨hm, hb⟩; (have hm2 : NumA e (.ok z) := by rw [← HA.out]; exact hm); cases (show e = .returned (.tuple #[.int .i64 z, .nilIface]) from hm2); clear hm hm2; (have B7 : Hid (Below W6.heap.size W6 w7) := by first | with_reducible exact hid (chn0 (Below.refl _ _).drew hb) | with_reducible exact hid (chn0 (Below.refl _ _) hb)); clear hb))
        have P7 := hid (P5.out.later B7.out)
        have K7 := hid (K5.out.later B7.out)
        clear P5 G6 CA H0 B7
        go_wp2_with (go_at_call 107; refine (textAlong_keeps K _ tS _ z _ P7.out).mono ?_; intro e w8 h; obtain ⟨v, rfl⟩ := h.ret)
        go_ret
        rw [Hgn.out] at h
        exact h.gres K7.out N5.out
      | error k =>
        go_region_held3 (fun (W : World) => Below W6.heap.size W6 W ∧ W.cell? ⟨w.heap.size, 0, none⟩ = some (.int .i64 g.f) ∧ W.cell? ⟨w.heap.size, 1, none⟩ = some (.int .i64 g.t) ∧ W.cell? ⟨w.heap.size, 2, none⟩ = some (.string g.s))
          (first | with_reducible exact H0.out _ (Below.refl _ _) | with_reducible exact H0.out _ (Below.refl _ _).drew | with_reducible exact H0.out _ B7.out)
          (first
            | (go_at_call 106; refine (CA.out _ (P5.out.later (by first | with_reducible exact Below.refl _ _ | with_reducible exact (Below.refl _ _).drew))).mono ?_; rintro e w7 ⟨hm, hb⟩; (have hm2 : NumA e (.error k) := by rw [← HA.out]; exact hm); cases (show e = .returned (.tuple #[.int .i64 0, .iface 68 (.int .i64 k)]) from hm2); clear hm hm2; (have B7 : Hid (Below W6.heap.size W6 w7) := by first | with_reducible exact hid (chn0 (Below.refl _ _).drew hb) | with_reducible exact hid (chn0 (Below.refl _ _) hb)); clear hb))
        have P7 := hid (P5.out.later B7.out)
        have K7 := hid (K5.out.later B7.out)
        clear P5 G6 CA H0 B7
        go_wp2_with fail
        go_ret
        exact GRes.err rfl P7.out.keep
theorem showSign_says (K : Pk) (p : PS) (tS tG : Value) (g : Sp) (w : World) (hP : PAt K w p tS tG) (h9 : p.out.length ≤ 2000) :
    Calls Tryz.prog 88 #[.pointer (some ⟨K.P, 0, none⟩), .agg #[.int .i64 g.f, .int .i64 g.t, .string g.s]] w fun e w' => GRes K w tG e w' (signX p g) := by
  unfold signX
  by_cases h1 : 1000 ≤ p.out.length
  · rw [if_pos h1]
    exact showSign_many K p tS tG g w hP h1 h9
  · rw [if_neg h1]
    cases hp : placeX p.now p.t with
    | error k => exact showSign_place K p tS tG g w hP h1 k hp
    | ok m =>
      show Calls _ _ _ _ fun e w' => GRes K w tG e w' ((glyphX m g).bind _)
      cases hg : glyphX m g with
      | error k => exact showSign_glyph K p tS tG g w hP h1 m k hp hg
      | ok gl => exact showSign_gone K p tS tG g w hP h1 m gl _ hp hg rfl
end Go.Proofs.YtobpidmlgldnmaaGreatDoor

/-
  A painter: numbers are set.
-/
namespace Go.Proofs.YtobpidmlgldnmaaGreatDoor
open Go.RowKit Go.WideMaps Go.Maps
set_option maxRecDepth 100000

/-- A value that is held. -/
def heldR (v : Value) : Option (DataW Value × List MemPlace) := some (.held v, [])
/-- The setters, by their names. -/
def setF (n Pp : Nat) : Value := .func (.func n) #[] #[.pointer (some ⟨Pp, 0, none⟩)]
def setD (Pp : Nat) : DataW Value := (((((DataW.map []).put (.string [84, 99]) (.held (setF 35 Pp))).put (.string [84, 119]) (.held (setF 36 Pp))).put (.string [84, 122]) (.held (setF 37 Pp))).put (.string [84, 76]) (.held (setF 38 Pp))).put (.string [84, 115]) (.held (setF 39 Pp))
def SetAt (K : Pk) : Prop := ∃ mb Pp, K.sm = .map (some mb) ∧ mb < K.B ∧ mb ≠ K.P ∧ Pp < K.B ∧ Pp ≠ K.P ∧ K.wB.ownsMap Tryz.prog 9 heldR mb 5 (setD Pp) ∧ At K.wB Pp 69 #[.pointer (some ⟨K.P, 0, none⟩)]
def set1X (p : PS) (A : List V) : Ex PS := match numsX A 1 with
  | .ok [z] => .ok { p with now := { p.now with char := z } }
  | .ok _ => .error 8
  | .error k => .error k
theorem PAt.f1 {K : Pk} {w : World} {p : PS} {tS tG : Value} (h : PAt K w p tS tG) (z : Int) : PAt K (w.setCell ⟨K.P, 15, none⟩ (.int .i64 z)) { p with now := { p.now with char := z } } tS tG :=
  h.sets 15 [.int .i64 z] { p with now := { p.now with char := z } } rfl rfl rfl
theorem clos1_says (z : Int) (Pp P : Nat) (u : Int) (w : World) (v0 : w.cell? ⟨Pp, 0, none⟩ = some (.pointer (some ⟨P, 0, none⟩))) (c0 : w.cell? ⟨P, 15, none⟩ = some (.int .i64 u)) (f0 : w.frozen? ⟨P, 15, none⟩ = false) :
    Calls Tryz.prog 35 #[.int .i64 z, .pointer (some ⟨Pp, 0, none⟩)] w fun e w' => (∃ v, e = .returned v) ∧ w' = w.setCell ⟨P, 15, none⟩ (.int .i64 z) := by
  go_enter Tryz.func35, Tryz.ntmps35
  go_wp2
  go_end0
  exact ⟨⟨_, rfl⟩, rfl⟩
set_option maxHeartbeats 1000000 in
theorem setter1_says (K : Pk) (p : PS) (tS tG : Value) (d : Nat) (A : List V) (t : Value) (Pp : Nat) (w : World) (hP : PAt K w p tS tG) (hA : ArgsAt d w t A) (hV : At K.wB Pp 69 #[.pointer (some ⟨K.P, 0, none⟩)]) (hpB : Pp < K.B) (hpP : Pp ≠ K.P) :
    Calls Tryz.prog 40 #[setF 35 Pp, t] w fun e w' => PRes K e w' (set1X p A) := by
  have HN := hid (fun W (hB : Below w.heap.size w W) => (numbers_says d A t 1 W (hA.later hB) (by omega) : Calls Tryz.prog 68 #[t, .int .i64 1] W _))
  have HP := hid hP
  have zP := hP.at_.lt
  have HV := hid (show At w Pp 69 #[.pointer (some ⟨K.P, 0, none⟩)] from (hP.fix Pp hpB hpP).trans hV)
  clear hP hA hV
  unfold setF
  go_enter Tryz.func40, Tryz.ntmps40
  go_wp2_with (go_at_call 68; fail)
  go_at_call 68
  refine (HN.out _ (by go_grown)).mono ?_
  rintro e w1 ⟨hr, hb1⟩
  have P1 := hid (HP.out.later hb1)
  have V1 := HV.out.later hb1
  clear HN HP HV
  rcases nums1 hr with ⟨hq, rfl⟩ | ⟨z, g, hq, _, rfl, hg, hgl, k0⟩
  · have this : set1X p A = .error 8 := by unfold set1X; rw [hq]
    unfold errV
    clear hr
    go_wp2_with fail
    go_ret
    rw [this]
    exact PRes.err rfl P1.out.keep
  · have this : set1X p A = .ok { p with now := { p.now with char := z } } := by unfold set1X; rw [hq]
    have THIS := hid this
    have c15 := P1.out.c 15
    have f15 := P1.out.at_.free 15
    have z1 := P1.out.at_.lt
    have v0 := V1.cell 0
    have z2 := V1.lt
    simp at c15 v0
    clear hr hq this
    go_wp2_with (go_at_call 35; refine (clos1_says z Pp K.P _ _ v0 c15 f15).mono ?_; rintro e w9 ⟨⟨v, rfl⟩, rfl⟩)
    go_ret
    rw [THIS.out]
    exact PRes.done rfl (P1.out.f1 _)
def set2X (p : PS) (A : List V) : Ex PS := match numsX A 1 with
  | .ok [z] => .ok { p with now := { p.now with word := z } }
  | .ok _ => .error 8
  | .error k => .error k
theorem PAt.f2 {K : Pk} {w : World} {p : PS} {tS tG : Value} (h : PAt K w p tS tG) (z : Int) : PAt K (w.setCell ⟨K.P, 16, none⟩ (.int .i64 z)) { p with now := { p.now with word := z } } tS tG :=
  h.sets 16 [.int .i64 z] { p with now := { p.now with word := z } } rfl rfl rfl
theorem clos2_says (z : Int) (Pp P : Nat) (u : Int) (w : World) (v0 : w.cell? ⟨Pp, 0, none⟩ = some (.pointer (some ⟨P, 0, none⟩))) (c0 : w.cell? ⟨P, 16, none⟩ = some (.int .i64 u)) (f0 : w.frozen? ⟨P, 16, none⟩ = false) :
    Calls Tryz.prog 36 #[.int .i64 z, .pointer (some ⟨Pp, 0, none⟩)] w fun e w' => (∃ v, e = .returned v) ∧ w' = w.setCell ⟨P, 16, none⟩ (.int .i64 z) := by
  go_enter Tryz.func36, Tryz.ntmps36
  go_wp2
  go_end0
  exact ⟨⟨_, rfl⟩, rfl⟩
set_option maxHeartbeats 1000000 in
theorem setter2_says (K : Pk) (p : PS) (tS tG : Value) (d : Nat) (A : List V) (t : Value) (Pp : Nat) (w : World) (hP : PAt K w p tS tG) (hA : ArgsAt d w t A) (hV : At K.wB Pp 69 #[.pointer (some ⟨K.P, 0, none⟩)]) (hpB : Pp < K.B) (hpP : Pp ≠ K.P) :
    Calls Tryz.prog 40 #[setF 36 Pp, t] w fun e w' => PRes K e w' (set2X p A) := by
  have HN := hid (fun W (hB : Below w.heap.size w W) => (numbers_says d A t 1 W (hA.later hB) (by omega) : Calls Tryz.prog 68 #[t, .int .i64 1] W _))
  have HP := hid hP
  have zP := hP.at_.lt
  have HV := hid (show At w Pp 69 #[.pointer (some ⟨K.P, 0, none⟩)] from (hP.fix Pp hpB hpP).trans hV)
  clear hP hA hV
  unfold setF
  go_enter Tryz.func40, Tryz.ntmps40
  go_wp2_with (go_at_call 68; fail)
  go_at_call 68
  refine (HN.out _ (by go_grown)).mono ?_
  rintro e w1 ⟨hr, hb1⟩
  have P1 := hid (HP.out.later hb1)
  have V1 := HV.out.later hb1
  clear HN HP HV
  rcases nums1 hr with ⟨hq, rfl⟩ | ⟨z, g, hq, _, rfl, hg, hgl, k0⟩
  · have this : set2X p A = .error 8 := by unfold set2X; rw [hq]
    unfold errV
    clear hr
    go_wp2_with fail
    go_ret
    rw [this]
    exact PRes.err rfl P1.out.keep
  · have this : set2X p A = .ok { p with now := { p.now with word := z } } := by unfold set2X; rw [hq]
    have THIS := hid this
    have c16 := P1.out.c 16
    have f16 := P1.out.at_.free 16
    have z1 := P1.out.at_.lt
    have v0 := V1.cell 0
    have z2 := V1.lt
    simp at c16 v0
    clear hr hq this
    go_wp2_with (go_at_call 36; refine (clos2_says z Pp K.P _ _ v0 c16 f16).mono ?_; rintro e w9 ⟨⟨v, rfl⟩, rfl⟩)
    go_ret
    rw [THIS.out]
    exact PRes.done rfl (P1.out.f2 _)
def set3X (p : PS) (A : List V) : Ex PS := match numsX A 1 with
  | .ok [z] => .ok { p with now := { p.now with scale := (wrap64 (Int.tdiv z 100)) } }
  | .ok _ => .error 8
  | .error k => .error k
theorem PAt.f3 {K : Pk} {w : World} {p : PS} {tS tG : Value} (h : PAt K w p tS tG) (z : Int) : PAt K (w.setCell ⟨K.P, 17, none⟩ (.int .i64 z)) { p with now := { p.now with scale := z } } tS tG :=
  h.sets 17 [.int .i64 z] { p with now := { p.now with scale := z } } rfl rfl rfl
theorem clos3_says (z : Int) (Pp P : Nat) (u : Int) (w : World) (v0 : w.cell? ⟨Pp, 0, none⟩ = some (.pointer (some ⟨P, 0, none⟩))) (c0 : w.cell? ⟨P, 17, none⟩ = some (.int .i64 u)) (f0 : w.frozen? ⟨P, 17, none⟩ = false) :
    Calls Tryz.prog 37 #[.int .i64 z, .pointer (some ⟨Pp, 0, none⟩)] w fun e w' => (∃ v, e = .returned v) ∧ w' = w.setCell ⟨P, 17, none⟩ (.int .i64 (wrap64 (Int.tdiv z 100))) := by
  go_enter Tryz.func37, Tryz.ntmps37
  go_wp2
  go_end0
  exact ⟨⟨_, rfl⟩, rfl⟩
set_option maxHeartbeats 1000000 in
theorem setter3_says (K : Pk) (p : PS) (tS tG : Value) (d : Nat) (A : List V) (t : Value) (Pp : Nat) (w : World) (hP : PAt K w p tS tG) (hA : ArgsAt d w t A) (hV : At K.wB Pp 69 #[.pointer (some ⟨K.P, 0, none⟩)]) (hpB : Pp < K.B) (hpP : Pp ≠ K.P) :
    Calls Tryz.prog 40 #[setF 37 Pp, t] w fun e w' => PRes K e w' (set3X p A) := by
  have HN := hid (fun W (hB : Below w.heap.size w W) => (numbers_says d A t 1 W (hA.later hB) (by omega) : Calls Tryz.prog 68 #[t, .int .i64 1] W _))
  have HP := hid hP
  have zP := hP.at_.lt
  have HV := hid (show At w Pp 69 #[.pointer (some ⟨K.P, 0, none⟩)] from (hP.fix Pp hpB hpP).trans hV)
  clear hP hA hV
  unfold setF
  go_enter Tryz.func40, Tryz.ntmps40
  go_wp2_with (go_at_call 68; fail)
  go_at_call 68
  refine (HN.out _ (by go_grown)).mono ?_
  rintro e w1 ⟨hr, hb1⟩
  have P1 := hid (HP.out.later hb1)
  have V1 := HV.out.later hb1
  clear HN HP HV
  rcases nums1 hr with ⟨hq, rfl⟩ | ⟨z, g, hq, _, rfl, hg, hgl, k0⟩
  · have this : set3X p A = .error 8 := by unfold set3X; rw [hq]
    unfold errV
    clear hr
    go_wp2_with fail
    go_ret
    rw [this]
    exact PRes.err rfl P1.out.keep
  · have this : set3X p A = .ok { p with now := { p.now with scale := (wrap64 (Int.tdiv z 100)) } } := by unfold set3X; rw [hq]
    have THIS := hid this
    have c17 := P1.out.c 17
    have f17 := P1.out.at_.free 17
    have z1 := P1.out.at_.lt
    have v0 := V1.cell 0
    have z2 := V1.lt
    simp at c17 v0
    clear hr hq this
    go_wp2_with (go_at_call 37; refine (clos3_says z Pp K.P _ _ v0 c17 f17).mono ?_; rintro e w9 ⟨⟨v, rfl⟩, rfl⟩)
    go_ret
    rw [THIS.out]
    exact PRes.done rfl (P1.out.f3 _)
def set4X (p : PS) (A : List V) : Ex PS := match numsX A 1 with
  | .ok [z] => .ok { p with now := { p.now with lead := z } }
  | .ok _ => .error 8
  | .error k => .error k
theorem PAt.f4 {K : Pk} {w : World} {p : PS} {tS tG : Value} (h : PAt K w p tS tG) (z : Int) : PAt K (w.setCell ⟨K.P, 18, none⟩ (.int .i64 z)) { p with now := { p.now with lead := z } } tS tG :=
  h.sets 18 [.int .i64 z] { p with now := { p.now with lead := z } } rfl rfl rfl
theorem clos4_says (z : Int) (Pp P : Nat) (u : Int) (w : World) (v0 : w.cell? ⟨Pp, 0, none⟩ = some (.pointer (some ⟨P, 0, none⟩))) (c0 : w.cell? ⟨P, 18, none⟩ = some (.int .i64 u)) (f0 : w.frozen? ⟨P, 18, none⟩ = false) :
    Calls Tryz.prog 38 #[.int .i64 z, .pointer (some ⟨Pp, 0, none⟩)] w fun e w' => (∃ v, e = .returned v) ∧ w' = w.setCell ⟨P, 18, none⟩ (.int .i64 z) := by
  go_enter Tryz.func38, Tryz.ntmps38
  go_wp2
  go_end0
  exact ⟨⟨_, rfl⟩, rfl⟩
set_option maxHeartbeats 1000000 in
theorem setter4_says (K : Pk) (p : PS) (tS tG : Value) (d : Nat) (A : List V) (t : Value) (Pp : Nat) (w : World) (hP : PAt K w p tS tG) (hA : ArgsAt d w t A) (hV : At K.wB Pp 69 #[.pointer (some ⟨K.P, 0, none⟩)]) (hpB : Pp < K.B) (hpP : Pp ≠ K.P) :
    Calls Tryz.prog 40 #[setF 38 Pp, t] w fun e w' => PRes K e w' (set4X p A) := by
  have HN := hid (fun W (hB : Below w.heap.size w W) => (numbers_says d A t 1 W (hA.later hB) (by omega) : Calls Tryz.prog 68 #[t, .int .i64 1] W _))
  have HP := hid hP
  have zP := hP.at_.lt
  have HV := hid (show At w Pp 69 #[.pointer (some ⟨K.P, 0, none⟩)] from (hP.fix Pp hpB hpP).trans hV)
  clear hP hA hV
  unfold setF
  go_enter Tryz.func40, Tryz.ntmps40
  go_wp2_with (go_at_call 68; fail)
  go_at_call 68
  refine (HN.out _ (by go_grown)).mono ?_
  rintro e w1 ⟨hr, hb1⟩
  have P1 := hid (HP.out.later hb1)
  have V1 := HV.out.later hb1
  clear HN HP HV
  rcases nums1 hr with ⟨hq, rfl⟩ | ⟨z, g, hq, _, rfl, hg, hgl, k0⟩
  · have this : set4X p A = .error 8 := by unfold set4X; rw [hq]
    unfold errV
    clear hr
    go_wp2_with fail
    go_ret
    rw [this]
    exact PRes.err rfl P1.out.keep
  · have this : set4X p A = .ok { p with now := { p.now with lead := z } } := by unfold set4X; rw [hq]
    have THIS := hid this
    have c18 := P1.out.c 18
    have f18 := P1.out.at_.free 18
    have z1 := P1.out.at_.lt
    have v0 := V1.cell 0
    have z2 := V1.lt
    simp at c18 v0
    clear hr hq this
    go_wp2_with (go_at_call 38; refine (clos4_says z Pp K.P _ _ v0 c18 f18).mono ?_; rintro e w9 ⟨⟨v, rfl⟩, rfl⟩)
    go_ret
    rw [THIS.out]
    exact PRes.done rfl (P1.out.f4 _)
def set5X (p : PS) (A : List V) : Ex PS := match numsX A 1 with
  | .ok [z] => .ok { p with now := { p.now with rise := z } }
  | .ok _ => .error 8
  | .error k => .error k
theorem PAt.f5 {K : Pk} {w : World} {p : PS} {tS tG : Value} (h : PAt K w p tS tG) (z : Int) : PAt K (w.setCell ⟨K.P, 19, none⟩ (.int .i64 z)) { p with now := { p.now with rise := z } } tS tG :=
  h.sets 19 [.int .i64 z] { p with now := { p.now with rise := z } } rfl rfl rfl
theorem clos5_says (z : Int) (Pp P : Nat) (u : Int) (w : World) (v0 : w.cell? ⟨Pp, 0, none⟩ = some (.pointer (some ⟨P, 0, none⟩))) (c0 : w.cell? ⟨P, 19, none⟩ = some (.int .i64 u)) (f0 : w.frozen? ⟨P, 19, none⟩ = false) :
    Calls Tryz.prog 39 #[.int .i64 z, .pointer (some ⟨Pp, 0, none⟩)] w fun e w' => (∃ v, e = .returned v) ∧ w' = w.setCell ⟨P, 19, none⟩ (.int .i64 z) := by
  go_enter Tryz.func39, Tryz.ntmps39
  go_wp2
  go_end0
  exact ⟨⟨_, rfl⟩, rfl⟩
set_option maxHeartbeats 1000000 in
theorem setter5_says (K : Pk) (p : PS) (tS tG : Value) (d : Nat) (A : List V) (t : Value) (Pp : Nat) (w : World) (hP : PAt K w p tS tG) (hA : ArgsAt d w t A) (hV : At K.wB Pp 69 #[.pointer (some ⟨K.P, 0, none⟩)]) (hpB : Pp < K.B) (hpP : Pp ≠ K.P) :
    Calls Tryz.prog 40 #[setF 39 Pp, t] w fun e w' => PRes K e w' (set5X p A) := by
  have HN := hid (fun W (hB : Below w.heap.size w W) => (numbers_says d A t 1 W (hA.later hB) (by omega) : Calls Tryz.prog 68 #[t, .int .i64 1] W _))
  have HP := hid hP
  have zP := hP.at_.lt
  have HV := hid (show At w Pp 69 #[.pointer (some ⟨K.P, 0, none⟩)] from (hP.fix Pp hpB hpP).trans hV)
  clear hP hA hV
  unfold setF
  go_enter Tryz.func40, Tryz.ntmps40
  go_wp2_with (go_at_call 68; fail)
  go_at_call 68
  refine (HN.out _ (by go_grown)).mono ?_
  rintro e w1 ⟨hr, hb1⟩
  have P1 := hid (HP.out.later hb1)
  have V1 := HV.out.later hb1
  clear HN HP HV
  rcases nums1 hr with ⟨hq, rfl⟩ | ⟨z, g, hq, _, rfl, hg, hgl, k0⟩
  · have this : set5X p A = .error 8 := by unfold set5X; rw [hq]
    unfold errV
    clear hr
    go_wp2_with fail
    go_ret
    rw [this]
    exact PRes.err rfl P1.out.keep
  · have this : set5X p A = .ok { p with now := { p.now with rise := z } } := by unfold set5X; rw [hq]
    have THIS := hid this
    have c19 := P1.out.c 19
    have f19 := P1.out.at_.free 19
    have z1 := P1.out.at_.lt
    have v0 := V1.cell 0
    have z2 := V1.lt
    simp at c19 v0
    clear hr hq this
    go_wp2_with (go_at_call 39; refine (clos5_says z Pp K.P _ _ v0 c19 f19).mono ?_; rintro e w9 ⟨⟨v, rfl⟩, rfl⟩)
    go_ret
    rw [THIS.out]
    exact PRes.done rfl (P1.out.f5 _)
end Go.Proofs.YtobpidmlgldnmaaGreatDoor

/-
  A painter: states are taken back.
-/
namespace Go.Proofs.YtobpidmlgldnmaaGreatDoor
open Go.RowKit
set_option maxRecDepth 100000

/-- A state is stored, or loaded: one step. -/
def putSt (p v : Value) : Sem Unit := Instr.storeAt 76 p v
theorem putSt_eq (p v : Value) : Instr.storeAt 76 p v = putSt p v := rfl
def getSt (p : Value) : Sem Value := Instr.loadAt 76 p
theorem getSt_eq (p : Value) : Instr.loadAt 76 p = getSt p := rfl
attribute [local go_sem ↓] putSt_eq getSt_eq
theorem shrinkRow {w : World} {B : Nat} {T : TypeId} {z n g c : Nat} {xs ys : List Value} (h : w.ownsRow B T z (.slice (some ⟨g, 0, none⟩) (n + 1) c) (n + 1) (xs ++ ys)) (hl : xs.length = n * z) : w.ownsRow B T z (.slice (some ⟨g, 0, none⟩) n c) n xs := by
  refine ⟨hl, .inr ?_⟩
  rcases h.2 with ⟨hq, _⟩ | ⟨g', cap, cur, hq, hb, hg, hc, hm, hs, ht⟩
  · cases hq
  · cases hq
    refine ⟨g, c, cur, rfl, hb, hg, by omega, hm, hs, ?_⟩
    have e := congrArg (List.take (n * z)) ht
    rw [List.take_take, List.take_append_of_le_length (by omega), List.take_of_length_le (l := xs) (by omega)] at e
    rw [← e]
    congr 1
    have : n * z ≤ (n + 1) * z := Nat.mul_le_mul_right z (by omega)
    omega
theorem lastRow {w : World} {B n g c z : Nat} {T : TypeId} {xs ys : List Value} (h : w.ownsRow B T z (.slice (some ⟨g, 0, none⟩) (n + 1) c) (n + 1) (xs ++ ys)) (hl : xs.length = n * z) (i : Nat) (hi : i < z) : w.cell? ⟨g, n * z + i, none⟩ = ys[i]? := by
  rw [h.cellAt _ (by rw [Nat.add_mul]; omega), List.getElem?_append_right (by omega), hl, show n * z + i - n * z = i by omega]
theorem flatS_len : ∀ I : List StP, (flatS I).length = I.length * 18
  | [] => rfl
  | a :: l => by
    have ih := flatS_len l
    have e : flatS (a :: l) = a.cs ++ flatS l := rfl
    rw [e, List.length_append, ih, List.length_cons]
    simp [StP.cs]; omega
set_option maxHeartbeats 4000000 in
theorem PAt.back {K : Pk} {w : World} {p : PS} {tS tG : Value} (h : PAt K w p tS tG) (I : List StP) (s : StP) (g c : Nat) (hs : p.saved = I ++ [s]) (ht : tS = .slice (some ⟨g, 0, none⟩) (I.length + 1) c) :
    PAt K ((w.setCells K.P 2 s.cs).setCell ⟨K.P, 20, none⟩ (.slice (some ⟨g, 0, none⟩) I.length c)) { p with now := s, saved := I } (.slice (some ⟨g, 0, none⟩) I.length c) tG := by
  have hl := flatS_len I
  have h1 : PAt K (w.setCells K.P 2 s.cs) { p with now := s } tS tG := h.sets 2 s.cs { p with now := s } rfl rfl rfl
  generalize w.setCells K.P 2 s.cs = w1 at h1 ⊢
  have kb : KeepBut K.P w1 (w1.setCell ⟨K.P, 20, none⟩ (.slice (some ⟨g, 0, none⟩) I.length c)) := (KeepBut.refl _ _).set 20 _
  have kg : w1.grownBy (w1.setCell ⟨K.P, 20, none⟩ (.slice (some ⟨g, 0, none⟩) I.length c)) (some K.P) := ⟨kb.os, kb.tape, kb.output, kb.size, fun i hi hn => kb.block i hi (fun e => hn (by rw [e]))⟩
  have o1 := h1.ownS
  simp only [hs, ht, flatS_snoc, List.length_append, List.length_cons, List.length_nil, Nat.zero_add] at o1
  have o2 := shrinkRow o1 hl
  refine ⟨heap_setCell_same w1 K.P 20 _ _ _ h1.at_, h.le, h.lt, Nat.le_trans h1.bl kb.size, kb.below h1.keep h.le, ?_, ?_, ?_, fun i hi hn => (kb.block i (Nat.lt_of_lt_of_le hi h1.bl) hn).trans (h1.fix i hi hn)⟩
  · exact World.ownsRow.kept o2 kg (.inr fun e => by have := (o2.lt K.P e).1; have := h.lt; omega)
  · exact World.ownsRow.kept h1.ownG kg (.inr fun e => by have := (h1.ownG.lt K.P e).1; have := h.lt; omega)
  · intro g' e1 e2
    exact h1.apart g' (by rw [ht]; exact e1) e2
set_option maxHeartbeats 8000000 in
theorem takeBack_says (K : Pk) (p : PS) (tS tG : Value) (A : List V) (a : Option Addr) (c : Nat) (w : World) (hP : PAt K w p tS tG) (hA : A.length ≤ maxLen) (hx : ∀ s ∈ p.saved, s.x.one) :
    Calls Tryz.prog 42 #[.pointer (some ⟨K.P, 0, none⟩), .slice a A.length c] w fun e w' => PRes K e w' (takeX p A) := by
  unfold maxLen at hA
  have HP := hid hP
  have c20 := hP.c 20
  simp at c20
  have zP := hP.at_.lt
  rcases List.eq_nil_or_concat p.saved with hs | ⟨I, s, hs⟩
  · have this : takeX p A = .error 10 := by unfold takeX; rw [hs]; rfl
    rw [this]
    obtain ⟨aS, cS, rfl⟩ : ∃ a c, tS = .slice a 0 c := by
      rcases hP.ownS.2 with ⟨rfl, h0⟩ | ⟨g, cap, cur, rfl, _⟩
      · exact ⟨none, 0, rfl⟩
      · exact ⟨_, cap, by rw [hs]; rfl⟩
    clear this hP
    go_enter Tryz.func42, Tryz.ntmps42
    go_wp2_with fail
    go_ret
    exact PRes.err rfl HP.out.keep
  · rw [List.concat_eq_append] at hs
    have ho := hP.ownS
    rw [hs, flatS_snoc, List.length_append] at ho
    obtain ⟨g, cS, hT, hgB, hgl⟩ := own_some ho (by simp)
    simp only [List.length_cons, List.length_nil, Nat.zero_add] at hT ho
    subst hT
    have hl := flatS_len I
    have hx := hx s (by rw [hs]; simp)
    have hn8 := hP.ownS.2
    have hlen : I.length + 1 ≤ 9223372036854775807 := by
      rcases ho.2 with ⟨hq, _⟩ | ⟨_, _, _, hq, _, _, h5, h6, _⟩
      · cases hq
      · cases hq; unfold maxLen at h6; omega
    have hcap : I.length + 1 ≤ cS := by
      rcases ho.2 with ⟨hq, _⟩ | ⟨_, _, _, hq, _, _, h5, _⟩
      · cases hq
      · cases hq; exact h5
    by_cases h0 : A.length = 0
    · have this : takeX p A = .ok { p with now := s, saved := I } := by unfold takeX; rw [hs]; simp [h0]
      rw [this, h0]
      have HB := hid (HP.out.back I s g cS hs rfl)
      have hr : w.rangeAt g (I.length * 18) s.cs := fun j v hv => by
        have hj : j < 18 := by have := (List.getElem?_eq_some_iff.1 hv).1; simpa [StP.cs] using this
        rw [lastRow ho hl j hj]; exact hv
      have hld : (getSt (.pointer (some ⟨g, I.length * 18, none⟩))).run Tryz.prog w.drew = .ok (.agg s.cs.toArray) w.drew := run_loadAt_mid w.drew g (I.length * 18) 76 s.cs _ (by simpa using hr) Tryz.underlying76 rfl (by kernel_rfl)
      have h1 : PAt K (w.drew.setCells K.P 2 s.cs) { p with now := s } (.slice (some ⟨g, 0, none⟩) (I.length + 1) cS) tG := HP.out.drew.sets 2 s.cs { p with now := s } rfl rfl rfl
      have hst : (putSt (.pointer (some ⟨K.P, 2, none⟩)) (.agg s.cs.toArray)).run Tryz.prog w.drew = .ok () (w.drew.setCells K.P 2 s.cs) := run_storeAt_mid (P := Tryz.prog) w.drew K.P 2 76 s.cs.toArray (HP.out.drew.at_.there (by simp [StP.cs])) (by kernel_rfl) (all_oneCell_toArray (one_cs s hx.1 hx.2.1 hx.2.2))
      have d20 := h1.c 20
      have f20 := h1.at_.free 20
      have z1 := h1.at_.lt
      simp at d20
      have HB := hid (HP.out.drew.back I s g cS hs rfl)
      have rf := HP.out.at_.free
      clear this hP ho hl hn8 h1 hr
      generalize s.cs = S at hld hst d20 f20 z1 HB
      have e1 : ((I.length : Int) + 1 - 1) = I.length := by omega
      have e2 : (I.length : Int) ≤ cS := by omega
      go_enter Tryz.func42, Tryz.ntmps42
      go_wp2_with fail
      go_region
      all_goals
        go_wp2_with fail
        go_ret
        exact PRes.done rfl HB.out
    · have this : takeX p A = .error 8 := by unfold takeX; rw [hs]; simp [h0]
      rw [this]
      have h3 : (0 : Int) < A.length := by omega
      clear this hP ho
      go_enter Tryz.func42, Tryz.ntmps42
      go_wp2_with fail
      go_ret
      exact PRes.err rfl HP.out.keep
end Go.Proofs.YtobpidmlgldnmaaGreatDoor
