/-
  Joined: Ve4, Ve5.
-/
import Derived.Test.YtidillbpoklnjaaDoorVe3
import Derived.Test.YtidillbpoklnjaaDoorVd5
import Derived.Deep.RegionHeld3
import Derived.Deep.MidRow

/-
  A field that is set: the program's own answer: two copies first.
-/
namespace Go.Proofs.YtidillbpoklnjaaDoor
open Go.RowKit
set_option maxRecDepth 100000
attribute [local go_sem ↓] Go.wp_at_zero Go.wp_at_succ

/-- A struct of five stored into a block. -/
def store5 (w : World) (b : Nat) (a0 a1 a2 a3 a4 : Value) : World := ((((w.setCell ⟨b, 0, none⟩ a0).setCell ⟨b, 1, none⟩ a1).setCell ⟨b, 2, none⟩ a2).setCell ⟨b, 3, none⟩ a3).setCell ⟨b, 4, none⟩ a4
theorem store5_at {w : World} {b : Nat} {t : TypeId} {c0 c1 c2 c3 c4 : Value} (h : At w b t #[c0, c1, c2, c3, c4]) (a0 a1 a2 a3 a4 : Value) : At (store5 w b a0 a1 a2 a3 a4) b t #[a0, a1, a2, a3, a4] := by
  unfold At store5 at *
  simp [World.setCell, Array.getElem?_modify, h]
theorem store5_other {w : World} {b k : Nat} (h : k ≠ b) (a0 a1 a2 a3 a4 : Value) : (store5 w b a0 a1 a2 a3 a4).heap[k]? = w.heap[k]? := by
  unfold store5
  rw [Below.heap_setCell _ _ _ _ (by simpa using h), Below.heap_setCell _ _ _ _ (by simpa using h), Below.heap_setCell _ _ _ _ (by simpa using h), Below.heap_setCell _ _ _ _ (by simpa using h), Below.heap_setCell _ _ _ _ (by simpa using h)]
theorem store5_size (w : World) (b : Nat) (a0 a1 a2 a3 a4 : Value) : (store5 w b a0 a1 a2 a3 a4).heap.size = w.heap.size := by simp [store5, World.setCell]
theorem store5_below {B b : Nat} {a w : World} (h : Below B a w) (hb : B ≤ b) (a0 a1 a2 a3 a4 : Value) : Below B a (store5 w b a0 a1 a2 a3 a4) :=
  ((((h.setCell (p := ⟨b, 0, none⟩) hb a0).setCell (p := ⟨b, 1, none⟩) hb a1).setCell (p := ⟨b, 2, none⟩) hb a2).setCell (p := ⟨b, 3, none⟩) hb a3).setCell (p := ⟨b, 4, none⟩) hb a4
/-- Both have been copied. -/
structure Two (e : Nat) (w : World) (S1 : Nat) (name : ByteArray) (v x : V) (al3 af3 al4 af4 : Option Addr) (cl3 cf3 cl4 cf4 : Nat) (wx : World) : Prop where
  bv : At wx w.heap.size 64 #[.int .i64 v.k, .int .i64 v.n, .string v.s, .slice al3 v.l.length cl3, .slice af3 v.f.length cf3]
  bn : At wx (w.heap.size + 1) 9 #[.string name]
  bx : At wx (w.heap.size + 1 + 1) 64 #[.int .i64 x.k, .int .i64 x.n, .string x.s, .slice al4 x.l.length cl4, .slice af4 x.f.length cf4]
  br : At wx (w.heap.size + 1 + 1 + 1) 64 #[.int .i64 0, .int .i64 0, .string ⟨#[]⟩, .slice none 0 0, .slice none 0 0]
  gv : RepG (e + 1) (w.heap.size + 1 + 1 + 1 + 1) wx v [.int .i64 v.k, .int .i64 v.n, .string v.s, .slice al3 v.l.length cl3, .slice af3 v.f.length cf3]
  lv : ∀ g cap n, Value.slice af3 v.f.length cf3 = .slice (some ⟨g, 0, none⟩) n cap → 0 < v.f.length → g < S1
  gx : RepG (e + 1) S1 wx x [.int .i64 x.k, .int .i64 x.n, .string x.s, .slice al4 x.l.length cl4, .slice af4 x.f.length cf4]
  below : Below w.heap.size w wx
  size : S1 ≤ wx.heap.size
  low : w.heap.size + 1 + 1 + 1 + 1 ≤ S1
theorem Two.drew {e : Nat} {w : World} {S1 : Nat} {name : ByteArray} {v x : V} {al3 af3 al4 af4 : Option Addr} {cl3 cf3 cl4 cf4 : Nat} {wx : World} (h : Two e w S1 name v x al3 af3 al4 af4 cl3 cf3 cl4 cf4 wx) : Two e w S1 name v x al3 af3 al4 af4 cl3 cf3 cl4 cf4 wx.drew :=
  ⟨h.bv, h.bn, h.bx, h.br, h.gv.same (Nat.le_refl _) (fun _ _ _ => rfl), h.lv, h.gx.same (Nat.le_refl _) (fun _ _ _ => rfl), h.below.drew, h.size, h.low⟩
theorem two_of {e : Nat} {w wb w1 w2 : World} {name : ByteArray} {v x : V} {al af al2 af2 al3 af3 al4 af4 : Option Addr} {cl cf cl2 cf2 cl3 cf3 cl4 cf4 : Nat} (hbw : Below w.heap.size w wb) (hws : wb.heap.size = w.heap.size + 1 + 1 + 1 + 1)
    (A1 : At wb w.heap.size 64 #[.int .i64 v.k, .int .i64 v.n, .string v.s, .slice al v.l.length cl, .slice af v.f.length cf]) (A2 : At wb (w.heap.size + 1) 9 #[.string name]) (A3 : At wb (w.heap.size + 1 + 1) 64 #[.int .i64 x.k, .int .i64 x.n, .string x.s, .slice al2 x.l.length cl2, .slice af2 x.f.length cf2]) (A4 : At wb (w.heap.size + 1 + 1 + 1) 64 #[.int .i64 0, .int .i64 0, .string ⟨#[]⟩, .slice none 0 0, .slice none 0 0])
    (h1 : Below wb.heap.size wb w1) (g1 : RepG (e + 1) wb.heap.size w1 v [.int .i64 v.k, .int .i64 v.n, .string v.s, .slice al3 v.l.length cl3, .slice af3 v.f.length cf3]) (h2 : Below w1.heap.size w1 w2) (g2 : RepG (e + 1) w1.heap.size w2 x [.int .i64 x.k, .int .i64 x.n, .string x.s, .slice al4 x.l.length cl4, .slice af4 x.f.length cf4]) :
    Two e w w1.heap.size name v x al3 af3 al4 af4 cl3 cf3 cl4 cf4 (store5 (store5 w2 w.heap.size (.int .i64 v.k) (.int .i64 v.n) (.string v.s) (.slice al3 v.l.length cl3) (.slice af3 v.f.length cf3)) (w.heap.size + 1 + 1) (.int .i64 x.k) (.int .i64 x.n) (.string x.s) (.slice al4 x.l.length cl4) (.slice af4 x.f.length cf4)) := by
  have h12 : Below wb.heap.size wb w2 := h1.trans (h2.mono h1.size)
  have oth : ∀ k, k ≠ w.heap.size → k ≠ w.heap.size + 1 + 1 → (store5 (store5 w2 w.heap.size (.int .i64 v.k) (.int .i64 v.n) (.string v.s) (.slice al3 v.l.length cl3) (.slice af3 v.f.length cf3)) (w.heap.size + 1 + 1) (.int .i64 x.k) (.int .i64 x.n) (.string x.s) (.slice al4 x.l.length cl4) (.slice af4 x.f.length cf4)).heap[k]? = w2.heap[k]? := fun k n1 n2 => by
    rw [store5_other n2, store5_other n1]
  have hs1 := h1.size
  have hs2 := h2.size
  refine ⟨?_, ?_, ?_, ?_, ?_, ?_, ?_, ?_, ?_, by omega⟩
  · exact (store5_other (by omega) _ _ _ _ _).trans (store5_at (A1.later h12) _ _ _ _ _)
  · exact (oth _ (by omega) (by omega)).trans (A2.later h12)
  · exact store5_at (show At _ _ _ _ from (store5_other (by omega) _ _ _ _ _).trans (A3.later h12)) _ _ _ _ _
  · exact (oth _ (by omega) (by omega)).trans (A4.later h12)
  · rw [← hws]
    exact (g1.later h2).same (by rw [store5_size, store5_size]; exact Nat.le_refl _) (fun b hb _ => oth b (by omega) (by omega))
  · intro g cap n he h0
    obtain ⟨_, _, _, _, bl, bf, hc, _, _, hrow, _, hF⟩ := g1
    simp only [List.cons.injEq, and_true, true_and] at hc
    obtain ⟨_, hc⟩ := hc
    cases hc
    obtain ⟨_, ha, hl, _⟩ := hF 0 v.f[0] (List.getElem?_eq_getElem h0)
    rw [ha] at he
    cases he
    exact hl
  · exact g2.same (by rw [store5_size, store5_size]; exact Nat.le_refl _) (fun b hb _ => oth b (by omega) (by omega))
  · exact store5_below (store5_below (hbw.trans (h12.mono hbw.size)) (Nat.le_refl _) _ _ _ _ _) (by omega) _ _ _ _ _
  · rw [store5_size, store5_size]; exact hs2
theorem Two.later {e : Nat} {w : World} {S1 : Nat} {name : ByteArray} {v x : V} {al3 af3 al4 af4 : Option Addr} {cl3 cf3 cl4 cf4 : Nat} {wx w' : World} (h : Two e w S1 name v x al3 af3 al4 af4 cl3 cf3 cl4 cf4 wx) (hb : Below wx.heap.size wx w') : Two e w S1 name v x al3 af3 al4 af4 cl3 cf3 cl4 cf4 w' :=
  ⟨h.bv.later hb, h.bn.later hb, h.bx.later hb, h.br.later hb, h.gv.later hb, h.lv, h.gx.later hb, h.below.trans (hb.mono h.below.size), Nat.le_trans h.size hb.size, h.low⟩
theorem flatO_take {d : Nat} {w : World} : ∀ {O : List FC} (i : Nat), (∀ o ∈ O, o.ok d w) → (flatO O).take (i * 6) = flatO (O.take i)
  | [], i, _ => by simp [flatO]
  | o :: O, 0, _ => by simp [flatO]
  | o :: O, i + 1, h => by
    have h1 := FC.len (h o (by simp))
    have ih := flatO_take (O := O) i (fun p hp => h p (by simp [hp]))
    rw [List.take_succ_cons, show flatO (o :: O) = o.cells ++ flatO O from by simp [flatO], show flatO (o :: O.take i) = o.cells ++ flatO (O.take i) from by simp [flatO], ← ih, List.take_append, h1, List.take_of_length_le (by omega), show (i + 1) * 6 - 6 = i * 6 by omega]
theorem flatO_drop {d : Nat} {w : World} : ∀ {O : List FC} (i : Nat), (∀ o ∈ O, o.ok d w) → (flatO O).drop (i * 6) = flatO (O.drop i)
  | [], i, _ => by simp [flatO]
  | o :: O, 0, _ => by simp [flatO]
  | o :: O, i + 1, h => by
    have h1 := FC.len (h o (by simp))
    have ih := flatO_drop (O := O) i (fun p hp => h p (by simp [hp]))
    rw [List.drop_succ_cons, show flatO (o :: O) = o.cells ++ flatO O from by simp [flatO], ← ih, List.drop_append, h1, List.drop_eq_nil_of_le (by omega), List.nil_append, show (i + 1) * 6 - 6 = i * 6 by omega]
/-- The fields of a copy, and their row. -/
theorem row_of_copy {e m : Nat} {w : World} {v : V} {al af : Option Addr} {cl cf : Nat} (h : RepG (e + 1) m w v [.int .i64 v.k, .int .i64 v.n, .string v.s, .slice al v.l.length cl, .slice af v.f.length cf]) :
    ∃ O : List FC, O.map (·.1) = v.f ∧ w.ownsRow m 99 6 (.slice af v.f.length cf) v.f.length (flatO O) ∧ (∀ o ∈ O, FC.ok e w o) ∧ ∀ W : World, w.heap.size ≤ W.heap.size → (∀ b, m ≤ b → b < w.heap.size → some b ≠ (Value.slice af v.f.length cf).ownBlock → W.heap[b]? = w.heap[b]?) → ∀ o ∈ O, FC.ok e W o := by
  obtain ⟨al', af', cl', cf', bl, bf, hc, _, ⟨_, hmf⟩, hrow, _, hF⟩ := h
  simp only [List.cons.injEq, and_true, true_and, Value.slice.injEq] at hc
  obtain ⟨⟨rfl, rfl⟩, rfl, rfl⟩ := hc
  by_cases h0 : v.f.length = 0
  · obtain ⟨rfl, rfl⟩ := hrow.1 h0
    have hf : v.f = [] := List.eq_nil_of_length_eq_zero h0
    refine ⟨[], by rw [hf]; rfl, ?_, by simp, by simp⟩
    rw [h0]; exact World.ownsRow_nil _ _ _ _
  · obtain ⟨⟨cur, hcur, hsz⟩, hle, hmx⟩ := hrow.2 (by omega)
    obtain ⟨_, ha, _⟩ := hF 0 v.f[0] (List.getElem?_eq_getElem (by omega))
    -- a choice of cells for each field
    have key : ∀ (k : Nat), k ≤ v.f.length → ∃ O : List FC, O.map (·.1) = v.f.take k ∧ flatO O = cur.toList.take (k * 6) ∧ ∀ o ∈ O, ∃ m', bf < m' ∧ o.1.1.size ≤ maxLen ∧ RepG e m' w o.1.2 o.2 := by
      intro k
      induction k with
      | zero => intro _; exact ⟨[], by simp, by simp [flatO], by simp⟩
      | succ k ih =>
        intro hk
        obtain ⟨O, h1, h2, h3⟩ := ih (by omega)
        obtain ⟨c, _, hbl, hz, hn, hcc, hr⟩ := hF k v.f[k] (List.getElem?_eq_getElem (by omega))
        refine ⟨O ++ [(v.f[k], c)], ?_, ?_, ?_⟩
        · rw [List.map_append, h1, List.take_succ_eq_append_getElem (by omega)]; rfl
        · rw [flatO_append, h2, flatO_one]
          have hl := rep_len hr.rep
          have cell : ∀ j, cur.toList[j]? = w.cell? ⟨bf, j, none⟩ := fun j => by rw [cell_of_row w bf j cur _ _ hcur]; simp
          apply List.ext_getElem?
          intro p
          have hcl : cur.toList.length = cf * 6 := by simpa using hsz
          by_cases hp : p < k * 6
          · rw [List.getElem?_append_left (by rw [List.length_take]; omega), List.getElem?_take, if_pos hp, List.getElem?_take, if_pos (by omega)]
          · rw [List.getElem?_append_right (by rw [List.length_take]; omega), List.length_take, Nat.min_eq_left (by omega)]
            by_cases hp2 : p < (k + 1) * 6
            · rw [List.getElem?_take, if_pos hp2, cell]
              unfold FC.cells
              by_cases hp3 : p = k * 6
              · subst hp3; simp [hn]
              · obtain ⟨q, hq⟩ : ∃ q, p = k * 6 + 1 + q := ⟨p - k * 6 - 1, by omega⟩
                subst hq
                rw [show k * 6 + 1 + q - k * 6 = q + 1 by omega, List.getElem?_cons_succ]
                have : q < c.length := by omega
                rw [List.getElem?_eq_getElem this]
                exact (hcc q _ (List.getElem?_eq_getElem this)).symm
            · rw [List.getElem?_eq_none (by unfold FC.cells; simp [hl]; omega), List.getElem?_eq_none (by rw [List.length_take]; omega)]
        · intro o ho
          rcases List.mem_append.1 ho with ho | ho
          · exact h3 o ho
          · rw [List.mem_singleton.1 ho]; exact ⟨max bl bf + 1, by omega, hz, hr⟩
    obtain ⟨O, h1, h2, h3⟩ := key v.f.length (Nat.le_refl _)
    refine ⟨O, by rw [h1, List.take_length], ?_, fun o ho => ?_, fun W hs hW o ho => ?_⟩
    · rw [ha]
      exact ⟨by rw [h2, List.length_take]; simp only [Array.length_toList, hsz]; omega, .inr ⟨bf, cf, cur, rfl, hmf, hcur, hle, hmx, hsz, h2.symm⟩⟩
    · obtain ⟨m', _, hz, hr⟩ := h3 o ho
      exact ⟨hz, hr.rep⟩
    · obtain ⟨m', hm', hz, hr⟩ := h3 o ho
      refine ⟨hz, (hr.same hs (fun b hb hl => hW b (by omega) hl ?_)).rep⟩
      rw [ha]; simp [Value.ownBlock]; omega
end Go.Proofs.YtidillbpoklnjaaDoor

/-
  A field that is set: what memory holds behind it.
-/
namespace Go.Proofs.YtidillbpoklnjaaDoor
open Go.RowKit
set_option maxRecDepth 100000

def store5o (w : World) (b o : Nat) (a0 a1 a2 a3 a4 : Value) : World := ((((w.setCell ⟨b, o, none⟩ a0).setCell ⟨b, o + 1, none⟩ a1).setCell ⟨b, o + 2, none⟩ a2).setCell ⟨b, o + 3, none⟩ a3).setCell ⟨b, o + 4, none⟩ a4
theorem s5o_cell {w : World} {b o b' p : Nat} (h : b' ≠ b ∨ p < o ∨ o + 5 ≤ p) (a0 a1 a2 a3 a4 : Value) : (store5o w b o a0 a1 a2 a3 a4).cell? ⟨b', p, none⟩ = w.cell? ⟨b', p, none⟩ := by
  unfold store5o
  have hh : ∀ k, k < 5 → b' ≠ b ∨ p ≠ o + k := fun k hk => by omega
  rw [cell_setCell_ne (hh 4 (by omega)), cell_setCell_ne (hh 3 (by omega)), cell_setCell_ne (hh 2 (by omega)), cell_setCell_ne (hh 1 (by omega)), cell_setCell_ne (b := b') (b' := b) (o' := o) (by omega)]
theorem s5o_in {w : World} {b o : Nat} (a0 a1 a2 a3 a4 : Value) (h : ∀ k, k < 5 → ∃ u, w.cell? ⟨b, o + k, none⟩ = some u) : CellsAt (store5o w b o a0 a1 a2 a3 a4) b o [a0, a1, a2, a3, a4] := by
  have g : ∀ (W : World) (k : Nat) (a : Value), k < 5 → (∀ k, k < 5 → ∃ u, W.cell? ⟨b, o + k, none⟩ = some u) → (W.setCell ⟨b, o + k, none⟩ a).cell? ⟨b, o + k, none⟩ = some a := fun W k a hk hW => by
    obtain ⟨u, hu⟩ := hW k hk
    exact World.cell?_setCell_same _ _ _ hu
  have st : ∀ (W : World) (k : Nat) (a : Value), (∀ k, k < 5 → ∃ u, W.cell? ⟨b, o + k, none⟩ = some u) → ∀ j, j < 5 → ∃ u, (W.setCell ⟨b, o + k, none⟩ a).cell? ⟨b, o + j, none⟩ = some u := fun W k a hW j hj => by
    by_cases e : j = k
    · subst e; exact ⟨a, g W j a hj hW⟩
    · rw [cell_setCell_ne (.inr (by omega))]; exact hW j hj
  have h0 := st w 0 a0 h
  have h1 := st _ 1 a1 h0
  have h2 := st _ 2 a2 h1
  have h3 := st _ 3 a3 h2
  intro j c hc
  unfold store5o
  match j, hc with
  | 0, hc => simp at hc; subst hc; rw [cell_setCell_ne (.inr (by omega)), cell_setCell_ne (.inr (by omega)), cell_setCell_ne (.inr (by omega)), cell_setCell_ne (.inr (by omega))]; exact g w 0 a0 (by omega) h
  | 1, hc => simp at hc; subst hc; rw [cell_setCell_ne (.inr (by omega)), cell_setCell_ne (.inr (by omega)), cell_setCell_ne (.inr (by omega))]; exact g _ 1 a1 (by omega) h0
  | 2, hc => simp at hc; subst hc; rw [cell_setCell_ne (.inr (by omega)), cell_setCell_ne (.inr (by omega))]; exact g _ 2 a2 (by omega) h1
  | 3, hc => simp at hc; subst hc; rw [cell_setCell_ne (.inr (by omega))]; exact g _ 3 a3 (by omega) h2
  | 4, hc => simp at hc; subst hc; exact g _ 4 a4 (by omega) h3
theorem s5o_other {w : World} {b o k : Nat} (h : k ≠ b) (a0 a1 a2 a3 a4 : Value) : (store5o w b o a0 a1 a2 a3 a4).heap[k]? = w.heap[k]? := by
  unfold store5o
  rw [Below.heap_setCell _ _ _ _ (by simpa using h), Below.heap_setCell _ _ _ _ (by simpa using h), Below.heap_setCell _ _ _ _ (by simpa using h), Below.heap_setCell _ _ _ _ (by simpa using h), Below.heap_setCell _ _ _ _ (by simpa using h)]
theorem s5o_size (w : World) (b o : Nat) (a0 a1 a2 a3 a4 : Value) : (store5o w b o a0 a1 a2 a3 a4).heap.size = w.heap.size := by simp [store5o, World.setCell]
theorem s5o_below {B b o : Nat} {a w : World} (h : Below B a w) (hb : B ≤ b) (a0 a1 a2 a3 a4 : Value) : Below B a (store5o w b o a0 a1 a2 a3 a4) :=
  ((((h.setCell (p := ⟨b, o, none⟩) hb a0).setCell (p := ⟨b, o + 1, none⟩) hb a1).setCell (p := ⟨b, o + 2, none⟩) hb a2).setCell (p := ⟨b, o + 3, none⟩) hb a3).setCell (p := ⟨b, o + 4, none⟩) hb a4
theorem wpStore5 {ops : Array Oper} {rest : List Oper} {op : Oper} {a : Act} {w : World} {Q : Exit → Act → World → Prop} (hgd : op.guard = none) (x y : Operand) (ho : op.op = .store 64 x y) (b o : Nat) (a0 a1 a2 a3 a4 : Value) (hx : a.eval x = .pointer (some ⟨b, o, none⟩)) (hy : a.eval y = .agg #[a0, a1, a2, a3, a4])
    (ht : w.there b o 5) (h1 : (#[a0, a1, a2, a3, a4] : Array Value).all (·.oneCell') = true) (W : World) (hW : W = store5o w b o a0 a1 a2 a3 a4) (h : wpList Tryd.prog ops Q rest (a.put op.dst undef) W) : wpList Tryd.prog ops Q (op :: rest) a w := by
  subst hW
  exact wpList_store_mid hgd 64 x y ho b o #[a0, a1, a2, a3, a4] hx hy ht (by kernel_rfl) h1 h
theorem size_setRow (w : World) (b : Nat) (cs : Array Value) : (w.setRow b cs).heap.size = w.heap.size := by simp [World.setRow]

set_option maxHeartbeats 1000000 in
theorem found_end {e : Nat} {w w1 : World} {S1 : Nat} {name : ByteArray} {v x : V} {al3 af3 al4 af4 : Option Addr} {cl3 cf3 cl4 cf4 : Nat} (hT : Two e w S1 name v x al3 af3 al4 af4 cl3 cf3 cl4 cf4 w1) (hl : v.l = []) {i g : Nat} {q : ByteArray × V} (hq : v.f[i]? = some q) (hqn : q.1 = name) (hg : af3 = some ⟨g, 0, none⟩) :
    RepN (e + 2) ((store5o w1 g (i * 6 + 1) (.int .i64 x.k) (.int .i64 x.n) (.string x.s) (.slice al4 x.l.length cl4) (.slice af4 x.f.length cf4)).setRow (w.heap.size + 1 + 1 + 1) #[.int .i64 v.k, .int .i64 v.n, .string v.s, .slice al3 v.l.length cl3, .slice af3 v.f.length cf3]) ⟨v.k, v.n, v.s, v.l, v.f.take i ++ (name, x) :: v.f.drop (i + 1)⟩ [.int .i64 v.k, .int .i64 v.n, .string v.s, .slice al3 v.l.length cl3, .slice af3 v.f.length cf3] ∧
    Below w.heap.size w ((store5o w1 g (i * 6 + 1) (.int .i64 x.k) (.int .i64 x.n) (.string x.s) (.slice al4 x.l.length cl4) (.slice af4 x.f.length cf4)).setRow (w.heap.size + 1 + 1 + 1) #[.int .i64 v.k, .int .i64 v.n, .string v.s, .slice al3 v.l.length cl3, .slice af3 v.f.length cf3]) := by
  have hi := (List.getElem?_eq_some_iff.1 hq).1
  obtain ⟨al', af', cl', cf', bl, bf, hc, hsz, ⟨_, hmf⟩, hrow, _, hF⟩ := hT.gv
  simp only [List.cons.injEq, and_true, true_and, Value.slice.injEq] at hc
  obtain ⟨⟨rfl, rfl⟩, rfl, rfl⟩ := hc
  obtain ⟨_, ha, hbl, _⟩ := hF i q hq
  rw [hg] at ha
  cases ha
  have hlow := hT.low
  have hS := hT.lv g cf3 v.f.length (by rw [hg]) (by omega)
  -- cells behind both stores
  have cell : ∀ b p, b ≠ w.heap.size + 1 + 1 + 1 → (b ≠ g ∨ p < i * 6 + 1 ∨ i * 6 + 1 + 5 ≤ p) → ((store5o w1 g (i * 6 + 1) (.int .i64 x.k) (.int .i64 x.n) (.string x.s) (.slice al4 x.l.length cl4) (.slice af4 x.f.length cf4)).setRow (w.heap.size + 1 + 1 + 1) #[.int .i64 v.k, .int .i64 v.n, .string v.s, .slice al3 v.l.length cl3, .slice af3 v.f.length cf3]).cell? ⟨b, p, none⟩ = w1.cell? ⟨b, p, none⟩ := fun b p h1 h2 => by
    rw [World.cell?_of_block (a := ⟨b, p, none⟩) (setRow_other _ _ b _ h1), s5o_cell h2]
  have same : ∀ b, g < b → ((store5o w1 g (i * 6 + 1) (.int .i64 x.k) (.int .i64 x.n) (.string x.s) (.slice al4 x.l.length cl4) (.slice af4 x.f.length cf4)).setRow (w.heap.size + 1 + 1 + 1) #[.int .i64 v.k, .int .i64 v.n, .string v.s, .slice al3 v.l.length cl3, .slice af3 v.f.length cf3]).heap[b]? = w1.heap[b]? := fun b hb => by
    rw [setRow_other _ _ b _ (by omega), s5o_other (by omega)]
  refine ⟨⟨al3, af3, cl3, cf3, ?_, ⟨hsz.1, hsz.2.1, ?_⟩, fun j y hy => by simp [hl] at hy, fun j r hr => ?_⟩, below_setRow (s5o_below hT.below (by omega) _ _ _ _ _) (by omega) _⟩
  · have : (v.f.take i ++ (name, x) :: v.f.drop (i + 1)).length = v.f.length := by simp; omega
    simp only [this]
  · have : (v.f.take i ++ (name, x) :: v.f.drop (i + 1)).length = v.f.length := by simp; omega
    simp only [this]; exact hsz.2.2
  · simp only at hr
    by_cases hj : j = i
    · subst hj
      rw [List.getElem?_append_right (by rw [List.length_take]; omega), List.length_take, Nat.min_eq_left (by omega), Nat.sub_self] at hr
      simp at hr
      subst hr
      obtain ⟨c, _, _, hz, hn, hcc, hrg⟩ := hF j q hq
      have hcl := rep_len hrg.rep
      refine ⟨g, 0, [.int .i64 x.k, .int .i64 x.n, .string x.s, .slice al4 x.l.length cl4, .slice af4 x.f.length cf4], hg, by rw [size_setRow, s5o_size]; exact hbl, by rw [← hqn]; exact hz, ?_, ?_, ?_⟩
      · rw [Nat.zero_add, cell g (j * 6) (by omega) (by omega), hn, hqn]
      · rw [Nat.zero_add]
        intro k c' hc'
        rw [World.cell?_of_block (a := ⟨g, j * 6 + 1 + k, none⟩) (setRow_other _ _ g _ (by omega))]
        exact s5o_in _ _ _ _ _ (fun k hk => ⟨_, hcc k _ (List.getElem?_eq_getElem (by omega))⟩) k c' hc'
      · exact ((hT.gx.same (by rw [size_setRow, s5o_size]; exact Nat.le_refl _) (fun b hb _ => same b (by omega))).rep)
    · have hr' : v.f[j]? = some r := by
        by_cases hlt : j < i
        · rw [List.getElem?_append_left (by rw [List.length_take]; omega), List.getElem?_take, if_pos hlt] at hr; exact hr
        · rw [List.getElem?_append_right (by rw [List.length_take]; omega), List.length_take, Nat.min_eq_left (by omega)] at hr
          obtain ⟨k, hk⟩ : ∃ k, j - i = k + 1 := ⟨j - i - 1, by omega⟩
          rw [hk, List.getElem?_cons_succ, List.getElem?_drop] at hr
          rw [show j = i + 1 + k by omega]; exact hr
      obtain ⟨c, _, _, hz, hn, hcc, hrg⟩ := hF j r hr'
      have hcl := rep_len hrg.rep
      refine ⟨g, 0, c, hg, by rw [size_setRow, s5o_size]; exact hbl, hz, ?_, ?_, ?_⟩
      · rw [Nat.zero_add, cell g (j * 6) (by omega) (by omega), hn]
      · rw [Nat.zero_add]
        intro k c' hc'
        have hk := (List.getElem?_eq_some_iff.1 hc').1
        rw [cell g (j * 6 + 1 + k) (by omega) (by omega)]
        exact hcc k c' hc'
      · exact ((hrg.same (by rw [size_setRow, s5o_size]; exact Nat.le_refl _) (fun b hb _ => same b (by omega))).rep).mono (by omega)
set_option maxHeartbeats 1000000 in
theorem new_end {e : Nat} {w w1 w3 : World} {S1 : Nat} {name : ByteArray} {v x : V} {al3 af3 al4 af4 : Option Addr} {cl3 cf3 cl4 cf4 : Nat} (hT : Two e w S1 name v x al3 af3 al4 af4 cl3 cf3 cl4 cf4 w1) (hl : v.l = []) (hnm : name.size ≤ maxLen) (hlen : v.f.length ≤ 1048576) {O : List FC} (hO : O.map (·.1) = v.f) (hk : ∀ o ∈ O, FC.ok e w1 o)
    (hkW : ∀ W : World, w1.heap.size ≤ W.heap.size → (∀ b, w.heap.size + 1 + 1 + 1 + 1 ≤ b → b < w1.heap.size → some b ≠ (Value.slice af3 v.f.length cf3).ownBlock → W.heap[b]? = w1.heap[b]?) → ∀ o ∈ O, FC.ok e W o) {t : Nat} (ht : t ≤ v.f.length) {a' : Option Addr} {c' : Nat}
    (hown : w3.ownsRow (w.heap.size + 1 + 1 + 1 + 1) 99 6 (.slice a' (v.f.length + 1) c') (v.f.length + 1) ((flatO O).take (t * 6) ++ [.string name, .int .i64 x.k, .int .i64 x.n, .string x.s, .slice al4 x.l.length cl4, .slice af4 x.f.length cf4] ++ (flatO O).drop (t * 6)))
    (hs3 : w1.heap.size ≤ w3.heap.size) (hB : Below w.heap.size w w3) (hsm : ∀ b, b < w1.heap.size → some b ≠ (Value.slice af3 v.f.length cf3).ownBlock → w3.heap[b]? = w1.heap[b]?) :
    RepN (e + 2) ((w3.setCell ⟨w.heap.size, 4, none⟩ (.slice a' (v.f.length + 1) c')).setRow (w.heap.size + 1 + 1 + 1) #[.int .i64 v.k, .int .i64 v.n, .string v.s, .slice al3 v.l.length cl3, .slice a' (v.f.length + 1) c']) ⟨v.k, v.n, v.s, v.l, v.f.take t ++ (name, x) :: v.f.drop t⟩ [.int .i64 v.k, .int .i64 v.n, .string v.s, .slice al3 v.l.length cl3, .slice a' (v.f.length + 1) c'] ∧
    Below w.heap.size w ((w3.setCell ⟨w.heap.size, 4, none⟩ (.slice a' (v.f.length + 1) c')).setRow (w.heap.size + 1 + 1 + 1) #[.int .i64 v.k, .int .i64 v.n, .string v.s, .slice al3 v.l.length cl3, .slice a' (v.f.length + 1) c']) := by
  have hlow := hT.low
  have hbW := below_setRow (hB.setCell (p := ⟨w.heap.size, 4, none⟩) (Nat.le_refl _) (.slice a' (v.f.length + 1) c')) (b := w.heap.size + 1 + 1 + 1) (by omega) #[.int .i64 v.k, .int .i64 v.n, .string v.s, .slice al3 v.l.length cl3, .slice a' (v.f.length + 1) c']
  have hoW := ownsRow_setRow_below (ownsRow_setCell_below hown (a := ⟨w.heap.size, 4, none⟩) (by show w.heap.size < _; omega) (.slice a' (v.f.length + 1) c')) (b := w.heap.size + 1 + 1 + 1) (by omega) #[.int .i64 v.k, .int .i64 v.n, .string v.s, .slice al3 v.l.length cl3, .slice a' (v.f.length + 1) c']
  generalize hW : (w3.setCell ⟨w.heap.size, 4, none⟩ (.slice a' (v.f.length + 1) c')).setRow (w.heap.size + 1 + 1 + 1) #[.int .i64 v.k, .int .i64 v.n, .string v.s, .slice al3 v.l.length cl3, .slice a' (v.f.length + 1) c'] = W at *
  have hsz : w1.heap.size ≤ W.heap.size := by rw [← hW, size_setRow, size_setCell]; exact hs3
  have blk : ∀ b, w.heap.size + 1 + 1 + 1 + 1 ≤ b → b < w1.heap.size → some b ≠ (Value.slice af3 v.f.length cf3).ownBlock → W.heap[b]? = w1.heap[b]? := fun b h1 h2 h3 => by
    rw [← hW, setRow_other _ _ b _ (by omega), Below.heap_setCell _ _ _ _ (by show b ≠ w.heap.size; omega)]
    exact hsm b h2 h3
  have hOW := hkW W hsz blk
  have hsx := hT.size
  have hx : RepN (e + 1) W x [.int .i64 x.k, .int .i64 x.n, .string x.s, .slice al4 x.l.length cl4, .slice af4 x.f.length cf4] := (hT.gx.same hsz (fun b hb1 hb2 => blk b (by omega) hb2 (fun he => by
    cases haf : af3 with
    | none => rw [haf] at he; simp [Value.ownBlock] at he
    | some ad =>
      by_cases h0 : v.f.length = 0
      · obtain ⟨al', af', cl', cf', bl, bf, hc, _, _, hrow, _, _⟩ := hT.gv
        simp only [List.cons.injEq, and_true, true_and, Value.slice.injEq] at hc
        obtain ⟨_, rfl, rfl⟩ := hc
        have := (hrow.1 h0).1
        rw [haf] at this; cases this
      · obtain ⟨al', af', cl', cf', bl, bf, hc, _, _, hrow, _, hF⟩ := hT.gv
        simp only [List.cons.injEq, and_true, true_and, Value.slice.injEq] at hc
        obtain ⟨_, rfl, rfl⟩ := hc
        obtain ⟨_, ha, _⟩ := hF 0 v.f[0] (List.getElem?_eq_getElem (by omega))
        have := hT.lv bf cf3 v.f.length (by rw [ha]) (by omega)
        rw [ha] at he
        simp [Value.ownBlock] at he
        omega))).rep
  have hokN : ∀ o ∈ O.take t ++ [((name, x), [.int .i64 x.k, .int .i64 x.n, .string x.s, .slice al4 x.l.length cl4, .slice af4 x.f.length cf4])] ++ O.drop t, FC.ok (e + 1) W o := fun o ho => by
    rcases List.mem_append.1 ho with ho | ho
    · rcases List.mem_append.1 ho with ho | ho
      · have := hOW o (List.mem_of_mem_take ho); exact ⟨this.1, this.2.mono (by omega)⟩
      · rw [List.mem_singleton.1 ho]; exact ⟨hnm, hx⟩
    · have := hOW o (List.mem_of_mem_drop ho); exact ⟨this.1, this.2.mono (by omega)⟩
  have hOl : O.length = v.f.length := by rw [← hO, List.length_map]
  have hfl : flatO (O.take t ++ [((name, x), [.int .i64 x.k, .int .i64 x.n, .string x.s, .slice al4 x.l.length cl4, .slice af4 x.f.length cf4])] ++ O.drop t) = (flatO O).take (t * 6) ++ [.string name, .int .i64 x.k, .int .i64 x.n, .string x.s, .slice al4 x.l.length cl4, .slice af4 x.f.length cf4] ++ (flatO O).drop (t * 6) := by
    rw [flatO_append, flatO_append, flatO_one, flatO_take t hk, flatO_drop t hk]; rfl
  have hll : (O.take t ++ [((name, x), ([.int .i64 x.k, .int .i64 x.n, .string x.s, .slice al4 x.l.length cl4, .slice af4 x.f.length cf4] : List Value))] ++ O.drop t).length = v.f.length + 1 := by simp; omega
  rw [← hfl, ← hll] at hoW
  obtain ⟨af', cf', he, hF⟩ := own_fields (w := W) hoW hokN (Below.refl _ _)
  rw [hll] at he
  cases he
  have hm : (O.take t ++ [((name, x), ([.int .i64 x.k, .int .i64 x.n, .string x.s, .slice al4 x.l.length cl4, .slice af4 x.f.length cf4] : List Value))] ++ O.drop t).map (·.1) = v.f.take t ++ (name, x) :: v.f.drop t := by
    rw [List.map_append, List.map_append, List.map_take, List.map_drop, hO]; simp
  rw [hm] at hF
  have hfn : (v.f.take t ++ (name, x) :: v.f.drop t).length = v.f.length + 1 := by simp; omega
  obtain ⟨_, _, _, _, _, _, _, hsz', _⟩ := hT.gv
  refine ⟨⟨al3, a', cl3, c', by simp only [hfn], ⟨hsz'.1, hsz'.2.1, by simp only [hfn]; unfold maxLen; omega⟩, fun j y hy => by simp [hl] at hy, hF⟩, hbW⟩
end Go.Proofs.YtidillbpoklnjaaDoor
