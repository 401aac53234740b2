/-
  Joined: Vc4, Vz, Vaa.
-/
import Derived.Test.YtefbfgcbbpmhlabGreatDoorVc3
import Derived.Test.YtefbfgcbbpmhlabGreatDoorVd2
import Derived.Deep.AppendLies
import Derived.Deep.LoopGhost
import Derived.WalkSmall
import Derived.Deep.RegionHeld3

/-
  Copying: the two lists of one place.
-/
namespace Go.Proofs.YtefbfgcbbpmhlabGreatDoor
open Go.RowKit
set_option maxRecDepth 100000

theorem Tree.setCell {w : World} {b g i : Nat} {v : Value} (h : Tree w b) : Tree (w.setCell ⟨g, i, none⟩ v) b := by
  obtain ⟨cs, t, h1, h2⟩ := h
  by_cases e : b = g
  · subst e
    exact ⟨cs.setIfInBounds i v, t, by simp [World.setCell, Array.getElem?_modify, h1], h2⟩
  · exact ⟨cs, t, (Below.heap_setCell _ _ _ _ (by simpa using e)).trans h1, h2⟩
theorem Tree.grown {w w' : World} {b : Nat} (h : Tree w b) (hg : w.grownBy w' none) : Tree w' b := by
  have hl := h.lt
  obtain ⟨cs, t, h1, h2⟩ := h
  exact ⟨cs, t, (hg.block b hl (by simp)).trans h1, h2⟩
theorem Shape.setCell {w : World} {b g i n : Nat} {t : TypeId} {v : Value} (h : Shape w b t n) : Shape (w.setCell ⟨g, i, none⟩ v) b t n := by
  obtain ⟨cs, h1, h2⟩ := h
  by_cases e : b = g
  · subst e
    exact ⟨cs.setIfInBounds i v, by simp [World.setCell, Array.getElem?_modify, h1], by simpa using h2⟩
  · exact ⟨cs, (Below.heap_setCell _ _ _ _ (by simpa using e)).trans h1, h2⟩
theorem Shape.grown {w w' : World} {b n : Nat} {t : TypeId} (h : Shape w b t n) (hg : w.grownBy w' none) : Shape w' b t n := by
  obtain ⟨cs, h1, h2⟩ := h
  exact ⟨cs, (hg.block b (Array.getElem?_eq_some_iff.1 h1).1 (by simp)).trans h1, h2⟩
theorem cell_grown {w w' : World} {b : Nat} (o : Nat) (hl : b < w.heap.size) (hg : w.grownBy w' none) : w'.cell? ⟨b, o, none⟩ = w.cell? ⟨b, o, none⟩ := World.cell?_of_block (a := ⟨b, o, none⟩) (hg.block b hl (by simp))
theorem size_setCell (w : World) (a : Addr) (v : Value) : (w.setCell a v).heap.size = w.heap.size := by simp [World.setCell]
theorem cell_setCell_ne {w : World} {b o b' o' : Nat} {v : Value} (h : b ≠ b' ∨ o ≠ o') : (w.setCell ⟨b', o', none⟩ v).cell? ⟨b, o, none⟩ = w.cell? ⟨b, o, none⟩ :=
  World.cell?_setCell_other _ _ _ _ (by intro e; cases e; rcases h with h | h <;> exact h rfl)
theorem rep_len {d : Nat} {w : World} {v : V} {c : List Value} (h : RepN d w v c) : c.length = 5 := by
  obtain ⟨e, rfl⟩ := h.inv
  obtain ⟨_, _, _, _, rfl, _⟩ := h
  rfl
theorem split_of {w0 w w1 w3 : World} {p : Pl} {d : Nat} {al0 af0 al af : Option Addr} {cl cf : Nat} (hb : Below w0.heap.size w0 w) (hp : p.todo w0 w) (h3 : ∃ u, w.cell? ⟨p.b, p.o + 3, none⟩ = some u) (h4 : ∃ u, w.cell? ⟨p.b, p.o + 4, none⟩ = some u)
    (hL : LAt d w0 p.v.l al0) (hF : FAt d w0 p.v.f af0) (c1 : Cloned 26 5 w al0 p.v.l.length al cl w1) (c2 : Cloned 91 6 (w1.setCell ⟨p.b, p.o + 3, none⟩ (.slice al p.v.l.length cl)) af0 p.v.f.length af cf w3) :
    ∃ bl bf, Split w0 w p d al af cl cf bl bf (w3.setCell ⟨p.b, p.o + 4, none⟩ (.slice af p.v.f.length cf)) := by
  obtain ⟨hpw, hpt, _⟩ := hp
  have hpl := hpt.lt
  have z1 := c1.1.size
  have z3 := c2.1.size
  rw [size_setCell] at z3
  have hbs := hb.size
  -- cells through the four steps
  have cell : ∀ b o, b < w.heap.size → (b ≠ p.b ∨ o ≠ p.o + 3) → (b ≠ p.b ∨ o ≠ p.o + 4) → (w3.setCell ⟨p.b, p.o + 4, none⟩ (.slice af p.v.f.length cf)).cell? ⟨b, o, none⟩ = w.cell? ⟨b, o, none⟩ := fun b o hl n3 n4 => by
    rw [cell_setCell_ne n4, cell_grown o (by rw [size_setCell]; omega) c2.1, cell_setCell_ne n3, cell_grown o hl c1.1]
  have cell1 : ∀ b o, b ≠ p.b → b < w1.heap.size → (w3.setCell ⟨p.b, p.o + 4, none⟩ (.slice af p.v.f.length cf)).cell? ⟨b, o, none⟩ = w1.cell? ⟨b, o, none⟩ := fun b o hn hl => by
    rw [cell_setCell_ne (.inl hn), cell_grown o (by rw [size_setCell]; omega) c2.1, cell_setCell_ne (.inl hn)]
  have s1lt : 0 < p.v.l.length → w.heap.size < w1.heap.size := fun h => by
    obtain ⟨_, ⟨cur, hc⟩, _⟩ := c1.2.2 h
    exact (Array.getElem?_eq_some_iff.1 hc).1
  have s3lt : 0 < p.v.f.length → w1.heap.size < w3.heap.size := fun h => by
    obtain ⟨_, ⟨cur, hc⟩, _⟩ := c2.2.2 h
    rw [size_setCell] at hc
    exact (Array.getElem?_eq_some_iff.1 hc).1
  refine ⟨if 0 < p.v.l.length then w.heap.size else (if 0 < p.v.f.length then w1.heap.size else w.heap.size), if 0 < p.v.f.length then w1.heap.size else w.heap.size, ?_, ?_, ?_, ?_, ?_, ?_, ?_, ?_, ?_, ?_, ?_, ?_, ?_⟩
  · rw [size_setCell]; omega
  · have b1 : Below w0.heap.size w0 w1 := hb.grown c1.1 hbs (by simp)
    have b2 := b1.setCell (p := ⟨p.b, p.o + 3, none⟩) hpw (.slice al p.v.l.length cl)
    have b3 := b2.grown c2.1 (by rw [size_setCell]; omega) (by simp)
    exact b3.setCell (p := ⟨p.b, p.o + 4, none⟩) hpw _
  · intro b o ht hh
    refine cell b o ht.lt ?_ ?_
    · by_cases e : b = p.b
      · exact .inr (fun e2 => hh ⟨e, .inl e2⟩)
      · exact .inl e
    · by_cases e : b = p.b
      · exact .inr (fun e2 => hh ⟨e, .inr e2⟩)
      · exact .inl e
  · exact fun b ht => (((ht.grown c1.1).setCell).grown c2.1).setCell
  · obtain ⟨u, hu⟩ := h3
    rw [cell_setCell_ne (.inr (by omega)), cell_grown _ (by rw [size_setCell]; omega) c2.1]
    exact World.cell?_setCell_same _ _ _ ((cell_grown _ hpl c1.1).trans hu)
  · obtain ⟨u, hu⟩ := h4
    refine World.cell?_setCell_same _ _ _ (u := u) ?_
    rw [cell_grown _ (by rw [size_setCell]; omega) c2.1, cell_setCell_ne (.inr (by omega)), cell_grown _ hpl c1.1, hu]
  · constructor
    · split
      · omega
      · split <;> omega
    · split <;> omega
  · exact fun b t n _ hs => ((((hs.grown c1.1).setCell).grown c2.1).setCell)
  · refine ⟨c2.2.1.1, fun h0 => ?_⟩
    have := c2.2.1.2 h0
    rw [size_setCell] at this
    rw [if_pos h0]
    exact ⟨this.1.setCell, this.2⟩
  · intro h
    rw [size_setCell]
    rcases h with h | h
    · have := s1lt h
      rw [if_pos h]
      split
      · have := s3lt ‹_›; omega
      · omega
    · have := s3lt h
      rw [if_pos h]
      split
      · have := s1lt ‹_›; omega
      · omega
  · intro h1 h2
    have := s1lt h1
    rw [if_pos h1, if_pos h2]; omega
  · intro i x hx
    have hi := (List.getElem?_eq_some_iff.1 hx).1
    have h0 : 0 < p.v.l.length := by omega
    obtain ⟨e, ⟨cur, hc⟩, hcells⟩ := c1.2.2 h0
    obtain ⟨b, off, c, ea, hbl, hcc, hr⟩ := hL i x hx
    have hlt := s1lt h0
    have hn : w.heap.size ≠ p.b := by omega
    rw [if_pos h0]
    have t1 : Tree w1 w.heap.size := ⟨cur, _, hc, .inl rfl⟩
    refine ⟨e, ((t1.setCell).grown c2.1).setCell, c, fun j v hv => ?_, hr⟩
    have hj : j < 5 := by have := (List.getElem?_eq_some_iff.1 hv).1; rw [rep_len hr] at this; exact this
    rw [cell1 _ _ hn hlt, hcells b off (i * 5 + j) ea (by omega), hb.cell (p := ⟨b, off + (i * 5 + j), none⟩) hbl, ← Nat.add_assoc]
    exact hcc j v hv
  · intro i q hq
    have hi := (List.getElem?_eq_some_iff.1 hq).1
    have h0 : 0 < p.v.f.length := by omega
    obtain ⟨e, ⟨cur, hc⟩, hcells⟩ := c2.2.2 h0
    rw [size_setCell] at e hc hcells
    obtain ⟨b, off, c, ea, hbl, hz, hn, hcc, hr⟩ := hF i q hq
    have hlt := s3lt h0
    have hne : w1.heap.size ≠ p.b := by omega
    rw [if_pos h0]
    have t1 : Tree w3 w1.heap.size := ⟨cur, _, hc, .inr rfl⟩
    have rd : ∀ j, j < 6 → (w3.setCell ⟨p.b, p.o + 4, none⟩ (.slice af p.v.f.length cf)).cell? ⟨w1.heap.size, i * 6 + j, none⟩ = w0.cell? ⟨b, off + (i * 6 + j), none⟩ := fun j hj => by
      rw [cell_setCell_ne (.inl hne), hcells b off (i * 6 + j) ea (by omega), cell_setCell_ne (.inl (by omega)), cell_grown _ (by omega) c1.1, hb.cell (p := ⟨b, off + (i * 6 + j), none⟩) hbl]
    refine ⟨e, t1.setCell, hz, ?_, c, fun j v hv => ?_, hr⟩
    · have := rd 0 (by omega)
      rw [Nat.add_zero] at this
      exact this.trans hn
    · have hj : j < 5 := by have := (List.getElem?_eq_some_iff.1 hv).1; rw [rep_len hr] at this; exact this
      have := rd (1 + j) (by omega)
      rw [← Nat.add_assoc] at this
      rw [this, ← Nat.add_assoc, ← Nat.add_assoc]
      exact hcc j v hv
/-- What cloning asks of a list of values, of fields. -/
theorem cells_l {d : Nat} {w0 w : World} {l : List V} {al : Option Addr} (h : LAt d w0 l al) (hb : Below w0.heap.size w0 w) : 0 < l.length → ∃ b off, al = some ⟨b, off, none⟩ ∧ ∀ j, j < l.length * 5 → ∃ u, w.cell? ⟨b, off + j, none⟩ = some u ∧ u.oneCell' = true := by
  intro h0
  obtain ⟨b, off, _, ea, hbl, _, _⟩ := h 0 l[0] (List.getElem?_eq_getElem h0)
  refine ⟨b, off, ea, fun j hj => ?_⟩
  obtain ⟨b', off', c, ea', _, hc, hr⟩ := h (j / 5) (l[j / 5]'(by omega)) (List.getElem?_eq_getElem (by omega))
  rw [ea] at ea'; cases ea'
  obtain ⟨e, rfl⟩ := hr.inv
  obtain ⟨_, _, _, _, rfl, _⟩ := hr
  have e5 : off + j = off + j / 5 * 5 + j % 5 := by omega
  rw [hb.cell (p := ⟨b, off + j, none⟩) hbl, e5]
  rcases (by omega : j % 5 = 0 ∨ j % 5 = 1 ∨ j % 5 = 2 ∨ j % 5 = 3 ∨ j % 5 = 4) with h | h | h | h | h <;> rw [h]
  · exact ⟨_, hc 0 _ rfl, rfl⟩
  · exact ⟨_, hc 1 _ rfl, rfl⟩
  · exact ⟨_, hc 2 _ rfl, rfl⟩
  · exact ⟨_, hc 3 _ rfl, rfl⟩
  · exact ⟨_, hc 4 _ rfl, rfl⟩
theorem cells_f {d : Nat} {w0 w : World} {l : List (ByteArray × V)} {af : Option Addr} (h : FAt d w0 l af) (hb : Below w0.heap.size w0 w) : 0 < l.length → ∃ b off, af = some ⟨b, off, none⟩ ∧ ∀ j, j < l.length * 6 → ∃ u, w.cell? ⟨b, off + j, none⟩ = some u ∧ u.oneCell' = true := by
  intro h0
  obtain ⟨b, off, _, ea, hbl, _⟩ := h 0 l[0] (List.getElem?_eq_getElem h0)
  refine ⟨b, off, ea, fun j hj => ?_⟩
  obtain ⟨b', off', c, ea', _, _, hn, hc, hr⟩ := h (j / 6) (l[j / 6]'(by omega)) (List.getElem?_eq_getElem (by omega))
  rw [ea] at ea'; cases ea'
  obtain ⟨e, rfl⟩ := hr.inv
  obtain ⟨_, _, _, _, rfl, _⟩ := hr
  have e5 : off + j = off + j / 6 * 6 + j % 6 := by omega
  rw [hb.cell (p := ⟨b, off + j, none⟩) hbl, e5]
  rcases (by omega : j % 6 = 0 ∨ j % 6 = 1 ∨ j % 6 = 2 ∨ j % 6 = 3 ∨ j % 6 = 4 ∨ j % 6 = 5) with h | h | h | h | h | h <;> rw [h]
  · exact ⟨_, hn, rfl⟩
  · exact ⟨_, hc 0 _ rfl, rfl⟩
  · exact ⟨_, hc 1 _ rfl, rfl⟩
  · exact ⟨_, hc 2 _ rfl, rfl⟩
  · exact ⟨_, hc 3 _ rfl, rfl⟩
  · exact ⟨_, hc 4 _ rfl, rfl⟩
end Go.Proofs.YtefbfgcbbpmhlabGreatDoor

/-
  Two values, the same but for the values in them: the program's own answer.
-/
namespace Go.Proofs.YtefbfgcbbpmhlabGreatDoor
open Go.RowKit
set_option maxRecDepth 100000
attribute [local go_sem ↓] Go.wp_at_zero Go.wp_at_succ

set_option maxHeartbeats 1000000 in
theorem sameOutside_says {d : Nat} {w : World} (x y : V) (b o b' o' : Nat) (cs cs' : List Value) (hx : RepN d w x cs) (hc : CellsAt w b o cs) (hb : b < w.heap.size) (hy : RepN d w y cs') (hc' : CellsAt w b' o' cs') (hb' : b' < w.heap.size) :
    Calls Tryz.prog 117 #[.pointer (some ⟨b, o, none⟩), .pointer (some ⟨b', o', none⟩)] w fun e w' => AnsB e (SameOut x y) ∧ Below w.heap.size w w' := by
  obtain ⟨e, rfl⟩ := hx.inv
  obtain ⟨al, af, cl, cf, rfl, ⟨hs, hl, hf⟩, hL, hF⟩ := hx
  obtain ⟨al', af', cl', cf', rfl, ⟨hs', hl', hf'⟩, hL', hF'⟩ := hy
  have g0 : w.cell? ⟨b, o, none⟩ = _ := hc 0 _ rfl
  have g1 : w.cell? ⟨b, o + 1, none⟩ = _ := hc 1 _ rfl
  have g2 : w.cell? ⟨b, o + 2, none⟩ = _ := hc 2 _ rfl
  have g3 : w.cell? ⟨b, o + 3, none⟩ = _ := hc 3 _ rfl
  have g4 : w.cell? ⟨b, o + 4, none⟩ = _ := hc 4 _ rfl
  have f0 : w.cell? ⟨b', o', none⟩ = _ := hc' 0 _ rfl
  have f1 : w.cell? ⟨b', o' + 1, none⟩ = _ := hc' 1 _ rfl
  have f2 : w.cell? ⟨b', o' + 2, none⟩ = _ := hc' 2 _ rfl
  have f3 : w.cell? ⟨b', o' + 3, none⟩ = _ := hc' 3 _ rfl
  have f4 : w.cell? ⟨b', o' + 4, none⟩ = _ := hc' 4 _ rfl
  have HE := hid (fun (w1 : World) (h : Below w.heap.size w w1) => equalFunc_says (w := w1) x.f y.f af af' cf cf' hf (FAt.later hF h) (FAt.later hF' h))
  clear hL hL' hF hF' hc hc' hs hs' hl hl' hf hf'
  go_enter Tryz.func117, Tryz.ntmps117
  by_cases h1 : x.k = y.k
  case neg =>
    have b1 : (x.k == y.k) = false := by simpa using h1
    go_wp2_with fail
    go_quiet (fail)
    go_wp2
    go_ret
    exact ⟨.no (fun h => h1 h.1), bel_drewN _ _⟩
  rw [← h1] at f0
  have HH1 := hid h1
  clear h1
  by_cases h2 : x.n = y.n
  case neg =>
    have b1 : (x.n == y.n) = false := by simpa using h2
    go_wp2_with fail
    go_quiet (fail)
    go_wp2
    go_ret
    exact ⟨.no (fun h => h2 h.2.1), bel_drewN _ _⟩
  rw [← h2] at f1
  have HH2 := hid h2
  clear h2
  cases h3 : (x.s.toList == y.s.toList)
  case false =>
    have H3 := hid h3
    go_wp2_with fail
    go_quiet (fail)
    go_wp2
    go_ret
    exact ⟨.no (fun h => by have := H3.out; rw [h.2.2.1] at this; simp at this), bel_drewN _ _⟩
  have h3' : x.s = y.s := toList_inj.1 (by simpa using h3)
  rw [← h3'] at f2
  have HH3 := hid h3'
  clear h3 h3'
  by_cases h4 : x.l.length = y.l.length
  case neg =>
    have b1 : ((x.l.length : Int) == (y.l.length : Int)) = false := by simp; omega
    go_wp2_with fail
    go_quiet (fail)
    go_wp2
    go_ret
    exact ⟨.no (fun h => h4 h.2.2.2.1), bel_drewN _ _⟩
  rw [← h4] at f3
  have HH4 := hid h4
  clear h4
  go_wp2_with fail
  go_region_held3 (fun w' => w'.cell? ⟨b, o, none⟩ = some (.int .i64 x.k) ∧ w'.cell? ⟨b, o + 1, none⟩ = some (.int .i64 x.n) ∧ w'.cell? ⟨b, o + 2, none⟩ = some (.string x.s) ∧ w'.cell? ⟨b, o + 3, none⟩ = some (.slice al x.l.length cl) ∧ w'.cell? ⟨b, o + 4, none⟩ = some (.slice af x.f.length cf) ∧ w'.cell? ⟨b', o', none⟩ = some (.int .i64 x.k) ∧ w'.cell? ⟨b', o' + 1, none⟩ = some (.int .i64 x.n) ∧ w'.cell? ⟨b', o' + 2, none⟩ = some (.string x.s) ∧ w'.cell? ⟨b', o' + 3, none⟩ = some (.slice al' x.l.length cl') ∧ w'.cell? ⟨b', o' + 4, none⟩ = some (.slice af' y.f.length cf'))
    (first | go_keep | (have hx := fun q => hb1.cell (p := ⟨b, q, none⟩) hb; have hx' := fun q => hb1.cell (p := ⟨b', q, none⟩) hb'; simp at hx hx'; simp [hx, hx', g0, g1, g2, g3, g4, f0, f1, f2, f3, f4]))
    ((go_at_call 173; refine (HE.out _ (by first | exact (Below.refl _ _).drew | exact Below.refl _ _ | go_grown)).mono ?_; rintro e w1 ⟨ha, hb1⟩; obtain ⟨r, rfl, hr1⟩ := ha.bool; have HR1 := hid hr1; clear hr1 ha))
  all_goals go_wp2
  all_goals go_ret
  all_goals refine ⟨AnsB.of (HR1.out.trans ⟨fun h => ⟨HH1.out, HH2.out, HH3.out, HH4.out, h⟩, fun h => h.2.2.2.2⟩), ?_⟩
  all_goals first | exact below_undrew hb1 | exact (below_undrew hb1).drew | exact hb1
end Go.Proofs.YtefbfgcbbpmhlabGreatDoor

/-
  The program's own answer to 'are two the same': pairs that are still to be looked at.
-/
namespace Go.Proofs.YtefbfgcbbpmhlabGreatDoor
open Go.RowKit
set_option maxRecDepth 100000
attribute [local go_sem ↓] Go.wp_at_zero Go.wp_at_succ

theorem own_form {w : World} {base : Nat} {e : TypeId} {size : Nat} {v : Value} {n : Nat} {xs : List Value} (h : w.ownsRow base e size v n xs) (hn : 0 < n) :
    ∃ g cap, v = .slice (some ⟨g, 0, none⟩) n cap ∧ base ≤ g ∧ g < w.heap.size ∧ n ≤ cap ∧ cap ≤ maxLen := by
  rcases h.2 with ⟨_, h0⟩ | ⟨g, cap, cur, hv, hb, hg, h1, h2, _⟩
  · omega
  · exact ⟨g, cap, hv, hb, (Array.getElem?_eq_some_iff.1 hg).1, h1, h2⟩

/-- Two that are held against each other, and where they lie. -/
structure PP where
  b : Nat
  o : Nat
  x : V
  b' : Nat
  o' : Nat
  y : V
def PP.cells (q : PP) : List Value := [.pointer (some ⟨q.b, q.o, none⟩), .pointer (some ⟨q.b', q.o', none⟩)]
def PP.ok (d : Nat) (w : World) (q : PP) : Prop := q.b < w.heap.size ∧ q.b' < w.heap.size ∧ (∃ c, CellsAt w q.b q.o c ∧ RepN d w q.x c) ∧ ∃ c, CellsAt w q.b' q.o' c ∧ RepN d w q.y c
def flatP (l : List PP) : List Value := l.flatMap PP.cells
theorem flatP_append (l k : List PP) : flatP (l ++ k) = flatP l ++ flatP k := List.flatMap_append
theorem flatP_one (q : PP) : flatP [q] = q.cells := by simp [flatP]
theorem flatP_len (l : List PP) : (flatP l).length = l.length * 2 := by
  induction l with
  | nil => rfl
  | cons q l ih => rw [flatP, List.flatMap_cons, List.length_append, List.length_cons, show (List.flatMap PP.cells l).length = l.length * 2 from ih]; simp [PP.cells]; omega
/-- How much is still to be looked at. -/
def leftP (l : List PP) : Nat := (l.map fun q => q.x.cnt).sum
theorem leftP_append (l k : List PP) : leftP (l ++ k) = leftP l + leftP k := by simp [leftP]
theorem leftP_ge (l : List PP) : l.length ≤ leftP l := by
  induction l with
  | nil => simp
  | cons q l ih =>
    have : 1 ≤ q.x.cnt := by rw [cnt_eq]; omega
    simp [leftP] at *; omega
theorem v_ext {x y : V} (h : SameOut x y) (hl : ∀ k : Nat, k < x.l.length → x.l[k]? = y.l[k]?) (hf : ∀ k : Nat, k < x.f.length → (x.f[k]?).map (·.2) = (y.f[k]?).map (·.2)) : x = y := by
  obtain ⟨h1, h2, h3, h4, h5⟩ := h
  have hlen : x.f.length = y.f.length := by have := congrArg List.length h5; simpa using this
  refine V.ext' h1 h2 h3 (List.ext_getElem? fun k => ?_) (List.ext_getElem? fun k => ?_)
  · by_cases hk : k < x.l.length
    · exact hl k hk
    · rw [List.getElem?_eq_none (by omega), List.getElem?_eq_none (by omega)]
  · by_cases hk : k < x.f.length
    · have a := hf k hk
      have b := congrArg (fun l : List ByteArray => l[k]?) h5
      simp only [List.getElem?_map] at b
      rw [List.getElem?_eq_getElem hk, List.getElem?_eq_getElem (by omega)] at a b ⊢
      simp only [Option.map_some, Option.some.injEq] at a b
      exact congrArg some (Prod.ext b a)
    · rw [List.getElem?_eq_none (by omega), List.getElem?_eq_none (by omega)]
theorem sameOut_refl (x : V) : SameOut x x := ⟨rfl, rfl, rfl, rfl, rfl⟩
theorem infoP : (Tryz.prog.info? 183).map (fun i => (i.zero, i.size, i.bytes)) = some (some (.agg #[.pointer none, .pointer none]), 2, 16) := by kernel_rfl
/-- What is still to be looked at. -/
structure Pend (d : Nat) (wb : World) (x y : V) (k : Nat) (t : Value) (wr : World) (Q : List PP) : Prop where
  left : leftP Q = k
  own : wr.ownsRow wb.heap.size 183 2 t Q.length (flatP Q)
  ok : ∀ q ∈ Q, q.ok d wb
  iff : x = y ↔ ∀ q ∈ Q, q.x = q.y
  below : Below wb.heap.size wb wr
  most : k ≤ 1048576

/-- Pairs that one pair led to, so far. -/
structure More (d : Nat) (wb : World) (q : PP) (Q0 : List PP) (P : Nat) (t : Value) (wr : World) (N : List PP) : Prop where
  own : wr.ownsRow wb.heap.size 183 2 t (Q0.length + N.length) (flatP (Q0 ++ N))
  ok : ∀ p ∈ N, p.ok d wb
  below : Below wb.heap.size wb wr
  box : At wr P 183 #[.pointer (some ⟨q.b, q.o, none⟩), .pointer (some ⟨q.b', q.o', none⟩)]
  apart : t.ownBlock ≠ some P
  lt : wb.heap.size ≤ P
theorem More.step {d : Nat} {wb : World} {q : PP} {Q0 : List PP} {P : Nat} {t : Value} {wr w1 w2 : World} {N : List PP} (h : More d wb q Q0 P t wr N) (r : PP) (hr : r.ok d wb) {g cap : Nat} {H : Nat}
    (hown : w2.ownsRow wb.heap.size 183 2 (.slice (some ⟨g, 0, none⟩) (Q0.length + N.length + 1) cap) (Q0.length + N.length + 1) (flatP (Q0 ++ N) ++ r.cells)) (hgrow : w1.grownBy w2 t.ownBlock) (hat : t.ownBlock = some g ∨ g = H) (hH : wr.heap.size ≤ H) (hsz : wr.heap.size ≤ w1.heap.size)
    (hb1 : Below wr.heap.size wr w1) : More d wb q Q0 P (.slice (some ⟨g, 0, none⟩) (Q0.length + N.length + 1) cap) w2 (N ++ [r]) := by
  have hPl := h.box.lt
  refine ⟨?_, ?_, ?_, ?_, ?_, h.lt⟩
  · rw [List.length_append, ← List.append_assoc, flatP_append, flatP_one, List.length_singleton, ← Nat.add_assoc]; exact hown
  · intro p hp
    rcases List.mem_append.1 hp with hp | hp
    · exact h.ok p hp
    · rw [List.mem_singleton.1 hp]; exact hr
  · exact (h.below.trans (hb1.mono h.below.size)).grown hgrow (Nat.le_trans h.below.size hsz) (fun k hk => (h.own.lt k hk).1)
  · have := h.box.later hb1
    exact (hgrow.block P this.lt (Ne.symm h.apart)).trans this
  · intro e
    have e' : g = P := by simpa [Value.ownBlock] using e
    rcases hat with hat | hat
    · exact h.apart (by rw [hat, e'])
    · omega
theorem iff_snoc {N : List PP} {r : PP} {P : Nat → Prop} (h : (∀ p ∈ N, p.x = p.y) ↔ ∀ k : Nat, k < N.length → P k) (hr : r.x = r.y ↔ P N.length) : (∀ p ∈ N ++ [r], p.x = p.y) ↔ ∀ k : Nat, k < (N ++ [r]).length → P k := by
  rw [List.length_append, List.length_singleton]
  refine ⟨fun a k hk => ?_, fun a p hp => ?_⟩
  · by_cases e : k = N.length
    · subst e; exact hr.1 (a r (by simp))
    · exact h.1 (fun p hp => a p (by simp [hp])) k (by omega)
  · rcases List.mem_append.1 hp with hp | hp
    · exact h.2 (fun k hk => a k (by omega)) p hp
    · rw [List.mem_singleton.1 hp]; exact hr.2 (a N.length (by omega))
theorem iff_done {N K Q0 : List PP} {q : PP} {P : Prop} (h : P ↔ ∀ p ∈ Q0 ++ [q], p.x = p.y) (hs : SameOut q.x q.y) (hN : (∀ p ∈ N, p.x = p.y) ↔ ∀ k : Nat, k < q.x.l.length → q.x.l[k]? = q.y.l[k]?) (hK : (∀ p ∈ K, p.x = p.y) ↔ ∀ k : Nat, k < q.x.f.length → (q.x.f[k]?).map (·.2) = (q.y.f[k]?).map (·.2)) :
    P ↔ ∀ p ∈ Q0 ++ (N ++ K), p.x = p.y := by
  rw [h]
  refine ⟨fun a p hp => ?_, fun a p hp => ?_⟩
  · have hq := a q (by simp)
    rcases List.mem_append.1 hp with hp | hp
    · exact a p (by simp [hp])
    rcases List.mem_append.1 hp with hp | hp
    · exact hN.2 (fun k _ => by rw [hq]) p hp
    · exact hK.2 (fun k _ => by rw [hq]) p hp
  · rcases List.mem_append.1 hp with hp | hp
    · exact a p (by simp [hp])
    · rw [List.mem_singleton.1 hp]
      exact v_ext hs (hN.1 fun p hp => a p (by simp [hp])) (hK.1 fun p hp => a p (by simp [hp]))
set_option maxHeartbeats 2000000 in
theorem vAlike_says {d : Nat} {w : World} (x y : V) (cs cs' : List Value) (hx : RepN d w x cs) (hy : RepN d w y cs') (hcx : x.cnt ≤ 1048576) :
    Calls Tryz.prog 67 #[.agg cs.toArray, .agg cs'.toArray] w fun e w' => AnsB e (x = y) ∧ Below w.heap.size w w' := by
  obtain ⟨i0, hi, hz0, hz1, hz2⟩ := info_parts infoP
  obtain ⟨e, rfl⟩ := hx.inv
  have HX := hid hx
  have HY := hid hy
  obtain ⟨al, af, cl, cf, rfl, _⟩ := hx
  obtain ⟨al', af', cl', cf', rfl, _⟩ := hy
  go_enter Tryz.func67, Tryz.ntmps67
  go_wp2_with fail
  have hbw : Below w.heap.size w ((w.alloc (.cells #[.int .i64 x.k, .int .i64 x.n, .string x.s, .slice al x.l.length cl, .slice af x.f.length cf] 26)).alloc (.cells #[.int .i64 y.k, .int .i64 y.n, .string y.s, .slice al' y.l.length cl', .slice af' y.f.length cf'] 26)) := by go_grown
  have A1 := (At.new w #[.int .i64 x.k, .int .i64 x.n, .string x.s, .slice al x.l.length cl, .slice af x.f.length cf] 26 rfl).alloc (.cells #[.int .i64 y.k, .int .i64 y.n, .string y.s, .slice al' y.l.length cl', .slice af' y.f.length cf'] 26)
  have A2 := At.new (w.alloc (.cells #[.int .i64 x.k, .int .i64 x.n, .string x.s, .slice al x.l.length cl, .slice af x.f.length cf] 26)) #[.int .i64 y.k, .int .i64 y.n, .string y.s, .slice al' y.l.length cl', .slice af' y.f.length cf'] 26 (b := w.heap.size + 1) (by simp)
  have hsz : ((w.alloc (.cells #[.int .i64 x.k, .int .i64 x.n, .string x.s, .slice al x.l.length cl, .slice af x.f.length cf] 26)).alloc (.cells #[.int .i64 y.k, .int .i64 y.n, .string y.s, .slice al' y.l.length cl', .slice af' y.f.length cf'] 26)).heap.size = w.heap.size + 1 + 1 := by simp
  generalize ((w.alloc (.cells #[.int .i64 x.k, .int .i64 x.n, .string x.s, .slice al x.l.length cl, .slice af x.f.length cf] 26)).alloc (.cells #[.int .i64 y.k, .int .i64 y.n, .string y.s, .slice al' y.l.length cl', .slice af' y.f.length cf'] 26)) = wb at *
  have HQ0 := hid (show PP.ok (e + 1) wb ⟨w.heap.size, 0, x, w.heap.size + 1, 0, y⟩ from ⟨by simp; omega, by simp; omega, ⟨_, fun i c hc => by rw [A1.cell]; simpa using hc, HX.out.later hbw⟩, ⟨_, fun i c hc => by rw [A2.cell]; simpa using hc, HY.out.later hbw⟩⟩)
  have HBW := hid hbw
  have HSZ := hid hsz
  clear hbw A1 A2 hsz
  go_loopg [5] x.cnt (fun k t wr => ∃ Q : List PP, Pend (e + 1) wb x y k t wr Q)
  case atStart =>
    refine ⟨[⟨w.heap.size, 0, x, w.heap.size + 1, 0, y⟩], by simp [leftP], ?_, by simpa using HQ0.out, by simp, (Below.refl _ _).alloc (Nat.le_refl _) _, hcx⟩
    have := World.ownsRow_lit (e := 183) wb #[.pointer (some ⟨w.heap.size, 0, none⟩), .pointer (some ⟨w.heap.size + 1, 0, none⟩)] 1 (size := 2) (Nat.le_refl wb.heap.size) (by decide) rfl
    rw [HSZ.out] at this ⊢
    simpa [flatP_one, PP.cells] using this
  case round =>
    obtain ⟨Q, hP⟩ := hrel
    obtain ⟨hleft, hown, hok, hiff, hB, hk⟩ := hP
    rcases List.eq_nil_or_concat Q with rfl | ⟨Q0, q, rfl⟩
    all_goals try simp only [List.concat_eq_append] at hleft hown hok hiff
    all_goals
      have HIFF := hid hiff
      have HOK := hid hok
      have HLEFT := hid hleft
      clear hiff hok hleft
    · obtain ⟨_, ⟨rfl, _⟩ | ⟨g, cap, cur, rfl, _⟩⟩ := hown
      all_goals
        go_wp2_with fail
        go_ret
        exact ⟨.yes (HIFF.out.2 (by simp)), HBW.out.trans (hB.mono HBW.out.size)⟩
    · rw [List.length_append, List.length_singleton, flatP_append, flatP_one] at hown
      obtain ⟨g, cap, rfl, hg1, hg2, hg3, hg4⟩ := own_form hown (by omega)
      have hc1 : wr.cell? ⟨g, Q0.length * 2, none⟩ = some (.pointer (some ⟨q.b, q.o, none⟩)) := by
        rw [hown.cellAt _ (by omega), List.getElem?_append_right (by rw [flatP_len]; omega), flatP_len]; simp [PP.cells]
      have hc2 : wr.cell? ⟨g, Q0.length * 2 + 1, none⟩ = some (.pointer (some ⟨q.b', q.o', none⟩)) := by
        rw [hown.cellAt _ (by omega), List.getElem?_append_right (by rw [flatP_len]; omega), flatP_len]; simp [PP.cells]
      have HPOP := hid (ownsRow_pop (flatP_len Q0) hown)
      have hQl : Q0.length ≤ 1048576 := by
        have := HLEFT.out
        have := leftP_ge Q0
        rw [leftP_append] at *
        omega
      obtain ⟨hqb, hqb', ⟨c, hcc, hrr⟩, ⟨c', hcc', hrr'⟩⟩ := HOK.out q (by simp)
      have HS := hid (fun (w1 : World) (h : Below wb.heap.size wb w1) => sameOutside_says (w := w1) q.x q.y q.b q.o q.b' q.o' c c' (hrr.later h) (hcc.later hqb h) (Nat.lt_of_lt_of_le hqb h.size) (hrr'.later h) (hcc'.later hqb' h) (Nat.lt_of_lt_of_le hqb' h.size))
      have hgm : cap ≤ 9223372036854775807 := by unfold maxLen at hg4; omega
      obtain ⟨al1, af1, cl1, cf1, rfl, ⟨_, hl1, hf1⟩, hL1, hF1⟩ := hrr
      obtain ⟨al2, af2, cl2, cf2, rfl, ⟨_, hl2, hf2⟩, hL2, hF2⟩ := hrr'
      have HP := hid (And.intro (And.intro hL1 hF1) (And.intro hL2 hF2))
      have HG := hid (And.intro (hcc 3 _ rfl) (And.intro (hcc 4 _ rfl) (And.intro (hcc' 3 _ rfl) (hcc' 4 _ rfl))))
      clear hown hg4 hcc hcc' hL1 hF1 hL2 hF2
      unfold maxLen at hl1 hf1 hl2 hf2
      have hB' := hB
      go_wp2_with (go_at_call 117; refine (HS.out _ (hB.alloc hB.size _)).mono ?_; rintro e w1 ⟨ha, hb1⟩; obtain ⟨r, rfl, hr1⟩ := ha.bool; have HR1 := hid hr1; clear hr1 ha; have hBw1 : Below wb.heap.size wb w1 := (hB.alloc hB.size _).trans (hb1.mono (by simp; have := hB.size; omega)); have hA6 := (At.new wr _ _ rfl).later hb1; have m6 := hA6.cell; have z6 := hA6.lt; have x3 := (hBw1.cell (p := ⟨q.b, q.o + 3, none⟩) hqb).trans HG.out.1; have x4 := (hBw1.cell (p := ⟨q.b, q.o + 4, none⟩) hqb).trans HG.out.2.1; cases r)
      · go_ret
        exact ⟨.no (fun h => by have := HR1.out.2 (by rw [(HIFF.out.1 h q (by simp))]; exact sameOut_refl _); cases this), HBW.out.trans (hBw1.mono HBW.out.size)⟩
      · have HM := hid (show More (e + 1) wb q Q0 wr.heap.size (.slice (some ⟨g, 0, none⟩) Q0.length cap) w1 [] from
          ⟨by simpa using World.ownsRow.kept (HPOP.out.alloc _) (row := none) ⟨hb1.os, hb1.tape, hb1.output, hb1.size, fun k hk _ => hb1.block k hk⟩ (by simp [Value.ownBlock]), by simp, hBw1, hA6, by simp [Value.ownBlock]; omega, hB.size⟩)
        have HSO := hid (HR1.out.1 (by first | rfl | trivial))
        clear hA6 m6 x3 x4 hBw1 hb1 HPOP HR1 hc1 hc2
        generalize wr.heap.size = P6 at *
        go_loopw [5, 37] (fun t i wr => ∃ N : List PP, More (e + 1) wb q Q0 P6 t wr N ∧ i = .int .i64 N.length ∧ N.length ≤ q.x.l.length ∧ leftP N = cntL (q.x.l.take N.length) ∧ ((∀ p ∈ N, p.x = p.y) ↔ ∀ k : Nat, k < N.length → q.x.l[k]? = q.y.l[k]?)) (fun _ i _ => q.x.l.length - (intOf i).toNat)
        case atStart => exact ⟨[], HM.out, rfl, Nat.zero_le _, by simp [leftP, cntL], by simp⟩
        case round =>
          obtain ⟨N, hM, rfl, hNl, hleft2, hiff2⟩ := hrel
          have HM2 := hid hM
          have HL2 := hid hleft2
          have HI2 := hid hiff2
          have m6 := hM.box.cell
          have z6 := hM.box.lt
          have x3 := (hM.below.cell (p := ⟨q.b, q.o + 3, none⟩) hqb).trans HG.out.1
          have x4 := (hM.below.cell (p := ⟨q.b, q.o + 4, none⟩) hqb).trans HG.out.2.1
          have y3 := (hM.below.cell (p := ⟨q.b', q.o' + 3, none⟩) hqb').trans HG.out.2.2.1
          have hlt1 := Nat.lt_of_lt_of_le hqb hM.below.size
          have hlt2 := Nat.lt_of_lt_of_le hqb' hM.below.size
          clear hM hleft2 hiff2
          by_cases hjl : N.length < q.x.l.length
          · have hjl' : (N.length : Int) < q.x.l.length := by omega
            have hjy : N.length < q.y.l.length := by have := HSO.out.2.2.2.1; omega
            have hjy' : (N.length : Int) < q.y.l.length := by omega
            have hN0 : (0 : Int) ≤ (N.length : Int) := by omega
            have hNm : N.length ≤ 1048576 := by
              have h1 := HL2.out
              have h2 := leftP_ge N
              have h3 := cntL_take_le q.x.l N.length
              have h4 := HLEFT.out
              have h5 := cnt_eq q.x
              rw [leftP_append] at h4
              simp [leftP] at h4
              omega
            obtain ⟨bl, off, c, rfl, hbl, hc, hr⟩ := HP.out.1.1 N.length q.x.l[N.length] (List.getElem?_eq_getElem hjl)
            obtain ⟨bl', off', c', rfl, hbl', hc', hr'⟩ := HP.out.2.1 N.length q.y.l[N.length] (List.getElem?_eq_getElem hjy)
            have HRO := hid (show PP.ok (e + 1) wb ⟨bl, off + N.length * 5, q.x.l[N.length], bl', off' + N.length * 5, q.y.l[N.length]⟩ from ⟨hbl, hbl', ⟨c, hc, hr.mono (by omega)⟩, ⟨c', hc', hr'.mono (by omega)⟩⟩)
            have hwb := HM2.out.below.size
            have n1 := m6 0
            have n2 := m6 1
            simp at n1 n2
            clear hc hr hc' hr'
            go_wp2_with fail
            go_region_held3 (fun w' => w'.cell? ⟨P6, 0, none⟩ = some (.pointer (some ⟨q.b, q.o, none⟩)) ∧ w'.cell? ⟨P6, 1, none⟩ = some (.pointer (some ⟨q.b', q.o', none⟩)) ∧ w'.cell? ⟨q.b, q.o + 3, none⟩ = some (.slice (some ⟨bl, off, none⟩) q.x.l.length cl1) ∧ w'.cell? ⟨q.b', q.o' + 3, none⟩ = some (.slice (some ⟨bl', off', none⟩) q.y.l.length cl2))
              (first | go_keep | exact ⟨HM3.out.box.cell 0, HM3.out.box.cell 1, (HM3.out.below.cell (p := ⟨q.b, q.o + 3, none⟩) hqb).trans HG.out.1, (HM3.out.below.cell (p := ⟨q.b', q.o' + 3, none⟩) hqb').trans HG.out.2.2.1⟩)
              ((refine step_append_lies _ (by rfl) (.tmp 40) (.tmp 56) 184 (by rfl) wb.heap.size 183 i0 _ 2 16 Tryz.underlying184 hi hz0 hz1 hz2 rfl (by omega) _ (Q0.length + N.length) (flatP (Q0 ++ N)) (by rfl) ((HM2.out.own.alloc _).drew) ⟨wr.heap.size, 0, none⟩ 1 1 [.pointer (some ⟨bl, off + N.length * 5, none⟩), .pointer (some ⟨bl', off' + N.length * 5, none⟩)] (by rfl) (by rfl) (World.news_of_block (cs := #[.pointer (some ⟨bl, off + N.length * 5, none⟩), .pointer (some ⟨bl', off' + N.length * 5, none⟩)]) (t := 183) (fr := (0, 0)) (heap_alloc_new wr _)) (by simp [Value.oneCell']) (by omega) (by unfold maxLen; omega) (by omega) (by simp; omega) (wr.heap.size + 1) (by simp) ?_; intro gg cap' w2 hown2 hgrow hat hlt; have HM3 := hid (HM2.out.step ⟨bl, off + N.length * 5, q.x.l[N.length], bl', off' + N.length * 5, q.y.l[N.length]⟩ HRO.out hown2 hgrow hat (by omega) (by simp) ((Below.refl _ _).alloc (Nat.le_refl _) _).drew); clear hown2 hgrow hat hlt))
            all_goals go_wp2_with fail
            all_goals go_roundw
            case rel =>
              refine ⟨N ++ [⟨bl, off + N.length * 5, q.x.l[N.length], bl', off' + N.length * 5, q.y.l[N.length]⟩], HM3.out, by rw [List.length_append]; go_num, by simp; omega, ?_, ?_⟩
              · rw [leftP_append, List.length_append, List.length_singleton, cntL_take _ _ _ (List.getElem?_eq_getElem hjl), HL2.out]; simp [leftP]
              · exact iff_snoc (P := fun k => q.x.l[k]? = q.y.l[k]?) HI2.out (by rw [List.getElem?_eq_getElem hjl, List.getElem?_eq_getElem hjy]; simp)
            case measure => simp [intOf]; omega
          · have hjl' : ¬ (N.length : Int) < q.x.l.length := by omega
            have hNe : N.length = q.x.l.length := by omega
            have HI3 := hid (show (∀ p ∈ N, p.x = p.y) ↔ ∀ k : Nat, k < q.x.l.length → q.x.l[k]? = q.y.l[k]? by rw [← hNe]; exact HI2.out)
            have HL3 := hid (show leftP N = cntL q.x.l by rw [HL2.out, List.take_of_length_le (by omega)])
            have n1 := m6 0
            have n2 := m6 1
            simp at n1 n2
            clear hNe HI2 HL2
            go_wp2_with fail
            clear n1 n2 m6 z6 x3 x4 y3 hlt1 hlt2
            go_loopw [5, 65] (fun t i wr => ∃ K : List PP, More (e + 1) wb q Q0 P6 t wr (N ++ K) ∧ i = .int .i64 K.length ∧ K.length ≤ q.x.f.length ∧ leftP K = cntF (q.x.f.take K.length) ∧ ((∀ p ∈ K, p.x = p.y) ↔ ∀ k : Nat, k < K.length → (q.x.f[k]?).map (·.2) = (q.y.f[k]?).map (·.2))) (fun _ i _ => q.x.f.length - (intOf i).toNat)
            case atStart => exact ⟨[], by simpa using HM2.out, rfl, Nat.zero_le _, by simp [leftP, cntF], by simp⟩
            case round =>
              clear HM2
              obtain ⟨K, hM, rfl, hKl, hleft2, hiff2⟩ := hrel
              have HM2 := hid hM
              have HL2 := hid hleft2
              have HI2 := hid hiff2
              have m6 := hM.box.cell
              have z6 := hM.box.lt
              have x4 := (hM.below.cell (p := ⟨q.b, q.o + 4, none⟩) hqb).trans HG.out.2.1
              have y4 := (hM.below.cell (p := ⟨q.b', q.o' + 4, none⟩) hqb').trans HG.out.2.2.2
              have hlt1 := Nat.lt_of_lt_of_le hqb hM.below.size
              have hlt2 := Nat.lt_of_lt_of_le hqb' hM.below.size
              clear hM hleft2 hiff2
              have hNm : N.length + K.length ≤ 1048576 := by
                have h1 := HL2.out
                have h2 := leftP_ge N
                have h2' := leftP_ge K
                have h3 := HL3.out
                have h3' := cntF_take_le q.x.f K.length
                have h4 := HLEFT.out
                have h5 := cnt_eq q.x
                rw [leftP_append] at h4
                simp [leftP] at h4
                omega
              by_cases hjl : K.length < q.x.f.length
              · have hjl' : (K.length : Int) < q.x.f.length := by omega
                have hfe : q.x.f.length = q.y.f.length := by have := congrArg List.length HSO.out.2.2.2.2; simpa using this
                have hjy : K.length < q.y.f.length := by omega
                have hjy' : (K.length : Int) < q.y.f.length := by omega
                have hN0 : (0 : Int) ≤ (K.length : Int) := by omega
                clear hfe
                obtain ⟨bl, off, c, rfl, hbl, _, _, hc, hr⟩ := HP.out.1.2 K.length q.x.f[K.length] (List.getElem?_eq_getElem hjl)
                obtain ⟨bl', off', c', rfl, hbl', _, _, hc', hr'⟩ := HP.out.2.2 K.length q.y.f[K.length] (List.getElem?_eq_getElem hjy)
                have HRO := hid (show PP.ok (e + 1) wb ⟨bl, off + K.length * 6 + 1, q.x.f[K.length].2, bl', off' + K.length * 6 + 1, q.y.f[K.length].2⟩ from ⟨hbl, hbl', ⟨c, hc, hr.mono (by omega)⟩, ⟨c', hc', hr'.mono (by omega)⟩⟩)
                have hwb := HM2.out.below.size
                have n1 := m6 0
                have n2 := m6 1
                simp at n1 n2
                clear hc hr hc' hr'
                go_wp2_with fail
                go_region_held3 (fun w' => w'.cell? ⟨P6, 0, none⟩ = some (.pointer (some ⟨q.b, q.o, none⟩)) ∧ w'.cell? ⟨P6, 1, none⟩ = some (.pointer (some ⟨q.b', q.o', none⟩)) ∧ w'.cell? ⟨q.b, q.o + 4, none⟩ = some (.slice (some ⟨bl, off, none⟩) q.x.f.length cf1) ∧ w'.cell? ⟨q.b', q.o' + 4, none⟩ = some (.slice (some ⟨bl', off', none⟩) q.y.f.length cf2))
                  (first | go_keep | exact ⟨HM3.out.box.cell 0, HM3.out.box.cell 1, (HM3.out.below.cell (p := ⟨q.b, q.o + 4, none⟩) hqb).trans HG.out.2.1, (HM3.out.below.cell (p := ⟨q.b', q.o' + 4, none⟩) hqb').trans HG.out.2.2.2⟩)
                  ((refine step_append_lies _ (by rfl) (.tmp 68) (.tmp 86) 184 (by rfl) wb.heap.size 183 i0 _ 2 16 Tryz.underlying184 hi hz0 hz1 hz2 rfl (by omega) _ (Q0.length + (N ++ K).length) (flatP (Q0 ++ (N ++ K))) (by rfl) ((HM2.out.own.alloc _).drew) ⟨wr.heap.size, 0, none⟩ 1 1 [.pointer (some ⟨bl, off + K.length * 6 + 1, none⟩), .pointer (some ⟨bl', off' + K.length * 6 + 1, none⟩)] (by rfl) (by rfl) (World.news_of_block (cs := #[.pointer (some ⟨bl, off + K.length * 6 + 1, none⟩), .pointer (some ⟨bl', off' + K.length * 6 + 1, none⟩)]) (t := 183) (fr := (0, 0)) (heap_alloc_new wr _)) (by simp [Value.oneCell']) (by omega) (by rw [List.length_append]; unfold maxLen; omega) (by rw [List.length_append]; omega) (by simp; omega) (wr.heap.size + 1) (by simp) ?_; intro gg cap' w2 hown2 hgrow hat hlt; have HM3 := hid (HM2.out.step ⟨bl, off + K.length * 6 + 1, q.x.f[K.length].2, bl', off' + K.length * 6 + 1, q.y.f[K.length].2⟩ HRO.out hown2 hgrow hat (by omega) (by simp) ((Below.refl _ _).alloc (Nat.le_refl _) _).drew); clear hown2 hgrow hat hlt))
                all_goals go_wp2_with fail
                all_goals go_roundw
                case rel =>
                  refine ⟨K ++ [⟨bl, off + K.length * 6 + 1, q.x.f[K.length].2, bl', off' + K.length * 6 + 1, q.y.f[K.length].2⟩], by rw [← List.append_assoc]; have h := HM3.out; rw [List.length_append] at h; exact h, by rw [List.length_append]; go_num, by simp; omega, ?_, ?_⟩
                  · rw [leftP_append, List.length_append, List.length_singleton, cntF_take _ _ _ (List.getElem?_eq_getElem hjl), HL2.out]; simp [leftP]
                  · exact iff_snoc (P := fun k => (q.x.f[k]?).map (·.2) = (q.y.f[k]?).map (·.2)) HI2.out (by rw [List.getElem?_eq_getElem hjl, List.getElem?_eq_getElem hjy]; simp)
                case measure => simp [intOf]; omega
              · have hjl' : ¬ (K.length : Int) < q.x.f.length := by omega
                have hKe : K.length = q.x.f.length := by omega
                have HI4 := hid (show (∀ p ∈ K, p.x = p.y) ↔ ∀ k : Nat, k < q.x.f.length → (q.x.f[k]?).map (·.2) = (q.y.f[k]?).map (·.2) by rw [← hKe]; exact HI2.out)
                have HL4 := hid (show leftP K = cntF q.x.f by rw [HL2.out, List.take_of_length_le (by omega)])
                clear hKe
                have hms : leftP (Q0 ++ (N ++ K)) < leftP (Q0 ++ [q]) := by
                  have h1 := HL3.out
                  have h2 := HL4.out
                  have h3 := cnt_eq q.x
                  rw [leftP_append, leftP_append, leftP_append, h1, h2]
                  simp [leftP]; omega
                have HMS := hid hms
                clear hms
                go_wp2_with fail
                go_roundg (leftP (Q0 ++ (N ++ K)))
                case measure => have := HMS.out; have := HLEFT.out; omega
                case rel =>
                  refine ⟨Q0 ++ (N ++ K), rfl, by simpa using HM2.out.own, fun p hp => ?_, iff_done HIFF.out HSO.out HI3.out HI4.out, HM2.out.below, by have := HMS.out; have := HLEFT.out; omega⟩
                  rcases List.mem_append.1 hp with hp | hp
                  · exact HOK.out p (by simp [hp])
                  · exact HM2.out.ok p hp
end Go.Proofs.YtefbfgcbbpmhlabGreatDoor
