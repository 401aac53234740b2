/-
  Joined: Ve5, Ve7, Ve8.
-/
import Derived.Test.YtflcibmjblioaaaGreatDoorVe4
import Derived.Deep.MidRow
import Derived.Test.YtflcibmjblioaaaGreatDoorYo

/-
  A field that is set: what memory holds behind it.
-/
namespace Go.Proofs.YtflcibmjblioaaaGreatDoor
open Go.RowKit
set_option maxRecDepth 100000

def store5o (w : World) (b o : Nat) (a0 a1 a2 a3 a4 : Value) : World := ((((w.setCell ⟨b, o, none⟩ a0).setCell ⟨b, o + 1, none⟩ a1).setCell ⟨b, o + 2, none⟩ a2).setCell ⟨b, o + 3, none⟩ a3).setCell ⟨b, o + 4, none⟩ a4
theorem s5o_cell {w : World} {b o b' p : Nat} (h : b' ≠ b ∨ p < o ∨ o + 5 ≤ p) (a0 a1 a2 a3 a4 : Value) : (store5o w b o a0 a1 a2 a3 a4).cell? ⟨b', p, none⟩ = w.cell? ⟨b', p, none⟩ := by
  unfold store5o
  have hh : ∀ k, k < 5 → b' ≠ b ∨ p ≠ o + k := fun k hk => by omega
  rw [cell_setCell_ne (hh 4 (by omega)), cell_setCell_ne (hh 3 (by omega)), cell_setCell_ne (hh 2 (by omega)), cell_setCell_ne (hh 1 (by omega)), cell_setCell_ne (b := b') (b' := b) (o' := o) (by omega)]
theorem s5o_in {w : World} {b o : Nat} (a0 a1 a2 a3 a4 : Value) (h : ∀ k, k < 5 → ∃ u, w.cell? ⟨b, o + k, none⟩ = some u) : CellsAt (store5o w b o a0 a1 a2 a3 a4) b o [a0, a1, a2, a3, a4] := by
  have g : ∀ (W : World) (k : Nat) (a : Value), k < 5 → (∀ k, k < 5 → ∃ u, W.cell? ⟨b, o + k, none⟩ = some u) → (W.setCell ⟨b, o + k, none⟩ a).cell? ⟨b, o + k, none⟩ = some a := fun W k a hk hW => by
    obtain ⟨u, hu⟩ := hW k hk
    exact World.cell?_setCell_same _ _ _ hu
  have st : ∀ (W : World) (k : Nat) (a : Value), (∀ k, k < 5 → ∃ u, W.cell? ⟨b, o + k, none⟩ = some u) → ∀ j, j < 5 → ∃ u, (W.setCell ⟨b, o + k, none⟩ a).cell? ⟨b, o + j, none⟩ = some u := fun W k a hW j hj => by
    by_cases e : j = k
    · subst e; exact ⟨a, g W j a hj hW⟩
    · rw [cell_setCell_ne (.inr (by omega))]; exact hW j hj
  have h0 := st w 0 a0 h
  have h1 := st _ 1 a1 h0
  have h2 := st _ 2 a2 h1
  have h3 := st _ 3 a3 h2
  intro j c hc
  unfold store5o
  match j, hc with
  | 0, hc => simp at hc; subst hc; rw [cell_setCell_ne (.inr (by omega)), cell_setCell_ne (.inr (by omega)), cell_setCell_ne (.inr (by omega)), cell_setCell_ne (.inr (by omega))]; exact g w 0 a0 (by omega) h
  | 1, hc => simp at hc; subst hc; rw [cell_setCell_ne (.inr (by omega)), cell_setCell_ne (.inr (by omega)), cell_setCell_ne (.inr (by omega))]; exact g _ 1 a1 (by omega) h0
  | 2, hc => simp at hc; subst hc; rw [cell_setCell_ne (.inr (by omega)), cell_setCell_ne (.inr (by omega))]; exact g _ 2 a2 (by omega) h1
  | 3, hc => simp at hc; subst hc; rw [cell_setCell_ne (.inr (by omega))]; exact g _ 3 a3 (by omega) h2
  | 4, hc => simp at hc; subst hc; exact g _ 4 a4 (by omega) h3
theorem s5o_other {w : World} {b o k : Nat} (h : k ≠ b) (a0 a1 a2 a3 a4 : Value) : (store5o w b o a0 a1 a2 a3 a4).heap[k]? = w.heap[k]? := by
  unfold store5o
  rw [Below.heap_setCell _ _ _ _ (by simpa using h), Below.heap_setCell _ _ _ _ (by simpa using h), Below.heap_setCell _ _ _ _ (by simpa using h), Below.heap_setCell _ _ _ _ (by simpa using h), Below.heap_setCell _ _ _ _ (by simpa using h)]
theorem s5o_size (w : World) (b o : Nat) (a0 a1 a2 a3 a4 : Value) : (store5o w b o a0 a1 a2 a3 a4).heap.size = w.heap.size := by simp [store5o, World.setCell]
theorem s5o_below {B b o : Nat} {a w : World} (h : Below B a w) (hb : B ≤ b) (a0 a1 a2 a3 a4 : Value) : Below B a (store5o w b o a0 a1 a2 a3 a4) :=
  ((((h.setCell (p := ⟨b, o, none⟩) hb a0).setCell (p := ⟨b, o + 1, none⟩) hb a1).setCell (p := ⟨b, o + 2, none⟩) hb a2).setCell (p := ⟨b, o + 3, none⟩) hb a3).setCell (p := ⟨b, o + 4, none⟩) hb a4
theorem wpStore5 {ops : Array Oper} {rest : List Oper} {op : Oper} {a : Act} {w : World} {Q : Exit → Act → World → Prop} (hgd : op.guard = none) (x y : Operand) (ho : op.op = .store 40 x y) (b o : Nat) (a0 a1 a2 a3 a4 : Value) (hx : a.eval x = .pointer (some ⟨b, o, none⟩)) (hy : a.eval y = .agg #[a0, a1, a2, a3, a4])
    (ht : w.there b o 5) (h1 : (#[a0, a1, a2, a3, a4] : Array Value).all (·.oneCell') = true) (W : World) (hW : W = store5o w b o a0 a1 a2 a3 a4) (h : wpList Tryz.prog ops Q rest (a.put op.dst undef) W) : wpList Tryz.prog ops Q (op :: rest) a w := by
  subst hW
  exact wpList_store_mid hgd 40 x y ho b o #[a0, a1, a2, a3, a4] hx hy ht (by kernel_rfl) h1 h
theorem size_setRow (w : World) (b : Nat) (cs : Array Value) : (w.setRow b cs).heap.size = w.heap.size := by simp [World.setRow]

end Go.Proofs.YtflcibmjblioaaaGreatDoor

/-
  A field that is set in any value: the ends. (Written by mkVe7.py out of Ve5.t.)
-/
namespace Go.Proofs.YtflcibmjblioaaaGreatDoor
open Go.RowKit
set_option maxRecDepth 100000

/-- A row of values and a row of fields are not one block. -/
theorem apart_rows {w : World} {bl bf : Nat} {c : List Value} {d : Nat} {y : V} {s : ByteArray} (h : CellsAt w bl (0 * 5) c) (hr : RepN d w y c) (hn : w.cell? ⟨bf, 0 * 6, none⟩ = some (.string s)) : bl ≠ bf := by
  intro e
  subst e
  match d, hr with
  | d + 1, hr =>
    obtain ⟨al, af, cl, cf, rfl, _⟩ := hr
    have h0 := h 0 _ rfl
    simp at h0 hn
    rw [h0] at hn
    cases hn
theorem own_heap {w w' : World} {B z n : Nat} {T : TypeId} {v : Value} {xs : List Value} (h : w.ownsRow B T z v n xs) (hg : ∀ g, v.ownBlock = some g → w'.heap[g]? = w.heap[g]?) : w'.ownsRow B T z v n xs := by
  refine ⟨h.1, ?_⟩
  rcases h.2 with hn | ⟨g, cap, cur, rfl, hb, hgg, rest⟩
  · exact .inl hn
  · exact .inr ⟨g, cap, cur, rfl, hb, (hg g rfl).trans hgg, rest⟩
set_option maxHeartbeats 1000000 in
theorem found_endL {e : Nat} {w w1 : World} {S1 : Nat} {name : ByteArray} {v x : V} {al3 af3 al4 af4 : Option Addr} {cl3 cf3 cl4 cf4 : Nat} (hT : Two e w S1 name v x al3 af3 al4 af4 cl3 cf3 cl4 cf4 w1) {i g : Nat} {q : ByteArray × V} (hq : v.f[i]? = some q) (hqn : q.1 = name) (hg : af3 = some ⟨g, 0, none⟩) :
    RepIn (fun b => w.heap.size + 1 + 1 + 1 + 1 ≤ b ∧ b < ((store5o w1 g (i * 6 + 1) (.int .i64 x.k) (.int .i64 x.n) (.string x.s) (.slice al4 x.l.length cl4) (.slice af4 x.f.length cf4)).setRow (w.heap.size + 1 + 1 + 1) #[.int .i64 v.k, .int .i64 v.n, .string v.s, .slice al3 v.l.length cl3, .slice af3 v.f.length cf3]).heap.size) (e + 2) ((store5o w1 g (i * 6 + 1) (.int .i64 x.k) (.int .i64 x.n) (.string x.s) (.slice al4 x.l.length cl4) (.slice af4 x.f.length cf4)).setRow (w.heap.size + 1 + 1 + 1) #[.int .i64 v.k, .int .i64 v.n, .string v.s, .slice al3 v.l.length cl3, .slice af3 v.f.length cf3]) ⟨v.k, v.n, v.s, v.l, v.f.take i ++ (name, x) :: v.f.drop (i + 1)⟩ [.int .i64 v.k, .int .i64 v.n, .string v.s, .slice al3 v.l.length cl3, .slice af3 v.f.length cf3] ∧
    Below w.heap.size w ((store5o w1 g (i * 6 + 1) (.int .i64 x.k) (.int .i64 x.n) (.string x.s) (.slice al4 x.l.length cl4) (.slice af4 x.f.length cf4)).setRow (w.heap.size + 1 + 1 + 1) #[.int .i64 v.k, .int .i64 v.n, .string v.s, .slice al3 v.l.length cl3, .slice af3 v.f.length cf3]) := by
  have hi := (List.getElem?_eq_some_iff.1 hq).1
  obtain ⟨al', af', cl', cf', bl, bf, hc, hsz, ⟨hml, hmf⟩, hrow, hLs, hF⟩ := hT.gv
  simp only [List.cons.injEq, and_true, true_and, Value.slice.injEq] at hc
  obtain ⟨⟨rfl, rfl⟩, rfl, rfl⟩ := hc
  obtain ⟨_, ha, hbl, _⟩ := hF i q hq
  rw [hg] at ha
  cases ha
  have hlow := hT.low
  have hS := hT.lv g cf3 v.f.length (by rw [hg]) (by omega)
  -- cells behind both stores
  have cell : ∀ b p, b ≠ w.heap.size + 1 + 1 + 1 → (b ≠ g ∨ p < i * 6 + 1 ∨ i * 6 + 1 + 5 ≤ p) → ((store5o w1 g (i * 6 + 1) (.int .i64 x.k) (.int .i64 x.n) (.string x.s) (.slice al4 x.l.length cl4) (.slice af4 x.f.length cf4)).setRow (w.heap.size + 1 + 1 + 1) #[.int .i64 v.k, .int .i64 v.n, .string v.s, .slice al3 v.l.length cl3, .slice af3 v.f.length cf3]).cell? ⟨b, p, none⟩ = w1.cell? ⟨b, p, none⟩ := fun b p h1 h2 => by
    rw [World.cell?_of_block (a := ⟨b, p, none⟩) (setRow_other _ _ b _ h1), s5o_cell h2]
  have same : ∀ b, g < b → ((store5o w1 g (i * 6 + 1) (.int .i64 x.k) (.int .i64 x.n) (.string x.s) (.slice al4 x.l.length cl4) (.slice af4 x.f.length cf4)).setRow (w.heap.size + 1 + 1 + 1) #[.int .i64 v.k, .int .i64 v.n, .string v.s, .slice al3 v.l.length cl3, .slice af3 v.f.length cf3]).heap[b]? = w1.heap[b]? := fun b hb => by
    rw [setRow_other _ _ b _ (by omega), s5o_other (by omega)]
  have hsz0 : ((store5o w1 g (i * 6 + 1) (.int .i64 x.k) (.int .i64 x.n) (.string x.s) (.slice al4 x.l.length cl4) (.slice af4 x.f.length cf4)).setRow (w.heap.size + 1 + 1 + 1) #[.int .i64 v.k, .int .i64 v.n, .string v.s, .slice al3 v.l.length cl3, .slice af3 v.f.length cf3]).heap.size = w1.heap.size := by rw [size_setRow, s5o_size]
  refine ⟨fun W' hWs hWb => ?_, below_setRow (s5o_below hT.below (by omega) _ _ _ _ _) (by omega) _⟩
  have hW1 : w1.heap.size ≤ W'.heap.size := by rw [hsz0] at hWs; exact hWs
  have cell' : ∀ b p, w.heap.size + 1 + 1 + 1 + 1 ≤ b → b < w1.heap.size → (b ≠ g ∨ p < i * 6 + 1 ∨ i * 6 + 1 + 5 ≤ p) → W'.cell? ⟨b, p, none⟩ = w1.cell? ⟨b, p, none⟩ := fun b p h1 h2 h3 => by
    rw [World.cell?_of_block (a := ⟨b, p, none⟩) (hWb b ⟨h1, by rw [hsz0]; exact h2⟩), cell b p (by omega) h3]
  have same' : ∀ b, g < b → b < w1.heap.size → W'.heap[b]? = w1.heap[b]? := fun b h1 h2 => by
    rw [hWb b ⟨by omega, by rw [hsz0]; exact h2⟩, same b h1]
  refine ⟨al3, af3, cl3, cf3, ?_, ⟨hsz.1, hsz.2.1, ?_⟩, fun j y hy => ?_, fun j r hr => ?_⟩
  · have : (v.f.take i ++ (name, x) :: v.f.drop (i + 1)).length = v.f.length := by simp; omega
    simp only [this]
  · have : (v.f.take i ++ (name, x) :: v.f.drop (i + 1)).length = v.f.length := by simp; omega
    simp only [this]; exact hsz.2.2
  · simp only at hy
    obtain ⟨c, e1, e2, e3, e4⟩ := hLs j y hy
    have hne : bl ≠ g := by
      have hl0 : 0 < v.l.length := by have := (List.getElem?_eq_some_iff.1 hy).1; omega
      obtain ⟨c0, _, _, p3, p4⟩ := hLs 0 v.l[0] (List.getElem?_eq_getElem hl0)
      obtain ⟨_, _, _, _, n0, _⟩ := hF 0 v.f[0] (List.getElem?_eq_getElem (by omega))
      exact apart_rows p3 p4.rep n0
    refine ⟨bl, 0, c, e1, Nat.lt_of_lt_of_le e2 hW1, ?_, ?_⟩
    · rw [Nat.zero_add]
      intro k c' hc'
      rw [cell' bl (j * 5 + k) hml e2 (.inl hne)]
      exact e3 k c' hc'
    · exact ((e4.same hW1 (fun b hb hb2 => same' b (by omega) hb2)).rep).mono (by omega)
  · simp only at hr
    by_cases hj : j = i
    · subst hj
      rw [List.getElem?_append_right (by rw [List.length_take]; omega), List.length_take, Nat.min_eq_left (by omega), Nat.sub_self] at hr
      simp at hr
      subst hr
      obtain ⟨c, _, _, hz, hn, hcc, hrg⟩ := hF j q hq
      have hcl := rep_len hrg.rep
      refine ⟨g, 0, [.int .i64 x.k, .int .i64 x.n, .string x.s, .slice al4 x.l.length cl4, .slice af4 x.f.length cf4], hg, Nat.lt_of_lt_of_le hbl hW1, by rw [← hqn]; exact hz, ?_, ?_, ?_⟩
      · rw [Nat.zero_add, cell' g (j * 6) hmf hbl (by omega), hn, hqn]
      · rw [Nat.zero_add]
        intro k c' hc'
        rw [World.cell?_of_block (a := ⟨g, j * 6 + 1 + k, none⟩) ((hWb g ⟨hmf, by rw [hsz0]; exact hbl⟩).trans (setRow_other _ _ g _ (by omega)))]
        exact s5o_in _ _ _ _ _ (fun k hk => ⟨_, hcc k _ (List.getElem?_eq_getElem (by omega))⟩) k c' hc'
      · exact ((hT.gx.same hW1 (fun b hb hb2 => same' b (by omega) hb2)).rep)
    · have hr' : v.f[j]? = some r := by
        by_cases hlt : j < i
        · rw [List.getElem?_append_left (by rw [List.length_take]; omega), List.getElem?_take, if_pos hlt] at hr; exact hr
        · rw [List.getElem?_append_right (by rw [List.length_take]; omega), List.length_take, Nat.min_eq_left (by omega)] at hr
          obtain ⟨k, hk⟩ : ∃ k, j - i = k + 1 := ⟨j - i - 1, by omega⟩
          rw [hk, List.getElem?_cons_succ, List.getElem?_drop] at hr
          rw [show j = i + 1 + k by omega]; exact hr
      obtain ⟨c, _, _, hz, hn, hcc, hrg⟩ := hF j r hr'
      have hcl := rep_len hrg.rep
      refine ⟨g, 0, c, hg, Nat.lt_of_lt_of_le hbl hW1, hz, ?_, ?_, ?_⟩
      · rw [Nat.zero_add, cell' g (j * 6) hmf hbl (by omega), hn]
      · rw [Nat.zero_add]
        intro k c' hc'
        have hk := (List.getElem?_eq_some_iff.1 hc').1
        rw [cell' g (j * 6 + 1 + k) hmf hbl (by omega)]
        exact hcc k c' hc'
      · exact ((hrg.same hW1 (fun b hb hb2 => same' b (by omega) hb2)).rep).mono (by omega)
set_option maxHeartbeats 1000000 in
theorem new_endL {e : Nat} {w w1 w3 : World} {S1 : Nat} {name : ByteArray} {v x : V} {al3 af3 al4 af4 : Option Addr} {cl3 cf3 cl4 cf4 : Nat} (hT : Two e w S1 name v x al3 af3 al4 af4 cl3 cf3 cl4 cf4 w1) (hnm : name.size ≤ maxLen) (hlen : v.f.length ≤ 1048576) {O : List FC} (hO : O.map (·.1) = v.f) (hk : ∀ o ∈ O, FC.ok e w1 o)
    (hkW : ∀ W : World, w1.heap.size ≤ W.heap.size → (∀ b, w.heap.size + 1 + 1 + 1 + 1 ≤ b → b < w1.heap.size → some b ≠ (Value.slice af3 v.f.length cf3).ownBlock → W.heap[b]? = w1.heap[b]?) → ∀ o ∈ O, FC.ok e W o) {t : Nat} (ht : t ≤ v.f.length) {a' : Option Addr} {c' : Nat}
    (hown : w3.ownsRow (w.heap.size + 1 + 1 + 1 + 1) 74 6 (.slice a' (v.f.length + 1) c') (v.f.length + 1) ((flatO O).take (t * 6) ++ [.string name, .int .i64 x.k, .int .i64 x.n, .string x.s, .slice al4 x.l.length cl4, .slice af4 x.f.length cf4] ++ (flatO O).drop (t * 6)))
    (hs3 : w1.heap.size ≤ w3.heap.size) (hB : Below w.heap.size w w3) (hsm : ∀ b, b < w1.heap.size → some b ≠ (Value.slice af3 v.f.length cf3).ownBlock → w3.heap[b]? = w1.heap[b]?) :
    RepIn (fun b => w.heap.size + 1 + 1 + 1 + 1 ≤ b ∧ b < ((w3.setCell ⟨w.heap.size, 4, none⟩ (.slice a' (v.f.length + 1) c')).setRow (w.heap.size + 1 + 1 + 1) #[.int .i64 v.k, .int .i64 v.n, .string v.s, .slice al3 v.l.length cl3, .slice a' (v.f.length + 1) c']).heap.size) (e + 2) ((w3.setCell ⟨w.heap.size, 4, none⟩ (.slice a' (v.f.length + 1) c')).setRow (w.heap.size + 1 + 1 + 1) #[.int .i64 v.k, .int .i64 v.n, .string v.s, .slice al3 v.l.length cl3, .slice a' (v.f.length + 1) c']) ⟨v.k, v.n, v.s, v.l, v.f.take t ++ (name, x) :: v.f.drop t⟩ [.int .i64 v.k, .int .i64 v.n, .string v.s, .slice al3 v.l.length cl3, .slice a' (v.f.length + 1) c'] ∧
    Below w.heap.size w ((w3.setCell ⟨w.heap.size, 4, none⟩ (.slice a' (v.f.length + 1) c')).setRow (w.heap.size + 1 + 1 + 1) #[.int .i64 v.k, .int .i64 v.n, .string v.s, .slice al3 v.l.length cl3, .slice a' (v.f.length + 1) c']) := by
  have hlow := hT.low
  have hbW := below_setRow (hB.setCell (p := ⟨w.heap.size, 4, none⟩) (Nat.le_refl _) (.slice a' (v.f.length + 1) c')) (b := w.heap.size + 1 + 1 + 1) (by omega) #[.int .i64 v.k, .int .i64 v.n, .string v.s, .slice al3 v.l.length cl3, .slice a' (v.f.length + 1) c']
  have hoW := ownsRow_setRow_below (ownsRow_setCell_below hown (a := ⟨w.heap.size, 4, none⟩) (by show w.heap.size < _; omega) (.slice a' (v.f.length + 1) c')) (b := w.heap.size + 1 + 1 + 1) (by omega) #[.int .i64 v.k, .int .i64 v.n, .string v.s, .slice al3 v.l.length cl3, .slice a' (v.f.length + 1) c']
  generalize hW : (w3.setCell ⟨w.heap.size, 4, none⟩ (.slice a' (v.f.length + 1) c')).setRow (w.heap.size + 1 + 1 + 1) #[.int .i64 v.k, .int .i64 v.n, .string v.s, .slice al3 v.l.length cl3, .slice a' (v.f.length + 1) c'] = W at *
  have hsz : w1.heap.size ≤ W.heap.size := by rw [← hW, size_setRow, size_setCell]; exact hs3
  have blk : ∀ b, w.heap.size + 1 + 1 + 1 + 1 ≤ b → b < w1.heap.size → some b ≠ (Value.slice af3 v.f.length cf3).ownBlock → W.heap[b]? = w1.heap[b]? := fun b h1 h2 h3 => by
    rw [← hW, setRow_other _ _ b _ (by omega), Below.heap_setCell _ _ _ _ (by show b ≠ w.heap.size; omega)]
    exact hsm b h2 h3
  refine ⟨fun W' hWs hWb => ?_, hbW⟩
  have hoW := own_heap hoW (fun g hg => hWb g ⟨(hoW.lt g hg).1, (hoW.lt g hg).2⟩)
  have blk : ∀ b, w.heap.size + 1 + 1 + 1 + 1 ≤ b → b < w1.heap.size → some b ≠ (Value.slice af3 v.f.length cf3).ownBlock → W'.heap[b]? = w1.heap[b]? := fun b h1 h2 h3 => (hWb b ⟨h1, by omega⟩).trans (blk b h1 h2 h3)
  have hsz : w1.heap.size ≤ W'.heap.size := Nat.le_trans hsz hWs
  have hOW := hkW W' hsz blk
  have hsx := hT.size
  have hx : RepN (e + 1) W' x [.int .i64 x.k, .int .i64 x.n, .string x.s, .slice al4 x.l.length cl4, .slice af4 x.f.length cf4] := (hT.gx.same hsz (fun b hb1 hb2 => blk b (by omega) hb2 (fun he => by
    cases haf : af3 with
    | none => rw [haf] at he; simp [Value.ownBlock] at he
    | some ad =>
      by_cases h0 : v.f.length = 0
      · obtain ⟨al', af', cl', cf', bl, bf, hc, _, _, hrow, _, _⟩ := hT.gv
        simp only [List.cons.injEq, and_true, true_and, Value.slice.injEq] at hc
        obtain ⟨_, rfl, rfl⟩ := hc
        have := (hrow.1 h0).1
        rw [haf] at this; cases this
      · obtain ⟨al', af', cl', cf', bl, bf, hc, _, _, hrow, _, hF⟩ := hT.gv
        simp only [List.cons.injEq, and_true, true_and, Value.slice.injEq] at hc
        obtain ⟨_, rfl, rfl⟩ := hc
        obtain ⟨_, ha, _⟩ := hF 0 v.f[0] (List.getElem?_eq_getElem (by omega))
        have := hT.lv bf cf3 v.f.length (by rw [ha]) (by omega)
        rw [ha] at he
        simp [Value.ownBlock] at he
        omega))).rep
  have hokN : ∀ o ∈ O.take t ++ [((name, x), [.int .i64 x.k, .int .i64 x.n, .string x.s, .slice al4 x.l.length cl4, .slice af4 x.f.length cf4])] ++ O.drop t, FC.ok (e + 1) W' o := fun o ho => by
    rcases List.mem_append.1 ho with ho | ho
    · rcases List.mem_append.1 ho with ho | ho
      · have := hOW o (List.mem_of_mem_take ho); exact ⟨this.1, this.2.mono (by omega)⟩
      · rw [List.mem_singleton.1 ho]; exact ⟨hnm, hx⟩
    · have := hOW o (List.mem_of_mem_drop ho); exact ⟨this.1, this.2.mono (by omega)⟩
  have hOl : O.length = v.f.length := by rw [← hO, List.length_map]
  have hfl : flatO (O.take t ++ [((name, x), [.int .i64 x.k, .int .i64 x.n, .string x.s, .slice al4 x.l.length cl4, .slice af4 x.f.length cf4])] ++ O.drop t) = (flatO O).take (t * 6) ++ [.string name, .int .i64 x.k, .int .i64 x.n, .string x.s, .slice al4 x.l.length cl4, .slice af4 x.f.length cf4] ++ (flatO O).drop (t * 6) := by
    rw [flatO_append, flatO_append, flatO_one, flatO_take t hk, flatO_drop t hk]; rfl
  have hll : (O.take t ++ [((name, x), ([.int .i64 x.k, .int .i64 x.n, .string x.s, .slice al4 x.l.length cl4, .slice af4 x.f.length cf4] : List Value))] ++ O.drop t).length = v.f.length + 1 := by simp; omega
  rw [← hfl, ← hll] at hoW
  obtain ⟨af', cf', he, hF⟩ := own_fields (w := W') hoW hokN (Below.refl _ _)
  rw [hll] at he
  cases he
  have hm : (O.take t ++ [((name, x), ([.int .i64 x.k, .int .i64 x.n, .string x.s, .slice al4 x.l.length cl4, .slice af4 x.f.length cf4] : List Value))] ++ O.drop t).map (·.1) = v.f.take t ++ (name, x) :: v.f.drop t := by
    rw [List.map_append, List.map_append, List.map_take, List.map_drop, hO]; simp
  rw [hm] at hF
  have hfn : (v.f.take t ++ (name, x) :: v.f.drop t).length = v.f.length + 1 := by simp; omega
  obtain ⟨al9, af9, cl9, cf9, bl, bf, hc9, hsz', ⟨hml, hmf⟩, hrow9, hLs, hF9⟩ := hT.gv
  simp only [List.cons.injEq, and_true, true_and, Value.slice.injEq] at hc9
  obtain ⟨⟨rfl, rfl⟩, rfl, rfl⟩ := hc9
  refine ⟨al3, a', cl3, c', by simp only [hfn], ⟨hsz'.1, hsz'.2.1, by simp only [hfn]; unfold maxLen; omega⟩, fun j y hy => ?_, hF⟩
  simp only at hy
  obtain ⟨c, e1, e2, e3, e4⟩ := hLs j y hy
  have own9 : ∀ g, (Value.slice af3 v.f.length cf3).ownBlock = some g → g = bf ∧ bl ≠ bf := fun g hgq => by
    by_cases h0 : v.f.length = 0
    · have := (hrow9.1 h0).1
      rw [this] at hgq; simp [Value.ownBlock] at hgq
    · obtain ⟨c0, q1, q2, q3, q4, _⟩ := hF9 0 v.f[0] (List.getElem?_eq_getElem (by omega))
      rw [q1] at hgq
      simp only [Value.ownBlock] at hgq
      injection hgq with hgq
      have hl0 : 0 < v.l.length := by have := (List.getElem?_eq_some_iff.1 hy).1; omega
      obtain ⟨c1, _, _, p3, p4⟩ := hLs 0 v.l[0] (List.getElem?_eq_getElem hl0)
      exact ⟨hgq.symm, apart_rows p3 p4.rep q4⟩
  have keep : ∀ b, bl ≤ b → (b = bl ∨ max bl bf < b) → b < w1.heap.size → W'.heap[b]? = w1.heap[b]? := fun b h1 h2 h3 => blk b (by omega) h3 (fun he => by
    obtain ⟨e5, e6⟩ := own9 b he.symm
    omega)
  refine ⟨bl, 0, c, e1, Nat.lt_of_lt_of_le e2 hsz, ?_, ?_⟩
  · rw [Nat.zero_add]
    intro k c' hc'
    rw [World.cell?_of_block (a := ⟨bl, j * 5 + k, none⟩) (keep bl (Nat.le_refl _) (.inl rfl) e2)]
    exact e3 k c' hc'
  · exact ((e4.same hsz (fun b hb hb2 => keep b (by omega) (.inr (by omega)) hb2)).rep).mono (by omega)
end Go.Proofs.YtflcibmjblioaaaGreatDoor

/-
  A field that is set in any value: the program's own answer. (Written by mkVe7.py out of Ve6.t.)
-/
namespace Go.Proofs.YtflcibmjblioaaaGreatDoor
open Go.RowKit
set_option maxRecDepth 100000

/-- What the program's Set makes of any fields. -/
def psetF (name : ByteArray) (x : V) (f : List (ByteArray × V)) : List (ByteArray × V) :=
  match f.findIdx? (fun q => q.1.toList == name.toList) with
  | some i => f.take i ++ (name, x) :: f.drop (i + 1)
  | none => match f.findIdx? (fun q => !(leB q.1 name)) with
    | some t => f.take t ++ (name, x) :: f.drop t
    | none => f.take f.length ++ (name, x) :: f.drop f.length
theorem pset_found (name : ByteArray) (x : V) (f : List (ByteArray × V)) (i : Nat) (q : ByteArray × V) (hq : f[i]? = some q) (hqn : q.1 = name) (hj : ∀ (j : Nat) r, j < i → f[j]? = some r → (r.1.toList == name.toList) = false) :
    psetF name x f = f.take i ++ (name, x) :: f.drop (i + 1) := by
  have hi := (List.getElem?_eq_some_iff.1 hq).1
  have h : f.findIdx? (fun q => q.1.toList == name.toList) = some i := by
    rw [List.findIdx?_eq_some_iff_getElem]
    refine ⟨hi, ?_, fun j hji => ?_⟩
    · rw [(List.getElem?_eq_some_iff.1 hq).2, hqn]; simp
    · have := hj j _ hji (List.getElem?_eq_getElem (by omega))
      simpa using this
  unfold psetF
  rw [h]
theorem pset_new (name : ByteArray) (x : V) (f : List (ByteArray × V)) (t : Nat) (hno : ∀ q ∈ f, q.1 ≠ name) (ht : t ≤ f.length) (hlo : ∀ (i : Nat) (q : ByteArray × V), i < t → f[i]? = some q → ¬ Lt name q.1) (hhi : ∀ q, f[t]? = some q → Lt name q.1) :
    psetF name x f = f.take t ++ (name, x) :: f.drop t := by
  have h1 : f.findIdx? (fun q => q.1.toList == name.toList) = none := by
    rw [List.findIdx?_eq_none_iff]
    intro q hq
    simpa using fun e => hno q hq (toList_eq e)
  have le_of : ∀ q : ByteArray × V, ¬ Lt name q.1 → leB q.1 name = true := fun q hn => by
    rcases lt_tri name q.1 with h | h | h
    · exact absurd h hn
    · exact leB_iff.2 (.inr h.symm)
    · exact leB_iff.2 (.inl h)
  unfold psetF
  rw [h1]
  by_cases he : t = f.length
  · have h2 : f.findIdx? (fun q => !(leB q.1 name)) = none := by
      rw [List.findIdx?_eq_none_iff]
      intro q hq
      obtain ⟨i, hi⟩ := List.getElem?_of_mem hq
      rw [le_of q (hlo i q (by have := (List.getElem?_eq_some_iff.1 hi).1; omega) hi)]; rfl
    rw [h2, he]
  · have h2 : f.findIdx? (fun q => !(leB q.1 name)) = some t := by
      rw [List.findIdx?_eq_some_iff_getElem]
      refine ⟨by omega, ?_, fun j hji => ?_⟩
      · rw [leB_not (hhi _ (List.getElem?_eq_getElem (by omega)))]; rfl
      · rw [le_of _ (hlo j _ hji (List.getElem?_eq_getElem (by omega)))]; simp
    rw [h2]
attribute [local go_sem ↓] Go.wp_at_zero Go.wp_at_succ

set_option maxHeartbeats 2000000 in
theorem vSetP {e : Nat} {w : World} {v x : V} {cs cx : List Value} (name : ByteArray) (hnm : name.size ≤ maxLen) (hv : RepN (e + 1) w v cs) (hx : RepN (e + 1) w x cx) (hcv : v.cnt ≤ 1048576) (hcx : x.cnt ≤ 1048576) :
    Calls Tryz.prog 16 #[.agg cs.toArray, .string name, .agg cx.toArray] w fun r w' => (∃ c, r = .returned (.agg c.toArray) ∧ RepIn (fun b => w.heap.size ≤ b ∧ b < w'.heap.size) (e + 2) w' ⟨v.k, v.n, v.s, v.l, psetF name x v.f⟩ c) ∧ Below w.heap.size w w' := by
  have HV := hid hv
  have HX := hid hx
  obtain ⟨al, af, cl, cf, rfl, _⟩ := hv
  obtain ⟨al2, af2, cl2, cf2, rfl, _⟩ := hx
  go_enter Tryz.func16, Tryz.ntmps16
  go_wp2_with fail
  have hbw : Below w.heap.size w ((((w.alloc (.cells #[.int .i64 v.k, .int .i64 v.n, .string v.s, .slice al v.l.length cl, .slice af v.f.length cf] 40)).alloc (.cells #[.string name] 9)).alloc (.cells #[.int .i64 x.k, .int .i64 x.n, .string x.s, .slice al2 x.l.length cl2, .slice af2 x.f.length cf2] 40)).alloc (.cells #[.int .i64 0, .int .i64 0, .string ⟨#[]⟩, .slice none 0 0, .slice none 0 0] 40)) := by go_grown
  have A1 := (((At.new w #[.int .i64 v.k, .int .i64 v.n, .string v.s, .slice al v.l.length cl, .slice af v.f.length cf] 40 rfl).alloc (.cells #[.string name] 9)).alloc (.cells #[.int .i64 x.k, .int .i64 x.n, .string x.s, .slice al2 x.l.length cl2, .slice af2 x.f.length cf2] 40)).alloc (.cells #[.int .i64 0, .int .i64 0, .string ⟨#[]⟩, .slice none 0 0, .slice none 0 0] 40)
  have A2 := ((At.new (w.alloc (.cells #[.int .i64 v.k, .int .i64 v.n, .string v.s, .slice al v.l.length cl, .slice af v.f.length cf] 40)) #[.string name] 9 (b := w.heap.size + 1) (by simp)).alloc (.cells #[.int .i64 x.k, .int .i64 x.n, .string x.s, .slice al2 x.l.length cl2, .slice af2 x.f.length cf2] 40)).alloc (.cells #[.int .i64 0, .int .i64 0, .string ⟨#[]⟩, .slice none 0 0, .slice none 0 0] 40)
  have A3 := (At.new ((w.alloc (.cells #[.int .i64 v.k, .int .i64 v.n, .string v.s, .slice al v.l.length cl, .slice af v.f.length cf] 40)).alloc (.cells #[.string name] 9)) #[.int .i64 x.k, .int .i64 x.n, .string x.s, .slice al2 x.l.length cl2, .slice af2 x.f.length cf2] 40 (b := w.heap.size + 1 + 1) (by simp)).alloc (.cells #[.int .i64 0, .int .i64 0, .string ⟨#[]⟩, .slice none 0 0, .slice none 0 0] 40)
  have A4 := At.new (((w.alloc (.cells #[.int .i64 v.k, .int .i64 v.n, .string v.s, .slice al v.l.length cl, .slice af v.f.length cf] 40)).alloc (.cells #[.string name] 9)).alloc (.cells #[.int .i64 x.k, .int .i64 x.n, .string x.s, .slice al2 x.l.length cl2, .slice af2 x.f.length cf2] 40)) #[.int .i64 0, .int .i64 0, .string ⟨#[]⟩, .slice none 0 0, .slice none 0 0] 40 (b := w.heap.size + 1 + 1 + 1) (by simp)
  have HWS := hid (show ((((w.alloc (.cells #[.int .i64 v.k, .int .i64 v.n, .string v.s, .slice al v.l.length cl, .slice af v.f.length cf] 40)).alloc (.cells #[.string name] 9)).alloc (.cells #[.int .i64 x.k, .int .i64 x.n, .string x.s, .slice al2 x.l.length cl2, .slice af2 x.f.length cf2] 40)).alloc (.cells #[.int .i64 0, .int .i64 0, .string ⟨#[]⟩, .slice none 0 0, .slice none 0 0] 40)).heap.size = w.heap.size + 1 + 1 + 1 + 1 by simp)
  generalize (((w.alloc (.cells #[.int .i64 v.k, .int .i64 v.n, .string v.s, .slice al v.l.length cl, .slice af v.f.length cf] 40)).alloc (.cells #[.string name] 9)).alloc (.cells #[.int .i64 x.k, .int .i64 x.n, .string x.s, .slice al2 x.l.length cl2, .slice af2 x.f.length cf2] 40)).alloc (.cells #[.int .i64 0, .int .i64 0, .string ⟨#[]⟩, .slice none 0 0, .slice none 0 0] 40) = wb at *
  have HBW := hid hbw
  have hw4 := A4.lt
  have m1 := A1.cell
  have m3 := A3.cell
  have f1 := A1.free
  have f3 := A3.free
  have HA := hid (And.intro A1 (And.intro A2 (And.intro A3 A4)))
  have HVB := hid (HV.out.later hbw)
  have HXB := hid (HX.out.later hbw)
  clear hbw A1 A2 A3 A4
  have HCV := hid (fun (w1 : World) (h : Below wb.heap.size wb w1) => copy_says (w := w1) (HVB.out.later h) hcv)
  have HCX := hid (fun (w1 : World) (h : Below wb.heap.size wb w1) => copy_says (w := w1) (HXB.out.later h) hcx)
  go_cut [9] from 9 to 12 (fun _ wx => ∃ (S1 : Nat) (al3 af3 al4 af4 : Option Addr) (cl3 cf3 cl4 cf4 : Nat), Two e w S1 name v x al3 af3 al4 af4 cl3 cf3 cl4 cf4 wx)
  case first =>
    go_region_with (first
      | (go_at_call_of 30 (Value.agg #[.int .i64 v.k, .int .i64 v.n, .string v.s, .slice al v.l.length cl, .slice af v.f.length cf]); refine (HCV.out _ (by first | exact (Below.refl _ _).drew | exact Below.refl _ _)).mono ?_; rintro e1 w1 ⟨c1, rfl, hg1, hb1⟩; have HG1 := hid hg1; have HB1 := hid (show Below wb.heap.size wb w1 from below_undrew hb1); obtain ⟨al3, af3, cl3, cf3, bl3, bf3, rfl, _⟩ := hg1; have q1 := (HA.out.1.later HB1.out).cell; have q3 := (HA.out.2.2.1.later HB1.out).cell; have z3 := (HA.out.2.2.1.later HB1.out).lt; clear hb1)
      | (go_at_call_of 30 (Value.agg #[.int .i64 x.k, .int .i64 x.n, .string x.s, .slice al2 x.l.length cl2, .slice af2 x.f.length cf2]); refine (HCX.out _ (by first | exact HB1.out.drew | exact HB1.out)).mono ?_; rintro e2 w2 ⟨c2, rfl, hg2, hb2⟩; have HG2 := hid hg2; have HB2 := hid (by first | exact below_undrew hb2 | exact hb2 : Below w1.heap.size w1 w2); obtain ⟨al4, af4, cl4, cf4, bl4, bf4, rfl, _⟩ := hg2; have HB3 := hid (show Below wb.heap.size wb w2 from HB1.out.trans (HB2.out.mono HB1.out.size)); have u1 := (HA.out.1.later HB3.out).cell; have u3 := (HA.out.2.2.1.later HB3.out).cell; have y1 := (HA.out.1.later HB3.out).free; have y3 := (HA.out.2.2.1.later HB3.out).free; have s3 := (HA.out.2.2.1.later HB3.out).lt; clear hb2))
    all_goals go_wp2_with fail
    all_goals go_meet
    all_goals
      have HT := two_of HBW.out HWS.out HA.out.1 HA.out.2.1 HA.out.2.2.1 HA.out.2.2.2 HB1.out (HG1.out.low (by exact Nat.le_refl _)) HB2.out (HG2.out.low (by exact Nat.le_refl _))
      first
        | exact ⟨_, _, _, _, _, _, _, _, _, HT⟩
        | exact ⟨_, _, _, _, _, _, _, _, _, HT.drew⟩
  case rest =>
    clear m1 m3 f1 f3 HA HBW HVB HXB HCV HCX HWS hw4
    obtain ⟨S1, al3, af3, al4, af4, cl3, cf3, cl4, cf4, hT⟩ := hcut
    have HT := hid hT
    have hfl : v.f.length ≤ 1048576 := by
      have := cntF_ge v.f
      have := cnt_eq v
      omega
    have c1 := hT.bv.cell
    have z1 := hT.bv.lt
    have c2 := hT.bn.cell
    have c3 := hT.bx.cell
    have z3 := hT.bx.lt
    have HF := hid (find_says (w := wc) name v.f af3 cf3 (by unfold maxLen; omega) (show FAt e wc v.f af3 from by
      obtain ⟨al', af', cl', cf', hc, _, _, hF⟩ := hT.gv.rep
      simp only [List.cons.injEq, and_true, true_and, Value.slice.injEq] at hc
      obtain ⟨_, rfl, _⟩ := hc
      exact hF))
    clear hT
    go_wp2_with (go_at_call 31; fail)
    go_at_call 31
    refine HF.out.mono ?_
    rintro e1 w1 ⟨⟨r, rfl, hr⟩, hb1⟩
    have HT1 := hid (HT.out.later hb1)
    clear c1 z1 c2 c3 z3 HF hb1
    have c1 := HT1.out.bv.cell
    have z1 := HT1.out.bv.lt
    have c2 := HT1.out.bn.cell
    have c3 := HT1.out.bx.cell
    have z3 := HT1.out.bx.lt
    rcases hr with ⟨rfl, hno⟩ | ⟨i, q, rfl, hq, hp, hj⟩
    · have HNO := hid (show ∀ q ∈ v.f, q.1 ≠ name from fun q hq he => by have := hno q hq; rw [he] at this; simp at this)
      clear hno
      have HIX := hid (index_above (w := w1) name v.f af3 cf3 (w.heap.size + 1) (by unfold maxLen; omega) (show FAt e w1 v.f af3 from by
        obtain ⟨al', af', cl', cf', hc, _, _, hF⟩ := HT1.out.gv.rep
        simp only [List.cons.injEq, and_true, true_and, Value.slice.injEq] at hc
        obtain ⟨_, rfl, _⟩ := hc
        exact hF) HT1.out.bn)
      go_wp2_with (go_at_call 32; fail)
      go_at_call 32
      refine HIX.out.mono ?_
      rintro e2 w2 ⟨⟨r2, rfl, hr2⟩, hb2⟩
      have HT2 := hid (HT1.out.later hb2)
      clear c1 z1 c2 c3 z3 hb2 HIX HT1
      have c1 := HT2.out.bv.cell
      have z1 := HT2.out.bv.lt
      have c2 := HT2.out.bn.cell
      have z2 := HT2.out.bn.lt
      have c3 := HT2.out.bx.cell
      have z3 := HT2.out.bx.lt
      obtain ⟨O, hO, how, hk, hkW⟩ := row_of_copy HT2.out.gv
      have HO := hid hO
      have HOW := hid how
      have HK := hid hk
      have HKW := hid hkW
      have HNE := hid (show (Value.slice af3 v.f.length cf3).ownBlock ≠ some w2.heap.size from fun he => by have := (how.lt _ he).2; omega)
      have HON := hid (show ∀ u ∈ flatO O, u.oneCell' = true from fun u hu => by
        obtain ⟨o, ho, hu⟩ := List.mem_flatMap.1 hu
        unfold FC.cells at hu
        rcases List.mem_cons.1 hu with rfl | hu
        · rfl
        · have := rep_ones (hk o ho).2
          simp only [List.all_toArray, List.all_eq_true] at this
          exact this u hu)
      clear hO how hk hkW
      rcases hr2 with ⟨rfl, hall⟩ | ⟨t, q2, rfl, hq2, hp2, hj2⟩
      · have HTL := hid (Nat.le_refl v.f.length)
        have HLO := hid (show ∀ (i : Nat) (q : ByteArray × V), i < v.f.length → v.f[i]? = some q → ¬ Lt name q.1 from fun i q _ hq hlt => by
          have h : (!(leB q.1 name)) = false := hall q (List.mem_of_getElem? hq)
          rw [leB_not hlt] at h; cases h)
        have HHI := hid (show ∀ q, v.f[v.f.length]? = some q → Lt name q.1 from fun q hq => by simp at hq)
        clear hall
        have HRS := hid (pset_new name x v.f v.f.length HNO.out HTL.out HLO.out HHI.out)
        go_wp2_with (go_at_call 34; fail)
        go_at_call 34
        refine (insert_says (i := v.f.length) (HOW.out.alloc _) (by have := HT2.out.size; have := HT2.out.low; simp; omega) hfl HTL.out w2.heap.size _ _ _ _ _ _ (At.new w2 _ _ rfl) HNE.out (by simp [Value.oneCell']) HON.out).mono ?_
        rintro e3 w3 ⟨v', rfl, hown3, hgrow3⟩
        obtain ⟨gg, cap, rfl, hgg, _⟩ := own_form hown3 (by omega)
        have HSM := hid (show ∀ b, b < w2.heap.size → some b ≠ (Value.slice af3 v.f.length cf3).ownBlock → w3.heap[b]? = w2.heap[b]? from fun b h1 h2 => (hgrow3.block b (by simp; omega) h2).trans (heap_alloc_old w2 _ h1))
        have HBX := hid (show ∀ b, b < w.heap.size + 1 + 1 + 1 + 1 → some b ≠ (Value.slice af3 v.f.length cf3).ownBlock from fun b hb he => by have := (HOW.out.lt b he.symm).1; omega)
        have hz2 := HT2.out.br.lt
        have X1 : At w3 w.heap.size 40 #[.int .i64 v.k, .int .i64 v.n, .string v.s, .slice al3 v.l.length cl3, .slice af3 v.f.length cf3] := (HSM.out _ (by omega) (HBX.out _ (by omega))).trans HT2.out.bv
        have X4 : At w3 (w.heap.size + 1 + 1 + 1) 40 #[.int .i64 0, .int .i64 0, .string ⟨#[]⟩, .slice none 0 0, .slice none 0 0] := (HSM.out _ (by omega) (HBX.out _ (by omega))).trans HT2.out.br
        have hB3 : Below w.heap.size w w3 := (HT2.out.below.alloc HT2.out.below.size _).grown hgrow3 (by have := HT2.out.below.size; simp; omega) (fun k hk => by have := (HOW.out.lt k hk).1; omega)
        have HEND := hid (new_endL HT2.out hnm hfl HO.out HK.out HKW.out HTL.out hown3 (Nat.le_trans (by simp) hgrow3.size) hB3 HSM.out)
        have d1 := X1.cell
        have d2 := X1.lt
        have d3 := X1.free
        have hR := (Below.heap_setCell w3 ⟨w.heap.size, 4, none⟩ (.slice (some ⟨gg, 0, none⟩) (v.f.length + 1) cap) (w.heap.size + 1 + 1 + 1) (by simp; omega)).trans X4
        clear hown3 hgrow3 X1 hB3
        go_wp2_with (refine wpList_store_row rfl 40 (.tmp 6) (.tmp 44) rfl (w.heap.size + 1 + 1 + 1) #[.int .i64 v.k, .int .i64 v.n, .string v.s, .slice al3 v.l.length cl3, .slice (some ⟨gg, 0, none⟩) (v.f.length + 1) cap] rfl rfl 40 #[.int .i64 0, .int .i64 0, .string ⟨#[]⟩, .slice none 0 0, .slice none 0 0] hR (by kernel_rfl) rfl (by simp [Value.oneCell']) ?_)
        have rc := (At.setRow hR #[.int .i64 v.k, .int .i64 v.n, .string v.s, .slice al3 v.l.length cl3, .slice (some ⟨gg, 0, none⟩) (v.f.length + 1) cap]).cell
        refine bodyPost_ret (v := .agg #[.int .i64 v.k, .int .i64 v.n, .string v.s, .slice al3 v.l.length cl3, .slice (some ⟨gg, 0, none⟩) (v.f.length + 1) cap]) (by simp [results, Tryz.results16, go_sem, rc]) rfl ⟨⟨[.int .i64 v.k, .int .i64 v.n, .string v.s, .slice al3 v.l.length cl3, .slice (some ⟨gg, 0, none⟩) (v.f.length + 1) cap], rfl, ?_⟩, HEND.out.2⟩
        rw [HRS.out]
        exact HEND.out.1.mono fun b hb => ⟨by have := hb.1; omega, hb.2⟩
      · have ht2 := (List.getElem?_eq_some_iff.1 hq2).1
        have HTL := hid (Nat.le_of_lt ht2)
        have ht0 : ¬ (t : Int) < 0 := by omega
        have HLO := hid (show ∀ (i : Nat) (q : ByteArray × V), i < t → v.f[i]? = some q → ¬ Lt name q.1 from fun i q hi hq hlt => by
          have h : (!(leB q.1 name)) = false := hj2 i q hi hq
          rw [leB_not hlt] at h; cases h)
        have HHI := hid (show ∀ q, v.f[t]? = some q → Lt name q.1 from fun q hq => by
          rw [hq2] at hq; cases hq
          have hle : leB q2.1 name = false := by simpa using hp2
          rcases lt_tri name q2.1 with h | h | h
          · exact h
          · rw [leB_iff.2 (.inr h.symm)] at hle; cases hle
          · rw [leB_iff.2 (.inl h)] at hle; cases hle)
        clear hp2 hj2 hq2
        have HRS := hid (pset_new name x v.f t HNO.out HTL.out HLO.out HHI.out)
        go_wp2_with (go_at_call 34; fail)
        go_at_call 34
        refine (insert_says (i := t) (HOW.out.alloc _) (by have := HT2.out.size; have := HT2.out.low; simp; omega) hfl HTL.out w2.heap.size _ _ _ _ _ _ (At.new w2 _ _ rfl) HNE.out (by simp [Value.oneCell']) HON.out).mono ?_
        rintro e3 w3 ⟨v', rfl, hown3, hgrow3⟩
        obtain ⟨gg, cap, rfl, hgg, _⟩ := own_form hown3 (by omega)
        have HSM := hid (show ∀ b, b < w2.heap.size → some b ≠ (Value.slice af3 v.f.length cf3).ownBlock → w3.heap[b]? = w2.heap[b]? from fun b h1 h2 => (hgrow3.block b (by simp; omega) h2).trans (heap_alloc_old w2 _ h1))
        have HBX := hid (show ∀ b, b < w.heap.size + 1 + 1 + 1 + 1 → some b ≠ (Value.slice af3 v.f.length cf3).ownBlock from fun b hb he => by have := (HOW.out.lt b he.symm).1; omega)
        have hz2 := HT2.out.br.lt
        have X1 : At w3 w.heap.size 40 #[.int .i64 v.k, .int .i64 v.n, .string v.s, .slice al3 v.l.length cl3, .slice af3 v.f.length cf3] := (HSM.out _ (by omega) (HBX.out _ (by omega))).trans HT2.out.bv
        have X4 : At w3 (w.heap.size + 1 + 1 + 1) 40 #[.int .i64 0, .int .i64 0, .string ⟨#[]⟩, .slice none 0 0, .slice none 0 0] := (HSM.out _ (by omega) (HBX.out _ (by omega))).trans HT2.out.br
        have hB3 : Below w.heap.size w w3 := (HT2.out.below.alloc HT2.out.below.size _).grown hgrow3 (by have := HT2.out.below.size; simp; omega) (fun k hk => by have := (HOW.out.lt k hk).1; omega)
        have HEND := hid (new_endL HT2.out hnm hfl HO.out HK.out HKW.out HTL.out hown3 (Nat.le_trans (by simp) hgrow3.size) hB3 HSM.out)
        have d1 := X1.cell
        have d2 := X1.lt
        have d3 := X1.free
        have hR := (Below.heap_setCell w3 ⟨w.heap.size, 4, none⟩ (.slice (some ⟨gg, 0, none⟩) (v.f.length + 1) cap) (w.heap.size + 1 + 1 + 1) (by simp; omega)).trans X4
        clear hown3 hgrow3 X1 hB3
        go_wp2_with (refine wpList_store_row rfl 40 (.tmp 6) (.tmp 44) rfl (w.heap.size + 1 + 1 + 1) #[.int .i64 v.k, .int .i64 v.n, .string v.s, .slice al3 v.l.length cl3, .slice (some ⟨gg, 0, none⟩) (v.f.length + 1) cap] rfl rfl 40 #[.int .i64 0, .int .i64 0, .string ⟨#[]⟩, .slice none 0 0, .slice none 0 0] hR (by kernel_rfl) rfl (by simp [Value.oneCell']) ?_)
        have rc := (At.setRow hR #[.int .i64 v.k, .int .i64 v.n, .string v.s, .slice al3 v.l.length cl3, .slice (some ⟨gg, 0, none⟩) (v.f.length + 1) cap]).cell
        refine bodyPost_ret (v := .agg #[.int .i64 v.k, .int .i64 v.n, .string v.s, .slice al3 v.l.length cl3, .slice (some ⟨gg, 0, none⟩) (v.f.length + 1) cap]) (by simp [results, Tryz.results16, go_sem, rc]) rfl ⟨⟨[.int .i64 v.k, .int .i64 v.n, .string v.s, .slice al3 v.l.length cl3, .slice (some ⟨gg, 0, none⟩) (v.f.length + 1) cap], rfl, ?_⟩, HEND.out.2⟩
        rw [HRS.out]
        exact HEND.out.1.mono fun b hb => ⟨by have := hb.1; omega, hb.2⟩
    · have hi := (List.getElem?_eq_some_iff.1 hq).1
      have hi' : (i : Int) < v.f.length := by omega
      have hi0 : (0 : Int) ≤ (i : Int) := by omega
      have hqn : q.1 = name := toList_eq (by simpa using hp)
      obtain ⟨al', af', cl', cf', bl, bf, hc, _, ⟨_, hmf⟩, hrow, _, hF⟩ := HT1.out.gv
      simp only [List.cons.injEq, and_true, true_and, Value.slice.injEq] at hc
      obtain ⟨⟨rfl, rfl⟩, rfl, rfl⟩ := hc
      obtain ⟨c, ha, hbl, _, _, hcc, hrg⟩ := hF i q hq
      obtain ⟨cur, hcur, _⟩ := (hrow.2 (by omega)).1
      have hfz : ∀ o, w1.frozen? ⟨bf, o, none⟩ = false := fun o => frozen_of_row w1 bf o cur _ hcur
      obtain ⟨k1, n1, s1, a1, l1, c1', a2, l2, c2', rfl, g0, g1, g2, g3, g4⟩ := rep_cells hrg.rep hcc
      have HE := hid (found_endL HT1.out hq hqn ha)
      have HRS := hid (pset_found name x v.f i q hq hqn hj)
      have hbr := HT1.out.br
      have hlow : w.heap.size + 1 + 1 + 1 + 1 ≤ bf := hmf
      subst ha
      obtain ⟨W2, hW2⟩ : ∃ W2, W2 = store5o w1 bf (i * 6 + 1) (.int .i64 x.k) (.int .i64 x.n) (.string x.s) (.slice al4 x.l.length cl4) (.slice af4 x.f.length cf4) := ⟨_, rfl⟩
      rw [← hW2] at HE
      have HTH := hid (show w1.there bf (i * 6 + 1) 5 from fun j hj => ⟨by
        have hl : (j : Nat) < [Value.int .i64 k1, .int .i64 n1, .string s1, .slice a1 l1 c1', .slice a2 l2 c2'].length := by simpa using hj
        rw [hcc j _ (List.getElem?_eq_getElem hl)]; rfl, hfz _⟩)
      have k1' : At W2 w.heap.size 40 #[.int .i64 v.k, .int .i64 v.n, .string v.s, .slice al3 v.l.length cl3, .slice (some ⟨bf, 0, none⟩) v.f.length cf3] := by rw [hW2]; exact (s5o_other (by omega) _ _ _ _ _).trans HT1.out.bv
      have k4' : At W2 (w.heap.size + 1 + 1 + 1) 40 #[.int .i64 0, .int .i64 0, .string ⟨#[]⟩, .slice none 0 0, .slice none 0 0] := by rw [hW2]; exact (s5o_other (by omega) _ _ _ _ _).trans HT1.out.br
      have d1 := k1'.cell
      have d2 := k1'.lt
      have HW2 := hid hW2
      clear hF hrow hcc hrg hcur hp hj hq hqn HT hW2 hfz g0 g1 g2 g3 g4 hbr
      go_wp2_with (first
        | (refine wpStore5 rfl (.tmp 24) (.tmp 22) rfl bf (i * 6 + 1) _ _ _ _ _ rfl rfl HTH.out (by simp [Value.oneCell']) W2 HW2.out ?_)
        | (refine wpList_store_row rfl 40 (.tmp 6) (.tmp 25) rfl (w.heap.size + 1 + 1 + 1) #[.int .i64 v.k, .int .i64 v.n, .string v.s, .slice al3 v.l.length cl3, .slice (some ⟨bf, 0, none⟩) v.f.length cf3] rfl rfl 40 #[.int .i64 0, .int .i64 0, .string ⟨#[]⟩, .slice none 0 0, .slice none 0 0] k4' (by kernel_rfl) rfl (by simp [Value.oneCell']) ?_))
      have rc := (k4'.setRow #[.int .i64 v.k, .int .i64 v.n, .string v.s, .slice al3 v.l.length cl3, .slice (some ⟨bf, 0, none⟩) v.f.length cf3]).cell
      refine bodyPost_ret (v := .agg #[.int .i64 v.k, .int .i64 v.n, .string v.s, .slice al3 v.l.length cl3, .slice (some ⟨bf, 0, none⟩) v.f.length cf3]) (by simp [results, Tryz.results16, go_sem, rc]) rfl ⟨⟨[.int .i64 v.k, .int .i64 v.n, .string v.s, .slice al3 v.l.length cl3, .slice (some ⟨bf, 0, none⟩) v.f.length cf3], rfl, ?_⟩, HE.out.2⟩
      rw [HRS.out]
      exact HE.out.1.mono fun b hb => ⟨by have := hb.1; omega, hb.2⟩
end Go.Proofs.YtflcibmjblioaaaGreatDoor
