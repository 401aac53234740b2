/-
  A page's text, sign by sign (layout.Text).
-/
import Derived.Test.YtogdfjkbkhnobaaSo
import Derived.Test.YtogdfjkbkhnobaaCa
import Derived.Laws.RangeAny
namespace Go.Proofs.Ytogdfjkbkhnobaa
open Go.Shelf Go.RowKit Go.Lib Go.Sort
set_option maxRecDepth 1000000

/-- Rows of a call's own in a struct of slices. -/
structure RowsT (W : World) (B T : Nat) (ty : TypeId) (vs : List Value) (ts : List TypeId) (xs : List (List Value)) : Prop where
  at_ : At W T ty vs.toArray
  tb : T < B
  row : ∀ (i : Nat) v t x, vs[i]? = some v → ts[i]? = some t → xs[i]? = some x → W.ownsRow B t 1 v x.length x
  two : ∀ (i j : Nat) u v, i ≠ j → vs[i]? = some u → vs[j]? = some v → u.ownBlock = none ∨ u.ownBlock ≠ v.ownBlock
  lt : vs.length = ts.length
  lx : vs.length = xs.length
theorem RowsT.own {W : World} {B T : Nat} {ty : TypeId} {vs : List Value} {ts : List TypeId} {xs : List (List Value)} (h : RowsT W B T ty vs ts xs) {v : Value} (hv : v ∈ vs) : ∃ t x, W.ownsRow B t 1 v x.length x := by
  obtain ⟨i, hi, rfl⟩ := List.getElem_of_mem hv
  exact ⟨_, _, h.row i _ _ _ (List.getElem?_eq_getElem hi) (List.getElem?_eq_getElem (by have := h.lt; omega)) (List.getElem?_eq_getElem (by have := h.lx; omega))⟩
/-- All stays but the struct and its rows. -/
structure KeepT (T : Nat) (vs : List Value) (w w' : World) : Prop where
  os : w'.os = w.os
  tape : w'.tape = w.tape
  output : w'.output = w.output
  size : w.heap.size ≤ w'.heap.size
  block : ∀ k, k < w.heap.size → k ≠ T → (∀ v ∈ vs, v.ownBlock ≠ some k) → w'.heap[k]? = w.heap[k]?
theorem KeepT.but {W w' : World} {B T : Nat} {ty : TypeId} {vs : List Value} {ts : List TypeId} {xs : List (List Value)} (hR : RowsT W B T ty vs ts xs) (h : KeepT T vs W w') {w0 : World} (h0 : KeepBut T w0 W) (hB : w0.heap.size = B) : KeepBut T w0 w' :=
  ⟨h.os.trans h0.os, h.tape.trans h0.tape, h.output.trans h0.output, Nat.le_trans h0.size h.size, fun k hk hT => (h.block k (Nat.lt_of_lt_of_le hk h0.size) hT fun v hv e => by
    obtain ⟨t, x, q⟩ := hR.own hv
    have := (World.ownsRow.lt q k e).1
    omega).trans (h0.block k hk hT)⟩
theorem RowsT.kept {W w' : World} {B T : Nat} {ty : TypeId} {vs : List Value} {ts : List TypeId} {xs : List (List Value)} (h : RowsT W B T ty vs ts xs) (hb : Below W.heap.size W w') : RowsT w' B T ty vs ts xs :=
  ⟨h.at_.later hb, h.tb, fun i v t x h1 h2 h3 => World.ownsRow.kept (h.row i v t x h1 h2 h3) (grown_below hb) (by cases v.ownBlock <;> simp), h.two, h.lt, h.lx⟩
theorem RowsT.cell {W : World} {B T : Nat} {ty : TypeId} {vs : List Value} {ts : List TypeId} {xs : List (List Value)} (h : RowsT W B T ty vs ts xs) {i : Nat} {v : Value} (hv : vs[i]? = some v) : W.cell? ⟨T, i, none⟩ = some v := by
  rw [h.at_.cell]
  simpa using hv
/-- One more in one of its rows. -/
theorem RowsT.push {W w' : World} {B T i : Nat} {ty t : TypeId} {vs : List Value} {ts : List TypeId} {xs : List (List Value)} {v v' y : Value} {x : List Value} (h : RowsT W B T ty vs ts xs) (hv : vs[i]? = some v) (ht : ts[i]? = some t)
    (h1 : w'.ownsRow B t 1 v' (x ++ [y]).length (x ++ [y])) (hg : W.grownBy w' v.ownBlock) (hb : v'.ownBlock = v.ownBlock ∨ v'.ownBlock = some W.heap.size) :
    RowsT (w'.setCell ⟨T, i, none⟩ v') B T ty (vs.set i v') ts (xs.set i (x ++ [y])) ∧ KeepT T vs W (w'.setCell ⟨T, i, none⟩ v') := by
  have hT := h.at_.lt
  have hil := (List.getElem?_eq_some_iff.1 hv).1
  have ho : ∀ {k : Nat}, v.ownBlock = some k → B ≤ k := fun {k} e => by
    obtain ⟨t, x, q⟩ := h.own (List.mem_of_getElem? hv)
    exact (World.ownsRow.lt q k e).1
  have hT2 : At w' T ty vs.toArray := (hg.block T hT (fun e => by have := ho e.symm; have := h.tb; omega)).trans h.at_
  have hs : w'.grownBy (w'.setCell ⟨T, i, none⟩ v') (some T) := ⟨rfl, rfl, rfl, by simp [World.setCell], fun q _ hq => Below.heap_setCell _ _ _ _ (fun e => hq (by rw [e]))⟩
  have hnT : ∀ {u : Value} {k : Nat} {ys : List Value} {X : World}, X.ownsRow B k 1 u ys.length ys → u.ownBlock = none ∨ u.ownBlock ≠ some T := fun {u k ys X} q => by
    right; intro e
    have := (World.ownsRow.lt q T e).1
    have := h.tb
    omega
  have fresh : ∀ (j : Nat) (u : Value), vs[j]? = some u → u.ownBlock ≠ some W.heap.size := fun j u hu e => by
    obtain ⟨t, x, q⟩ := h.own (List.mem_of_getElem? hu)
    have := (World.ownsRow.lt q _ e).2
    omega
  refine ⟨⟨?_, h.tb, fun j u s z hu hs' hz => ?_, fun j k a b hjk ha hb' => ?_, by simpa using h.lt, by simpa using h.lx⟩, ⟨by rw [← hg.os]; rfl, by rw [← hg.tape]; rfl, by rw [← hg.output]; rfl, Nat.le_trans hg.size hs.size, fun k hk hkT hk2 => ?_⟩⟩
  · have : (w'.setCell ⟨T, i, none⟩ v').heap[T]? = some (.cells (vs.toArray.setIfInBounds i v') ty (0, 0)) := by
      unfold World.setCell
      have q : w'.heap[T]? = some (.cells vs.toArray ty (0, 0)) := hT2
      simp [Array.getElem?_modify, q]
    unfold At
    simpa using this
  · by_cases e : j = i
    · subst e
      rw [List.getElem?_set_self hil] at hu
      rw [List.getElem?_set_self (by have := h.lx; omega)] at hz
      injection hu with hu
      injection hz with hz
      subst hu hz
      rw [ht] at hs'
      injection hs' with hs'
      subst hs'
      exact World.ownsRow.kept h1 hs (hnT h1)
    · rw [List.getElem?_set_ne (fun q => e q.symm)] at hu hz
      have q := h.row j u s z hu hs' hz
      exact World.ownsRow.kept (World.ownsRow.kept q hg (h.two j i u v e hu hv)) hs (hnT q)
  · by_cases e : j = i
    · subst e
      rw [List.getElem?_set_self hil] at ha
      rw [List.getElem?_set_ne hjk] at hb'
      injection ha with ha
      subst ha
      rcases hb with e | e
      · rw [e]; exact h.two j k v b hjk hv hb'
      · right; rw [e]; exact fun q => fresh k b hb' q.symm
    · rw [List.getElem?_set_ne (fun q => e q.symm)] at ha
      by_cases e2 : k = i
      · subst e2
        rw [List.getElem?_set_self hil] at hb'
        injection hb' with hb'
        subst hb'
        rcases hb with e | e
        · rw [e]; exact h.two j k a v hjk ha hv
        · right; rw [e]; exact fresh j a ha
      · rw [List.getElem?_set_ne (fun q => e2 q.symm)] at hb'
        exact h.two j k a b hjk ha hb'
  · rw [Below.heap_setCell _ _ _ _ (fun e => hkT e)]
    exact hg.block k hk (fun e => hk2 v (List.mem_of_getElem? hv) e.symm)
/-- What is kept by one step and by the next one. -/
theorem KeepT.trans {T i : Nat} {a b c : World} {vs : List Value} {v v' : Value} (h : KeepT T vs a b) (k : KeepT T (vs.set i v') b c) (hv : vs[i]? = some v) (hb : v'.ownBlock = v.ownBlock ∨ ∃ n, v'.ownBlock = some n ∧ a.heap.size ≤ n) : KeepT T vs a c :=
  ⟨k.os.trans h.os, k.tape.trans h.tape, k.output.trans h.output, Nat.le_trans h.size k.size, fun q hq hT hn => (k.block q (Nat.lt_of_lt_of_le hq h.size) hT fun u hu e => by
    rcases List.mem_or_eq_of_mem_set hu with p | p
    · exact hn u p e
    · subst p
      rcases hb with e2 | ⟨n, e2, hn2⟩
      · exact hn v (List.mem_of_getElem? hv) (e2 ▸ e)
      · rw [e2] at e; injection e with e; omega).trans (h.block q hq hT hn)⟩
theorem KeepT.ahead {T : Nat} {a b c : World} {vs : List Value} (h : Below a.heap.size a b) (k : KeepT T vs b c) : KeepT T vs a c :=
  ⟨k.os.trans h.os, k.tape.trans h.tape, k.output.trans h.output, Nat.le_trans h.size k.size, fun q hq hT hn => (k.block q (Nat.lt_of_lt_of_le hq h.size) hT hn).trans (h.block q hq)⟩
/-- The signs, glyphs and lines of a text, in its struct. -/
def TxAt (W : World) (B T : Nat) (vs : List Value) (l : List (Int × Int × Int)) : Prop := RowsT W B T 28 vs [21, 3, 3] [l.map fun x => .int .i32 x.1, l.map fun x => .int .i64 x.2.1, l.map fun x => .int .i64 x.2.2]
theorem RowsT.store {W w' : World} {B T : Nat} {ty : TypeId} {vs : List Value} {ts : List TypeId} {xs : List (List Value)} (h : RowsT W B T ty vs ts xs) {v : Value} (hv : v ∈ vs) (hg : W.grownBy w' v.ownBlock) {i : Nat} {u : Value} (hu : vs[i]? = some u) : w'.cell? ⟨T, i, none⟩ = some u ∧ w'.frozen? ⟨T, i, none⟩ = false := by
  have hT2 : At w' T ty vs.toArray := (hg.block T h.at_.lt (fun e => by
    obtain ⟨t, x, q⟩ := h.own hv
    have := (World.ownsRow.lt q T e.symm).1
    have := h.tb
    omega)).trans h.at_
  exact ⟨by rw [hT2.cell]; simpa using hu, hT2.free i⟩
theorem own_form {w : World} {B T n : Nat} {v : Value} {us : List Value} (h : w.ownsRow B T 1 v n us) : ∃ a c, v = .slice a n c := by
  obtain ⟨_, ⟨e, h0⟩ | ⟨g, cap, cur, e, _⟩⟩ := h
  · exact ⟨none, 0, by rw [e, h0]⟩
  · exact ⟨_, cap, e⟩
section
variable {W : World} {ops : Array Oper} {rest : List Oper} {o : Oper} {act : Act} {Q : Exit → Act → World → Prop}
/-- One more in a row of one cell each. -/
theorem wpApp1 {T ST : TypeId} {z : Value} {bytes : Nat} (hu : Try.prog.underlying ST = some (.slice T)) (hi : (Try.prog.info? T).map (fun i => (i.zero, i.size, i.bytes)) = some (some z, 1, bytes)) (hz : z.cells.size = 1) (hby : bytes ≤ 24)
    (hgd : o.guard = none) (s x : Operand) (ho : o.op = .call { callee := .builtin .append, args := #[s, x], argTypes := #[ST, ST] })
    (B : Nat) (v : Value) (n : Nat) (us : List Value) (hs : act.eval s = v) (hown : W.ownsRow B T 1 v n us) (g : Nat) (y : Value) (hy : y.oneCell' = true) (hx : act.eval x = .slice (some ⟨g, 0, none⟩) 1 1) (hc : W.cell? ⟨g, 0, none⟩ = some y) (hlim : n ≤ 1000000000000) (hB : B ≤ W.heap.size)
    (h : ∀ v' w', w'.ownsRow B T 1 v' (us ++ [y]).length (us ++ [y]) → W.grownBy w' v.ownBlock → (v'.ownBlock = v.ownBlock ∨ v'.ownBlock = some W.heap.size) → wpList Try.prog ops Q rest (act.put o.dst v') w') : wpList Try.prog ops Q (o :: rest) act W := by
  obtain ⟨iV, hiV, hv0, hv1, hv2⟩ := info_parts hi
  have hul : us.length = n := by have := hown.1; omega
  refine wpList_append_own_at (P := Try.prog) _ hgd s x _ ho B _ iV _ 1 bytes hu hiV hv0 hv1 hv2 hz (by decide) v n _ hs hown ⟨g, 0, none⟩ 1 1 [y] hx rfl (fun j u hj => ?_) (fun u hu => by rw [List.mem_singleton] at hu; subst hu; exact hy) (by unfold maxLen; omega) ?_ hB ?_
  · match j, hj with
    | 0, hj => injection hj with hj; subst hj; rw [Lib.add_plain]; exact hc
    | j + 1, hj => simp at hj
  · exact Nat.le_trans (Nat.mul_le_mul (show n + 1 ≤ 1000000000001 by omega) hby) (by decide)
  · intro v' w' O2 g2 _ g3
    exact h v' w' (by rw [List.length_append, hul]; exact O2) g2 g3
end
theorem info32 : (Try.prog.info? 21).map (fun i => (i.zero, i.size, i.bytes)) = some (some (.int .i32 0), 1, 4) := by kernel_rfl
def AddRes (B T : Nat) (vs : List Value) (l : List (Int × Int × Int)) (W w' : World) : Prop := ∃ v1 v2 v3, TxAt w' B T [v1, v2, v3] l ∧ KeepT T vs W w'
set_option maxHeartbeats 4000000 in
theorem add_says (l : List (Int × Int × Int)) (r g n : Int) (W : World) (B T : Nat) (v1 v2 v3 : Value) (h : TxAt W B T [v1, v2, v3] l) (hB : B ≤ W.heap.size) (hl : l.length ≤ 1000000000000) :
    Calls Try.prog 18 #[.pointer (some ⟨T, 0, none⟩), .int .i32 r, .int .i64 g, .int .i64 n] W fun e w' => e = .returned (.tuple #[]) ∧ AddRes B T [v1, v2, v3] (l ++ [(r, g, n)]) W w' := by
  obtain ⟨a1, c1, e1⟩ := own_form (h.row 0 _ _ _ rfl rfl rfl)
  obtain ⟨a2, c2, e2⟩ := own_form (h.row 1 _ _ _ rfl rfl rfl)
  obtain ⟨a3, c3, e3⟩ := own_form (h.row 2 _ _ _ rfl rfl rfl)
  simp only [List.length_map] at e1 e2 e3
  have d1 := h.cell (i := 0) rfl
  have d2 := h.cell (i := 1) rfl
  have d3 := h.cell (i := 2) rfl
  have hT := h.at_.lt
  have HL := hid hl
  have hz := h
  unfold TxAt at hz
  have H0 := hid (hz.kept (w' := W.alloc (.cells #[.int .i32 r] 21)) ((Below.refl _ _).alloc (Nat.le_refl _) _))
  clear h hz hl
  subst e1 e2 e3
  go_enter Try.func18, Try.ntmps18
  go_wp2_with (first
    | (have := H2; at_builtin; go_loud (refine wpApp1 Try.underlying26 infoI rfl (by decide) rfl _ _ rfl B _ _ _ rfl ((H2.out.1.kept (w' := _) ((Below.refl _ _).alloc (Nat.le_refl _) _)).row 2 _ _ _ rfl rfl rfl) _ (.int .i64 n) rfl rfl (by rw [World.cell?_alloc_at _ _ _ _ (by simp [World.setCell])]; rfl) (by simpa using HL.out) (Nat.le_trans H2.out.2.2 (by simp)) ?_); intro v3' w3 q1 q2 q3; have H3 := hid (And.intro ((H2.out.1.kept (w' := _) ((Below.refl _ _).alloc (Nat.le_refl _) _)).push (i := 2) rfl rfl q1 q2 q3) q3); have z3 := ((H2.out.1.kept (w' := _) ((Below.refl _ _).alloc (Nat.le_refl _) _)).store (List.mem_of_getElem? (i := 2) rfl) q2 (i := 2) rfl); obtain ⟨z3a, z3b⟩ := z3; obtain ⟨b3, k3, f3⟩ := own_form q1; clear q1 q2 q3; simp only [List.length_append, List.length_map, List.length_singleton] at f3; subst f3)
    | (have := H1; at_builtin; go_loud (refine wpApp1 Try.underlying26 infoI rfl (by decide) rfl _ _ rfl B _ _ _ rfl ((H1.out.1.kept (w' := _) ((Below.refl _ _).alloc (Nat.le_refl _) _)).row 1 _ _ _ rfl rfl rfl) _ (.int .i64 g) rfl rfl (by rw [World.cell?_alloc_at _ _ _ _ (by simp [World.setCell])]; rfl) (by simpa using HL.out) (Nat.le_trans H1.out.2.2 (by simp)) ?_); intro v2' w2 q1 q2 q3; have P := ((H1.out.1.kept (w' := _) ((Below.refl _ _).alloc (Nat.le_refl _) _)).push (i := 1) rfl rfl q1 q2 q3); have H2 := hid (And.intro P.1 (And.intro (And.intro P.2 q3) (Nat.le_trans H1.out.2.2 (Nat.le_trans (by simp) P.2.size)))); clear P; obtain ⟨z2a, z2b⟩ := ((H1.out.1.kept (w' := _) ((Below.refl _ _).alloc (Nat.le_refl _) _)).store (List.mem_of_getElem? (i := 1) rfl) q2 (i := 1) rfl); obtain ⟨z2c, _⟩ := ((H1.out.1.kept (w' := _) ((Below.refl _ _).alloc (Nat.le_refl _) _)).store (List.mem_of_getElem? (i := 1) rfl) q2 (i := 2) rfl); obtain ⟨b2, k2, f2⟩ := own_form q1; clear q1 q2 q3; simp only [List.length_append, List.length_map, List.length_singleton] at f2; subst f2)
    | (at_builtin; go_loud (refine wpApp1 Try.underlying25 info32 rfl (by decide) rfl _ _ rfl B _ _ _ rfl (H0.out.row 0 _ _ _ rfl rfl rfl) _ (.int .i32 r) rfl rfl (by simp) (by simpa using HL.out) (by simp; omega) ?_); intro v1' w1 q1 q2 q3; have P := (H0.out.push (i := 0) rfl rfl q1 q2 q3); have H1 := hid (And.intro P.1 (And.intro (And.intro P.2 q3) (Nat.le_trans hB (Nat.le_trans (by simp) P.2.size)))); clear P; obtain ⟨z1a, z1b⟩ := (H0.out.store (List.mem_of_getElem? (i := 0) rfl) q2 (i := 0) rfl); obtain ⟨z1c, _⟩ := (H0.out.store (List.mem_of_getElem? (i := 0) rfl) q2 (i := 1) rfl); obtain ⟨z1d, _⟩ := (H0.out.store (List.mem_of_getElem? (i := 0) rfl) q2 (i := 2) rfl); obtain ⟨b1, k1, f1⟩ := own_form q1; clear q1 q2 q3; simp only [List.length_append, List.length_map, List.length_singleton] at f1; subst f1))
  go_end0
  refine ⟨rfl, .slice b1 (l.length + 1) k1, .slice b2 (l.length + 1) k2, .slice b3 (l.length + 1) k3, ?_, ?_⟩
  · unfold TxAt
    simp only [List.map_append, List.map_cons, List.map_nil]
    exact H3.out.1.1
  · have al : ∀ {X : World} {o : Obj}, Below X.heap.size X (X.alloc o) := fun {X o} => (Below.refl _ _).alloc (Nat.le_refl _) _
    have k23 := KeepT.trans (i := 1) (KeepT.ahead al H2.out.2.1.1) (KeepT.ahead al H3.out.1.2) rfl (H2.out.2.1.2.imp id fun e => ⟨_, e, by simp⟩)
    exact KeepT.trans (i := 0) (KeepT.ahead al H1.out.2.1.1) k23 rfl (H1.out.2.1.2.imp id fun e => ⟨_, e, by simp⟩)
end Go.Proofs.Ytogdfjkbkhnobaa
