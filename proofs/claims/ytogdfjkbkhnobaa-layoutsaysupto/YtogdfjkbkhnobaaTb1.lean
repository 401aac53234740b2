/-
  Rows of rows: a new row, and a row in the place of another.
-/
import Derived.Test.YtogdfjkbkhnobaaTb
namespace Go.Proofs.Ytogdfjkbkhnobaa
open Go.Shelf Go.RowKit Go.Lib Go.Sort
set_option maxRecDepth 1000000

theorem Own2.old {w : World} {B : Nat} {v : Value} {R : List (List Int)} {vs : List Value} (h : Own2 w B v R vs) {k : Nat} {u : Value} (hu : vs[k]? = some u) {b : Nat} (hb : u.ownBlock = some b) : B ≤ b ∧ b < w.heap.size := by
  obtain ⟨ys, hy⟩ : ∃ ys, R[k]? = some ys := ⟨_, List.getElem?_eq_getElem (by have := (List.getElem?_eq_some_iff.1 hu).1; have := h.len; omega)⟩
  exact OwnI.block (h.row k u ys hu hy) hb
/-- One more row, that is new. -/
theorem Own2.add {W W1 w' : World} {B : Nat} {v v' u' : Value} {R : List (List Int)} {vs : List Value} {r' : List Int} (h : Own2 W B v R vs) (hB : B ≤ W.heap.size) (hb : Below W.heap.size W W1) (hO : OwnI W1 W.heap.size u' r')
    (h1 : w'.ownsRow B 26 1 v' (R.length + 1) (vs ++ [u'])) (hg : W1.grownBy w' v.ownBlock) (hv : v'.ownBlock = v.ownBlock ∨ v'.ownBlock = some W1.heap.size) : Own2 w' B v' (R ++ [r']) (vs ++ [u']) := by
  have hl := h.len
  have hsz := hb.size
  have hlt := World.ownsRow.lt h.own
  have hu' : ∀ {b : Nat}, u'.ownBlock = some b → W.heap.size ≤ b ∧ b < W1.heap.size := fun {b} e => World.ownsRow.lt hO b e
  have h2 := h.later hb
  have uv : u'.ownBlock = none ∨ u'.ownBlock ≠ v.ownBlock := by
    cases e : u'.ownBlock with
    | none => exact .inl rfl
    | some b => exact .inr fun q => by have := (hlt b q.symm).2; have := (hu' e).1; omega
  have hOw : OwnI w' B u' r' := by
    have q : OwnI w' W.heap.size u' r' := World.ownsRow.kept hO hg uv
    obtain ⟨q1, q2 | ⟨g, cap, cur, e, q3, q4⟩⟩ := q
    · exact ⟨q1, .inl q2⟩
    · exact ⟨q1, .inr ⟨g, cap, cur, e, Nat.le_trans hB q3, q4⟩⟩
  refine ⟨by rw [List.length_append]; exact h1, fun k u zs hu hz => ?_, fun k u hu => ?_, fun i j u x hij hu hx => ?_⟩
  · by_cases hk : k < vs.length
    · rw [List.getElem?_append_left hk] at hu
      rw [List.getElem?_append_left (by omega)] at hz
      exact World.ownsRow.kept (h2.row k u zs hu hz) hg (h.apart k u hu)
    · have hk2 : k = vs.length := by have := (List.getElem?_eq_some_iff.1 hu).1; simp at this; omega
      subst hk2
      rw [List.getElem?_append_right (Nat.le_refl _), Nat.sub_self] at hu
      rw [List.getElem?_append_right (by omega), hl, Nat.sub_self] at hz
      injection hu with hu
      injection hz with hz
      subst hu hz
      exact hOw
  · by_cases hk : k < vs.length
    · rw [List.getElem?_append_left hk] at hu
      rcases h.apart k u hu with q | q
      · exact .inl q
      · refine .inr fun e => ?_
        rcases hv with hv | hv
        · exact q (by rw [e, hv])
        · have := (h.old hu (e.trans hv)).2
          omega
    · have hk2 : k = vs.length := by have := (List.getElem?_eq_some_iff.1 hu).1; simp at this; omega
      subst hk2
      rw [List.getElem?_append_right (Nat.le_refl _), Nat.sub_self] at hu
      injection hu with hu
      subst hu
      rcases uv with q | q
      · exact .inl q
      · refine .inr fun e => ?_
        rcases hv with hv | hv
        · exact q (by rw [e, hv])
        · have := (hu' (e.trans hv)).2
          omega
  · have fresh : ∀ (k : Nat) (z : Value), vs[k]? = some z → (z.ownBlock = none ∨ z.ownBlock ≠ u'.ownBlock) ∧ (u'.ownBlock = none ∨ u'.ownBlock ≠ z.ownBlock) := fun k z hz => by
      cases e1 : z.ownBlock with
      | none => exact ⟨.inl rfl, by cases e2 : u'.ownBlock with | none => exact .inl rfl | some b => exact .inr (by simp)⟩
      | some a =>
        have q := (h.old hz e1).2
        cases e2 : u'.ownBlock with
        | none => exact ⟨.inr (by simp), .inl rfl⟩
        | some b =>
          have q2 := (hu' e2).1
          exact ⟨.inr (fun e => by injection e with e; omega), .inr (fun e => by injection e with e; omega)⟩
    by_cases hi : i < vs.length
    · rw [List.getElem?_append_left hi] at hu
      by_cases hj : j < vs.length
      · rw [List.getElem?_append_left hj] at hx
        exact h.two i j u x hij hu hx
      · have hk2 : j = vs.length := by have := (List.getElem?_eq_some_iff.1 hx).1; simp at this; omega
        subst hk2
        rw [List.getElem?_append_right (Nat.le_refl _), Nat.sub_self] at hx
        injection hx with hx
        subst hx
        exact (fresh i u hu).1
    · have hk2 : i = vs.length := by have := (List.getElem?_eq_some_iff.1 hu).1; simp at this; omega
      subst hk2
      rw [List.getElem?_append_right (Nat.le_refl _), Nat.sub_self] at hu
      injection hu with hu
      subst hu
      have hj : j < vs.length := by have := (List.getElem?_eq_some_iff.1 hx).1; simp at this; omega
      rw [List.getElem?_append_left hj] at hx
      exact (fresh j x hx).2
/-- A new row in the place of another. -/
theorem Own2.put {W w' : World} {B g n cap k : Nat} {R : List (List Int)} {vs : List Value} {u' : Value} {r' : List Int} (h : Own2 W B (.slice (some ⟨g, 0, none⟩) n cap) R vs) (hn : n = R.length) (hB : B ≤ W.heap.size) (hk : k < n) (hb : Below W.heap.size W w') (hO : OwnI w' W.heap.size u' r') :
    Own2 (w'.setCell ⟨g, k, none⟩ u') B (.slice (some ⟨g, 0, none⟩) n cap) (R.set k r') (vs.set k u') ∧ B ≤ g ∧ w'.frozen? ⟨g, k, none⟩ = false ∧ (∃ u, w'.cell? ⟨g, k, none⟩ = some u) ∧ g < w'.heap.size := by
  subst hn
  have hl := h.len
  have h2 := h.later hb
  have hsz := hb.size
  have hgb := World.ownsRow.lt h.own g rfl
  have hu' : ∀ {b : Nat}, u'.ownBlock = some b → W.heap.size ≤ b := fun {b} e => (World.ownsRow.lt hO b e).1
  have hs : w'.grownBy (w'.setCell ⟨g, k, none⟩ u') (some g) := ⟨rfl, rfl, rfl, by simp [World.setCell], fun q _ hq => Below.heap_setCell _ _ _ _ (fun e => hq (by rw [e]))⟩
  have hug : u'.ownBlock = none ∨ u'.ownBlock ≠ some g := by
    right; intro e; have := hu' e; omega
  have hOw : OwnI w' B u' r' := by
    obtain ⟨q1, q2 | ⟨g, cap, cur, e, q3, q4⟩⟩ := hO
    · exact ⟨q1, .inl q2⟩
    · exact ⟨q1, .inr ⟨g, cap, cur, e, Nat.le_trans hB q3, q4⟩⟩
  have fresh : ∀ (k : Nat) (z : Value), vs[k]? = some z → (z.ownBlock = none ∨ z.ownBlock ≠ u'.ownBlock) ∧ (u'.ownBlock = none ∨ u'.ownBlock ≠ z.ownBlock) := fun k z hz => by
    cases e1 : z.ownBlock with
    | none => exact ⟨.inl rfl, by cases e2 : u'.ownBlock with | none => exact .inl rfl | some b => exact .inr (by simp)⟩
    | some a =>
      have q := (h.old hz e1).2
      cases e2 : u'.ownBlock with
      | none => exact ⟨.inr (by simp), .inl rfl⟩
      | some b =>
        have q2 := hu' e2
        exact ⟨.inr (fun e => by injection e with e; omega), .inr (fun e => by injection e with e; omega)⟩
  refine ⟨⟨by rw [List.length_set]; exact row_set h2.own, fun j x ys hx hy => ?_, fun j x hx => ?_, fun i j x y hij hx hy => ?_⟩, hgb.1, ?_⟩
  · by_cases hj : j = k
    · subst hj
      rw [List.getElem?_set_self (by omega)] at hx
      rw [List.getElem?_set_self hk] at hy
      injection hx with hx
      injection hy with hy
      subst hx hy
      exact World.ownsRow.kept hOw hs hug
    · rw [List.getElem?_set_ne (fun e => hj e.symm)] at hx hy
      exact World.ownsRow.kept (h2.row j x ys hx hy) hs (h.apart j x hx)
  · by_cases hj : j = k
    · subst hj
      rw [List.getElem?_set_self (by omega)] at hx
      injection hx with hx
      subst hx
      exact hug
    · rw [List.getElem?_set_ne (fun e => hj e.symm)] at hx
      exact h.apart j x hx
  · by_cases hi : i = k
    · subst hi
      rw [List.getElem?_set_self (by omega)] at hx
      injection hx with hx
      subst hx
      rw [List.getElem?_set_ne hij] at hy
      exact (fresh j y hy).2
    · rw [List.getElem?_set_ne (fun e => hi e.symm)] at hx
      by_cases hj : j = k
      · subst hj
        rw [List.getElem?_set_self (by omega)] at hy
        injection hy with hy
        subst hy
        exact (fresh i x hx).1
      · rw [List.getElem?_set_ne (fun e => hj e.symm)] at hy
        exact h.two i j x y hij hx hy
  · obtain ⟨_, ⟨e, _⟩ | ⟨g', cap', cur, e, q3, q4, q5, q6, q7, q8⟩⟩ := h2.own
    · cases e
    · injection e with e1 en e2
      injection e1 with e1
      injection e1 with e1
      subst e1
      have hA : At w' g 26 cur := q4
      refine ⟨hA.free k, ?_, hA.lt⟩
      rw [hA.cell]
      exact ⟨_, Array.getElem?_eq_getElem (by rw [q7]; omega)⟩
section
variable {W : World} {ops : Array Oper} {rest : List Oper} {o : Oper} {act : Act} {Q : Exit → Act → World → Prop}
/-- One more in a row of one cell each, in a statement that draws its order. -/
theorem stepApp {K : Act → World → Prop} {E : Prop} {T ST : TypeId} {z : Value} {bytes : Nat} (hu : Try.prog.underlying ST = some (.slice T)) (hi : (Try.prog.info? T).map (fun i => (i.zero, i.size, i.bytes)) = some (some z, 1, bytes)) (hz : z.cells.size = 1) (hby : bytes ≤ 24)
    (hgd : o.guard = none) (s x : Operand) (ho : o.op = .call { callee := .builtin .append, args := #[s, x], argTypes := #[ST, ST] })
    (B : Nat) (v : Value) (n : Nat) (us : List Value) (hs : act.eval s = v) (hown : W.ownsRow B T 1 v n us) (ad : Addr) (m c : Nat) (news : List Value) (hx : act.eval x = .slice (some ad) m c) (hl : news.length = m) (hnews : ∀ j u, news[j]? = some u → W.cell? (ad.add j) = some u) (h1 : ∀ u ∈ news, u.oneCell' = true) (hlim : n + m ≤ 1000000000000) (hB : B ≤ W.heap.size)
    (h : ∀ v' w', w'.ownsRow B T 1 v' (us ++ news).length (us ++ news) → W.grownBy w' v.ownBlock → (v'.ownBlock = v.ownBlock ∨ v'.ownBlock = some W.heap.size) → K (act.put o.dst v') w') :
    if Region.wanted o (yielded ops act.tmps) = true then Oper.wp Try.prog o act W K Q else E := by
  have hw : Region.wanted o (yielded ops act.tmps) = true := by simp [Region.wanted, hgd]
  rw [if_pos hw]
  obtain ⟨iV, hiV, hv0, hv1, hv2⟩ := info_parts hi
  have hul : us.length = n := by have := hown.1; omega
  obtain ⟨v', w', hr, h2, h3, _, h5⟩ := run_append_own_at (P := Try.prog) W B ST o.type T iV z 1 bytes hu hiV hv0 hv1 hv2 hz (by decide) v n us hown ad m c news (by omega) hnews h1 (by unfold maxLen; omega) (Nat.le_trans (Nat.mul_le_mul (show n + m ≤ 1000000000000 by omega) hby) (by decide)) hB
  unfold Oper.wp execOp
  simp only [ho, resolve, invoke, builtin, Sem.run_bind, Sem.run_pure, Result.andThen_ok, List.map_toArray, List.map_cons, List.map_nil, hs, hx, hr]
  exact h v' w' (by rw [List.length_append, hul, hl]; exact h2) h3 h5
end
end Go.Proofs.Ytogdfjkbkhnobaa
