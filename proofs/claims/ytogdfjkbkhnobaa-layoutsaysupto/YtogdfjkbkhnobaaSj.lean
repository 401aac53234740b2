/-
  Rows of numbers in a row of a call's own.
-/
import Derived.Test.YtogdfjkbkhnobaaSi
namespace Go.Proofs.Ytogdfjkbkhnobaa
open Go.Shelf Go.RowKit Go.Lib Go.Sort
set_option maxRecDepth 1000000

/-- Rows of numbers in a row of headers, all of a call's own, no two in one block. -/
structure Own2 (w : World) (B : Nat) (v : Value) (R : List (List Int)) (vs : List Value) : Prop where
  own : w.ownsRow B 26 1 v R.length vs
  row : ∀ (k : Nat) u zs, vs[k]? = some u → R[k]? = some zs → OwnI w B u zs
  apart : ∀ (k : Nat) u, vs[k]? = some u → u.ownBlock = none ∨ u.ownBlock ≠ v.ownBlock
  two : ∀ (i j : Nat) u u', i ≠ j → vs[i]? = some u → vs[j]? = some u' → u.ownBlock = none ∨ u.ownBlock ≠ u'.ownBlock
theorem Own2.len {w : World} {B : Nat} {v : Value} {R : List (List Int)} {vs : List Value} (h : Own2 w B v R vs) : vs.length = R.length := by have := h.own.1; omega
theorem Own2.nil (w : World) (B : Nat) : Own2 w B (.slice none 0 0) [] [] := ⟨World.ownsRow_nil _ _ _ _, fun k u zs h => by simp at h, fun k u h => by simp at h, fun i j u u' _ h => by simp at h⟩
theorem Own2.at {w : World} {B : Nat} {v : Value} {R : List (List Int)} {vs : List Value} (h : Own2 w B v R vs) {k : Nat} (hk : k < R.length) : ∃ u zs, vs[k]? = some u ∧ R[k]? = some zs ∧ OwnI w B u zs :=
  have h1 : k < vs.length := by rw [h.len]; exact hk
  ⟨_, _, List.getElem?_eq_getElem h1, List.getElem?_eq_getElem hk, h.row k _ _ (List.getElem?_eq_getElem h1) (List.getElem?_eq_getElem hk)⟩
/-- What keeps all its blocks keeps it. -/
theorem Own2.kept {w w' : World} {B : Nat} {v : Value} {R : List (List Int)} {vs : List Value} {row : Option Nat} (h : Own2 w B v R vs) (hg : w.grownBy w' row) (h1 : v.ownBlock = none ∨ v.ownBlock ≠ row) (h2 : ∀ (k : Nat) u, vs[k]? = some u → u.ownBlock = none ∨ u.ownBlock ≠ row) : Own2 w' B v R vs :=
  ⟨h.own.kept hg h1, fun k u zs hu hz => World.ownsRow.kept (h.row k u zs hu hz) hg (h2 k u hu), h.apart, h.two⟩
theorem grown_below {w w' : World} (h : Below w.heap.size w w') : w.grownBy w' none := ⟨h.os, h.tape, h.output, h.size, fun k hk _ => h.block k hk⟩
theorem Own2.later {w w' : World} {B : Nat} {v : Value} {R : List (List Int)} {vs : List Value} (h : Own2 w B v R vs) (hb : Below w.heap.size w w') : Own2 w' B v R vs :=
  h.kept (grown_below hb) (by cases v.ownBlock <;> simp) (fun k u _ => by cases u.ownBlock <;> simp)
theorem OwnI.block {w : World} {B : Nat} {u : Value} {zs : List Int} (h : OwnI w B u zs) {b : Nat} (hb : u.ownBlock = some b) : B ≤ b ∧ b < w.heap.size := World.ownsRow.lt h b hb
/-- One empty row more. -/
theorem Own2.more {w w' : World} {B : Nat} {v v' : Value} {R : List (List Int)} {vs : List Value} (h : Own2 w B v R vs) (h1 : w'.ownsRow B 26 1 v' (R.length + 1) (vs ++ [.slice none 0 0])) (hg : w.grownBy w' v.ownBlock) (hb : v'.ownBlock = v.ownBlock ∨ v'.ownBlock = some w.heap.size) : Own2 w' B v' (R ++ [[]]) (vs ++ [.slice none 0 0]) := by
  have hl := h.len
  refine ⟨by rw [List.length_append]; exact h1, fun k u zs hu hz => ?_, fun k u hu => ?_, fun i j u u' hij hu hu' => ?_⟩
  · by_cases hk : k < vs.length
    · rw [List.getElem?_append_left hk] at hu
      rw [List.getElem?_append_left (by omega)] at hz
      exact World.ownsRow.kept (h.row k u zs hu hz) hg (h.apart k u hu)
    · have hk2 : k = vs.length := by have := (List.getElem?_eq_some_iff.1 hu).1; simp at this; omega
      subst hk2
      rw [List.getElem?_append_right (Nat.le_refl _), Nat.sub_self] at hu
      rw [List.getElem?_append_right (by omega), hl, Nat.sub_self] at hz
      injection hu with hu
      injection hz with hz
      subst hu hz
      exact World.ownsRow_nil _ _ _ _
  · by_cases hk : k < vs.length
    · rw [List.getElem?_append_left hk] at hu
      rcases h.apart k u hu with q | q
      · exact .inl q
      · refine .inr fun e => ?_
        rcases hb with hb | hb
        · exact q (by rw [e, hb])
        · obtain ⟨zs, hz⟩ : ∃ zs, R[k]? = some zs := ⟨_, List.getElem?_eq_getElem (by omega)⟩
          have := (OwnI.block (h.row k u zs hu hz) (e.trans hb)).2
          omega
    · have hk2 : k = vs.length := by have := (List.getElem?_eq_some_iff.1 hu).1; simp at this; omega
      subst hk2
      rw [List.getElem?_append_right (Nat.le_refl _), Nat.sub_self] at hu
      injection hu with hu
      subst hu
      exact .inl rfl
  · by_cases hk : i < vs.length
    · rw [List.getElem?_append_left hk] at hu
      by_cases hk' : j < vs.length
      · rw [List.getElem?_append_left hk'] at hu'
        exact h.two i j u u' hij hu hu'
      · have hk2 : j = vs.length := by have := (List.getElem?_eq_some_iff.1 hu').1; simp at this; omega
        subst hk2
        rw [List.getElem?_append_right (Nat.le_refl _), Nat.sub_self] at hu'
        injection hu' with hu'
        subst hu'
        cases hu2 : u.ownBlock with
        | none => exact .inl rfl
        | some b => exact .inr (by simp [Value.ownBlock])
    · have hk2 : i = vs.length := by have := (List.getElem?_eq_some_iff.1 hu).1; simp at this; omega
      subst hk2
      rw [List.getElem?_append_right (Nat.le_refl _), Nat.sub_self] at hu
      injection hu with hu
      subst hu
      exact .inl rfl
/-- A header is stored. -/
theorem row_set {w : World} {B n k g cap : Nat} {T : TypeId} {vs : List Value} {u : Value} (h : w.ownsRow B T 1 (.slice (some ⟨g, 0, none⟩) n cap) n vs) : (w.setCell ⟨g, k, none⟩ u).ownsRow B T 1 (.slice (some ⟨g, 0, none⟩) n cap) n (vs.set k u) := by
  obtain ⟨h1, ⟨h2, _⟩ | ⟨g', cap', cur, e, h3, h4, h5, h6, h7, h8⟩⟩ := h
  · cases h2
  · injection e with e1 _ e2
    injection e1 with e1
    injection e1 with e1
    subst e1 e2
    refine ⟨by simpa using h1, .inr ⟨g, cap, cur.setIfInBounds k u, rfl, h3, ?_, h5, h6, by simpa using h7, ?_⟩⟩
    · unfold World.setCell
      simp [Array.getElem?_modify, h4]
    · rw [Array.toList_setIfInBounds, List.take_set, h8]
/-- A row has one number more: the row, and then its header. -/
theorem Own2.push {W w' : World} {B g n cap k : Nat} {R : List (List Int)} {vs : List Value} {u u' : Value} {zs' : List Int} (h : Own2 W B (.slice (some ⟨g, 0, none⟩) n cap) R vs) (hn : n = R.length) (hu : vs[k]? = some u) (hk : k < n) (hO : OwnI w' B u' zs') (hg : W.grownBy w' u.ownBlock) (hb : u'.ownBlock = u.ownBlock ∨ u'.ownBlock = some W.heap.size) :
    Own2 (w'.setCell ⟨g, k, none⟩ u') B (.slice (some ⟨g, 0, none⟩) n cap) (R.set k zs') (vs.set k u') ∧ (g < W.heap.size ∧ B ≤ g) := by
  subst hn
  have hl := h.len
  have hgb := World.ownsRow.lt h.own g rfl
  have hs : ∀ {x : World}, x.grownBy (x.setCell ⟨g, k, none⟩ u') (some g) := fun {x} => ⟨rfl, rfl, rfl, by simp [World.setCell], fun q _ hq => Below.heap_setCell _ _ _ _ (fun e => hq (by rw [e]))⟩
  have hug : u'.ownBlock = none ∨ u'.ownBlock ≠ some g := by
    rcases hb with e | e
    · rw [e]; exact h.apart k u hu
    · right; rw [e]; intro q; injection q with q; omega
  have o1 := h.own.kept hg (by
    rcases h.apart k u hu with q | q
    · right; rw [q]; simp [Value.ownBlock]
    · exact .inr (fun e => q e.symm))
  refine ⟨⟨by rw [List.length_set]; exact row_set o1, fun j x ys hx hy => ?_, fun j x hx => ?_, fun i j x y hij hx hy => ?_⟩, hgb.2, hgb.1⟩
  · by_cases hj : j = k
    · subst hj
      rw [List.getElem?_set_self (by omega)] at hx
      rw [List.getElem?_set_self hk] at hy
      injection hx with hx
      injection hy with hy
      subst hx hy
      exact World.ownsRow.kept hO hs hug
    · rw [List.getElem?_set_ne (fun e => hj e.symm)] at hx hy
      refine World.ownsRow.kept (World.ownsRow.kept (h.row j x ys hx hy) hg (h.two j k x u hj hx hu)) hs (h.apart j x hx)
  · by_cases hj : j = k
    · subst hj
      rw [List.getElem?_set_self (by omega)] at hx
      injection hx with hx
      subst hx
      exact hug
    · rw [List.getElem?_set_ne (fun e => hj e.symm)] at hx
      exact h.apart j x hx
  · have fresh : ∀ (q : Nat) (z : Value), vs[q]? = some z → z.ownBlock = none ∨ z.ownBlock ≠ some W.heap.size := fun q z hz => by
      obtain ⟨ys, hy⟩ : ∃ ys, R[q]? = some ys := ⟨_, List.getElem?_eq_getElem (by have := (List.getElem?_eq_some_iff.1 hz).1; omega)⟩
      right; intro e
      have := (OwnI.block (h.row q z ys hz hy) e).2
      omega
    by_cases hi : i = k
    · subst hi
      rw [List.getElem?_set_self (by omega)] at hx
      injection hx with hx
      subst hx
      rw [List.getElem?_set_ne hij] at hy
      rcases hb with e | e
      · rw [e]; exact h.two i j u y hij hu hy
      · right; rw [e]
        rcases fresh j y hy with q | q
        · rw [q]; simp
        · exact fun z => q z.symm
    · rw [List.getElem?_set_ne (fun e => hi e.symm)] at hx
      by_cases hj : j = k
      · subst hj
        rw [List.getElem?_set_self (by omega)] at hy
        injection hy with hy
        subst hy
        rcases hb with e | e
        · rw [e]; exact h.two i j x u hij hx hu
        · rw [e]; exact fresh i x hx
      · rw [List.getElem?_set_ne (fun e => hj e.symm)] at hy
        exact h.two i j x y hij hx hy
end Go.Proofs.Ytogdfjkbkhnobaa
