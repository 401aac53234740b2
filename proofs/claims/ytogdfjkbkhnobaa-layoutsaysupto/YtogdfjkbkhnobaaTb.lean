/-
  Putting one more in its place, plainly; lines, one sign more; rows that are written into.
-/
import Derived.Test.YtogdfjkbkhnobaaSx0
namespace Go.Proofs.Ytogdfjkbkhnobaa
open Go.Shelf Go.RowKit Go.Lib Go.Sort
set_option maxRecDepth 1000000

/-- One more in its place. -/
theorem ins_sorted {f : Int → Int} {tie : Int → Int → Prop} {A C : List Int} {x : Int} (hs : (A ++ C).Pairwise (Lt f tie)) (htie : ∀ a ∈ A, tie a x) (hA : ∀ a, A.getLast? = some a → ¬ f x < f a) (hC : ∀ c ∈ C, f x < f c) : (A ++ x :: C).Pairwise (Lt f tie) := by
  rw [List.pairwise_append] at hs ⊢
  obtain ⟨h1, h2, h3⟩ := hs
  have hle : ∀ a ∈ A, f a ≤ f x := fun a ha => by
    have hne : A ≠ [] := fun e => by subst e; simp at ha
    have hl := hA _ (List.getLast?_eq_some_getLast hne)
    have hd : A = A.dropLast ++ [A.getLast hne] := (List.dropLast_concat_getLast hne).symm
    rw [hd] at ha h1
    rcases List.mem_append.1 ha with q | q
    · have := (List.pairwise_append.1 h1).2.2 a q (A.getLast hne) (by simp)
      rcases this with z | ⟨z, _⟩ <;> omega
    · rw [List.mem_singleton] at q; subst q; omega
  refine ⟨h1, List.pairwise_cons.2 ⟨fun c hc => .inl (hC c hc), h2⟩, fun a ha y hy => ?_⟩
  rcases List.mem_cons.1 hy with rfl | hy
  · have := hle a ha
    by_cases e : f a = f y
    · exact .inr ⟨e, htie a ha⟩
    · exact .inl (by omega)
  · exact h3 a ha y hy
/-- The one that moves and the one ahead of it change places. -/
theorem swap_list (A C : List Int) (a x : Int) : (((A ++ [a]) ++ x :: C).set (A.length + 1) a).set A.length x = A ++ x :: (a :: C) := by
  have e1 : ((A ++ [a]) ++ x :: C).set (A.length + 1) a = (A ++ [a]) ++ a :: C := by
    rw [List.set_append_right _ _ (by simp)]
    simp
  rw [e1, List.append_assoc, List.set_append_right _ _ (Nat.le_refl _), Nat.sub_self]
  rfl
/-- A number of a row is written. -/
theorem OwnI.set {w : World} {B g n cap k : Nat} {zs : List Int} (h : OwnI w B (.slice (some ⟨g, 0, none⟩) n cap) zs) (hn : n = zs.length) (y : Int) : OwnI (w.setCell ⟨g, k, none⟩ (.int .i64 y)) B (.slice (some ⟨g, 0, none⟩) n cap) (zs.set k y) := by
  subst hn
  have q := row_set (k := k) (u := .int .i64 y) h
  unfold OwnI
  rw [List.length_set, List.map_set]
  exact q
/-- A number's cell. -/
theorem OwnI.cell {w : World} {B g n cap k : Nat} {zs : List Int} {z : Int} (h : OwnI w B (.slice (some ⟨g, 0, none⟩) n cap) zs) (hk : zs[k]? = some z) : w.cell? ⟨g, k, none⟩ = some (.int .i64 z) ∧ w.frozen? ⟨g, k, none⟩ = false ∧ g < w.heap.size ∧ B ≤ g := by
  have hkl := (List.getElem?_eq_some_iff.1 hk).1
  obtain ⟨h1, ⟨h2, _⟩ | ⟨g', cap', cur, e, h3, h4, h5, h6, h7, h8⟩⟩ := h
  · cases h2
  · injection e with e1 en e2
    injection e1 with e1
    injection e1 with e1
    subst e1
    have hA : At w g 3 cur := h4
    refine ⟨?_, hA.free k, hA.lt, h3⟩
    have e0 : (zs.map (Value.int .i64))[k]? = some (.int .i64 z) := by rw [List.getElem?_map, hk]; rfl
    rw [← h8, Nat.mul_one, List.getElem?_take_of_lt hkl] at e0
    rw [hA.cell]
    simpa using e0
theorem OwnI.some {w : World} {B : Nat} {v : Value} {zs : List Int} (h : OwnI w B v zs) (h0 : 0 < zs.length) : ∃ g c, v = .slice (some ⟨g, 0, none⟩) zs.length c := by
  obtain ⟨_, ⟨_, h2⟩ | ⟨g, cap, cur, e, _⟩⟩ := h
  · omega
  · exact ⟨g, cap, e⟩
/-- Lines of the first p, each in order; the one that began the last line. -/
structure LnI (L : List Gy) (zs : List Int) (p : Nat) (R : List (List Int)) (first : Int) : Prop where
  len : R.length = (lnsP L zs p).length
  row : ∀ (k : Nat) (r r0 : List Int), R[k]? = some r → (lnsP L zs p)[k]? = some r0 → r.Perm r0 ∧ r.Pairwise (LtX L)
  fst : 0 < p → ∃ ys, (lnsP L zs p)[(lnsP L zs p).length - 1]? = some (first :: ys)
theorem LnI.nil (L : List Gy) (zs : List Int) : LnI L zs 0 [] 0 := ⟨rfl, fun k r r0 h => by simp at h, fun h => by omega⟩
theorem LnI.new {L : List Gy} {zs : List Int} {p : Nat} {R : List (List Int)} {first z : Int} (h : LnI L zs p R first) (hz : zs[p]? = some z) (hn : newL L (lnsP L zs p) z = true) : LnI L zs (p + 1) (R ++ [[z]]) z := by
  have e : lnsP L zs (p + 1) = lnsP L zs p ++ [[z]] := by
    rw [lnsP, hz]
    simp only [Option.getD_some]
    rw [if_pos hn, pushR_snoc]
    rfl
  refine ⟨by rw [e, List.length_append, List.length_append, h.len], fun k r r0 h1 h2 => ?_, fun _ => ⟨[], ?_⟩⟩
  · rw [e] at h2
    by_cases hk : k < R.length
    · rw [List.getElem?_append_left hk] at h1
      rw [List.getElem?_append_left (by have := h.len; omega)] at h2
      exact h.row k r r0 h1 h2
    · have hk2 : k = R.length := by have := (List.getElem?_eq_some_iff.1 h1).1; simp at this; omega
      subst hk2
      rw [List.getElem?_append_right (Nat.le_refl _), Nat.sub_self] at h1
      rw [List.getElem?_append_right (by have := h.len; omega), h.len, Nat.sub_self] at h2
      injection h1 with h1
      injection h2 with h2
      subst h1 h2
      exact ⟨List.Perm.refl _, List.pairwise_singleton _ _⟩
  · rw [e]
    simp
theorem LnI.more {L : List Gy} {zs : List Int} {p : Nat} {R : List (List Int)} {r t : List Int} {first z : Int} (h : LnI L zs p R first) (hp0 : 0 < p) (hz : zs[p]? = some z) (hn : newL L (lnsP L zs p) z = false) (hr : R[R.length - 1]? = some r) (ht : t.Perm (r ++ [z])) (hs : t.Pairwise (LtX L)) : LnI L zs (p + 1) (R.set (R.length - 1) t) first := by
  have hne : lnsP L zs p ≠ [] := fun e => by have := lnsP_pos L zs p hp0; rw [e] at this; simp at this
  obtain ⟨X, y, ex⟩ : ∃ X y, lnsP L zs p = X ++ [y] := ⟨_, _, (List.dropLast_concat_getLast hne).symm⟩
  have e : lnsP L zs (p + 1) = X ++ [y ++ [z]] := by
    rw [lnsP, hz]
    simp only [Option.getD_some]
    rw [if_neg (by rw [hn]; simp), ex, pushR_snoc]
  have hl := h.len
  rw [ex] at hl
  simp at hl
  obtain ⟨ys, hf⟩ := h.fst hp0
  rw [ex] at hf
  simp at hf
  refine ⟨by rw [e, List.length_set, hl]; simp, fun k r1 r0 h1 h2 => ?_, fun _ => ⟨ys ++ [z], ?_⟩⟩
  · rw [e] at h2
    by_cases hk : k < X.length
    · rw [List.getElem?_set_ne (by omega)] at h1
      rw [List.getElem?_append_left hk] at h2
      exact h.row k r1 r0 h1 (by rw [ex, List.getElem?_append_left hk]; exact h2)
    · have hk2 : k = X.length := by have := (List.getElem?_eq_some_iff.1 h2).1; simp at this; omega
      subst hk2
      rw [show R.length - 1 = X.length by omega, List.getElem?_set_self (by omega)] at h1
      rw [List.getElem?_append_right (Nat.le_refl _), Nat.sub_self] at h2
      injection h1 with h1
      injection h2 with h2
      subst h1 h2
      rw [show R.length - 1 = X.length by omega] at hr
      have q := (h.row X.length r y hr (by rw [ex]; simp)).1
      exact ⟨ht.trans (q.append_right [z]), hs⟩
  · rw [e]
    simp [hf]
theorem newL_eq {L : List Gy} {zs : List Int} {p : Nat} {R : List (List Int)} {first z : Int} (h : LnI L zs p R first) (hp0 : 0 < p) : newL L (lnsP L zs p) z = !lvl (gyA L first) (gyA L z) := by
  obtain ⟨ys, hf⟩ := h.fst hp0
  have := lnsP_pos L zs p hp0
  unfold newL
  rw [hf, decide_eq_false (by omega)]
  simp
theorem LnI.done {L : List Gy} {zs : List Int} {R : List (List Int)} {first : Int} (h : LnI L zs zs.length R first) (h1 : zs.Perm (txP L L.length)) (h2 : zs.Pairwise (LtY L)) : Lns L R := ⟨zs, h1, h2, h.len, h.row⟩
/-- Those of a row stand ahead in the order. -/
theorem LnI.mem {L : List Gy} {zs : List Int} {p : Nat} {R : List (List Int)} {first : Int} (h : LnI L zs p R first) (hp : p ≤ zs.length) {r : List Int} (hr : r ∈ R) : (∀ a ∈ r, a ∈ zs.take p) ∧ r.length ≤ p ∧ r.Pairwise (LtX L) := by
  obtain ⟨k, hk, rfl⟩ := List.getElem_of_mem hr
  have q := h.row k _ _ (List.getElem?_eq_getElem hk) (List.getElem?_eq_getElem (by have := h.len; omega))
  have hf := lnsP_flat L zs p hp
  have hm := List.getElem_mem (show k < (lnsP L zs p).length by have := h.len; omega)
  have hsub := List.sublist_flatten_of_mem hm
  rw [hf] at hsub
  refine ⟨fun a ha => hsub.subset (q.1.mem_iff.1 ha), ?_, q.2⟩
  rw [q.1.length_eq]
  refine Nat.le_trans hsub.length_le ?_
  rw [List.length_take]
  omega
theorem take_before {R : Int → Int → Prop} {zs : List Int} (h : zs.Pairwise R) {p : Nat} {z a : Int} (hz : zs[p]? = some z) (ha : a ∈ zs.take p) : R a z := by
  obtain ⟨hp, e⟩ := List.getElem?_eq_some_iff.1 hz
  obtain ⟨i, hi, rfl⟩ := List.getElem_of_mem ha
  rw [List.length_take] at hi
  rw [List.getElem_take, ← e]
  exact (List.pairwise_iff_getElem.1 h) i p (by omega) hp (by omega)
end Go.Proofs.Ytogdfjkbkhnobaa
