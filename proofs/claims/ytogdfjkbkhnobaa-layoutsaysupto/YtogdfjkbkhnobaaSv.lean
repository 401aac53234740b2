/-
  Lines and words, plainly: what the laws ask.
-/
import Derived.Test.YtogdfjkbkhnobaaSu
namespace Go.Proofs.Ytogdfjkbkhnobaa
open Go.Shelf Go.RowKit Go.Lib Go.Sort
set_option maxRecDepth 1000000

theorem pushR_snoc (X : List (List Int)) (y : List Int) (z : Int) : pushR (X ++ [y]) z = X ++ [y ++ [z]] := by
  unfold pushR
  have e : (X ++ [y]).length - 1 = X.length := by simp
  rw [e, List.getElem?_append_right (Nat.le_refl _), Nat.sub_self, List.set_append_right _ _ (Nat.le_refl _), Nat.sub_self]
  simp
/-- Words of the first signs of a line. -/
structure WdInv (L : List Gy) (zs : List Int) (p : Nat) (X : List (List Int)) : Prop where
  flat : X.flatten = zs.take p
  ne : ∀ r ∈ X, r ≠ []
  at_ : ∀ (j k : Nat) (word : List Int), X[j]? = some word → k < word.length → newW L zs ((X.take j).flatten.length + k) = decide (k = 0)
theorem wdsP_inv (L : List Gy) (zs : List Int) : ∀ p, p ≤ zs.length → WdInv L zs p (wdsP L zs p)
  | 0, _ => ⟨by simp [wdsP], fun r h => by simp [wdsP] at h, fun j k word h => by simp [wdsP] at h⟩
  | p + 1, hp => by
    obtain ⟨h1, h2, h3⟩ := wdsP_inv L zs p (by omega)
    have hz : zs.take (p + 1) = zs.take p ++ [zs[p]?.getD 0] := by
      rw [List.take_succ_eq_append_getElem (by omega), List.getElem?_eq_getElem (by omega : p < zs.length)]
      rfl
    have hlen : (wdsP L zs p).flatten.length = p := by rw [h1, List.length_take]; omega
    rw [wdsP]
    by_cases hn : newW L zs p = true
    · rw [if_pos hn, pushR_snoc]
      refine ⟨by rw [List.flatten_append, h1, hz]; simp, fun r hr => ?_, fun j k word hj hk => ?_⟩
      · rcases List.mem_append.1 hr with q | q
        · exact h2 r q
        · rw [List.mem_singleton] at q; subst q; simp
      · by_cases hjl : j < (wdsP L zs p).length
        · rw [List.getElem?_append_left hjl] at hj
          rw [List.take_append_of_le_length (by omega)]
          exact h3 j k word hj hk
        · have hj2 : j = (wdsP L zs p).length := by have := (List.getElem?_eq_some_iff.1 hj).1; simp at this; omega
          subst hj2
          rw [List.getElem?_append_right (Nat.le_refl _), Nat.sub_self] at hj
          injection hj with hj
          subst hj
          have hk0 : k = 0 := by simp at hk; omega
          subst hk0
          rw [List.take_left, hlen, Nat.add_zero, hn]
          rfl
    · have hn' : newW L zs p = false := by cases h : newW L zs p; rfl; exact absurd h hn
      rw [if_neg hn]
      have hp0 : p ≠ 0 := fun e => by subst e; simp [newW] at hn'
      have hne : wdsP L zs p ≠ [] := fun e => by have := wdsP_pos L zs p (by omega); rw [e] at this; simp at this
      obtain ⟨X, y, e⟩ : ∃ X y, wdsP L zs p = X ++ [y] := ⟨_, _, (List.dropLast_concat_getLast hne).symm⟩
      rw [e] at h1 h2 h3 hlen ⊢
      rw [pushR_snoc]
      have hy : y ≠ [] := h2 y (by simp)
      refine ⟨?_, fun r hr => ?_, fun j k word hj hk => ?_⟩
      · rw [hz, ← h1]
        simp
      · rcases List.mem_append.1 hr with q | q
        · exact h2 r (by simp [q])
        · rw [List.mem_singleton] at q; subst q; simp
      · by_cases hjl : j < X.length
        · rw [List.getElem?_append_left hjl] at hj
          have q := h3 j k word (by rw [List.getElem?_append_left hjl]; exact hj) hk
          rw [List.take_append_of_le_length (by omega)] at q ⊢
          exact q
        · have hj2 : j = X.length := by have := (List.getElem?_eq_some_iff.1 hj).1; simp at this; omega
          subst hj2
          rw [List.getElem?_append_right (Nat.le_refl _), Nat.sub_self] at hj
          injection hj with hj
          subst hj
          rw [List.take_left]
          by_cases hk2 : k < y.length
          · have q := h3 X.length k y (by rw [List.getElem?_append_right (Nat.le_refl _), Nat.sub_self]; rfl) hk2
            rw [List.take_left] at q
            exact q
          · have hk3 : k = y.length := by simp at hk; omega
            subst hk3
            have e2 : X.flatten.length + y.length = p := by rw [← hlen]; simp
            have e3 : y.length ≠ 0 := by simpa using hy
            rw [e2, hn']
            simp [e3]
theorem wdsL_inv (L : List Gy) (r : List Int) : WdInv L r r.length (wdsP L r r.length) := wdsP_inv L r r.length (Nat.le_refl _)
theorem WdInv.whole {L : List Gy} {r : List Int} {X : List (List Int)} (h : WdInv L r r.length X) : X.flatten = r := by rw [h.flat, List.take_length]
/-- Where a word's sign stands in a line. -/
theorem flat_at {r : List Int} {X : List (List Int)} (h : X.flatten = r) {j k : Nat} {word : List Int} (hj : X[j]? = some word) (hk : k < word.length) : r[(X.take j).flatten.length + k]? = some word[k] := by
  have hjl := (List.getElem?_eq_some_iff.1 hj)
  have e : X = X.take j ++ word :: X.drop (j + 1) := by rw [← hjl.2, ← List.drop_eq_getElem_cons hjl.1, List.take_append_drop]
  rw [← h]
  conv => lhs; arg 1; rw [e]
  rw [List.flatten_append, List.getElem?_append_right (Nat.le_add_right _ _), Nat.add_sub_cancel_left, List.flatten_cons, List.getElem?_append_left hk, List.getElem?_eq_getElem hk]
theorem flat_next {X : List (List Int)} {j : Nat} {word : List Int} (hj : X[j]? = some word) : (X.take (j + 1)).flatten.length = (X.take j).flatten.length + word.length := by
  have hjl := (List.getElem?_eq_some_iff.1 hj)
  rw [List.take_succ_eq_append_getElem hjl.1, hjl.2, List.flatten_append]
  simp
theorem lnsP_ne (L : List Gy) (zs : List Int) : ∀ p, ∀ r ∈ lnsP L zs p, r ≠ []
  | 0, r, h => by simp [lnsP] at h
  | p + 1, r, h => by
    have ih := lnsP_ne L zs p
    rw [lnsP] at h
    have key : ∀ (X : List (List Int)), (∀ r ∈ X, r ≠ []) → ∀ y z, r ∈ pushR (X ++ [y]) z → r ≠ [] := fun X hX y z hr => by
      rw [pushR_snoc] at hr
      rcases List.mem_append.1 hr with q | q
      · exact hX r q
      · rw [List.mem_singleton] at q; subst q; simp
    split at h
    · exact key _ ih _ _ h
    · by_cases hne : lnsP L zs p = []
      · rw [hne] at h; simp [pushR] at h
      · rw [← List.dropLast_concat_getLast hne] at h
        exact key _ (fun r hr => ih r ((List.dropLast_sublist _).subset hr)) _ _ h
theorem flat_perm : ∀ {R R0 : List (List Int)}, R.length = R0.length → (∀ (k : Nat) (r r0 : List Int), R[k]? = some r → R0[k]? = some r0 → r.Perm r0) → R.flatten.Perm R0.flatten
  | [], [], _, _ => List.Perm.refl _
  | [], _ :: _, h, _ => by simp at h
  | _ :: _, [], h, _ => by simp at h
  | r :: R, r0 :: R0, h, hp => by
    rw [List.flatten_cons, List.flatten_cons]
    exact (hp 0 r r0 rfl rfl).append (flat_perm (by simpa using h) fun k x y hx hy => hp (k + 1) x y hx hy)
/-- What lines are. -/
structure LnF (L : List Gy) (R : List (List Int)) : Prop where
  perm : R.flatten.Perm (txP L L.length)
  ne : ∀ r ∈ R, r ≠ []
  srt : ∀ r ∈ R, r.Pairwise (LtX L)
theorem Lns.facts {L : List Gy} {R : List (List Int)} (h : Lns L R) : LnF L R := by
  obtain ⟨zs, h1, h2, h3, h4⟩ := h
  have hrow : ∀ r ∈ R, ∃ r0 ∈ lnsP L zs zs.length, r.Perm r0 ∧ r.Pairwise (LtX L) := fun r hr => by
    obtain ⟨k, hk, rfl⟩ := List.getElem_of_mem hr
    exact ⟨_, List.getElem_mem (by omega), h4 k _ _ (List.getElem?_eq_getElem hk) (List.getElem?_eq_getElem (by omega))⟩
  refine ⟨?_, fun r hr e => ?_, fun r hr => (hrow r hr).choose_spec.2.2⟩
  · refine (flat_perm h3 fun k r r0 a b => (h4 k r r0 a b).1).trans ?_
    rw [lnsP_flat L zs _ (Nat.le_refl _), List.take_length]
    exact h1
  · obtain ⟨r0, hr0, hp, _⟩ := hrow r hr
    rw [e] at hp
    exact lnsP_ne L zs _ r0 hr0 (List.nil_perm.1 hp)
theorem txP_nodup (L : List Gy) (p : Nat) : (txP L p).Nodup := by
  rw [List.nodup_iff_pairwise_ne]
  exact (txP_pair L p).imp fun h => by omega
theorem LnF.nodup {L : List Gy} {R : List (List Int)} (h : LnF L R) : R.flatten.Nodup := h.perm.nodup_iff.2 (txP_nodup L _)
theorem LnF.text {L : List Gy} {R : List (List Int)} (h : LnF L R) {z : Int} (hz : z ∈ R.flatten) : 0 ≤ z ∧ z < L.length ∧ 0 < (gyA L z).s.size := by
  have q := h.perm.mem_iff.1 hz
  have q2 := txP_mem q
  refine ⟨q2.1, q2.2, ?_⟩
  unfold txP at q
  obtain ⟨i, hi, rfl⟩ := List.mem_map.1 q
  simpa using (List.mem_filter.1 hi).2
/-- A sign that was not met before. -/
theorem LnF.fresh {L : List Gy} {R : List (List Int)} (h : LnF L R) {i p : Nat} {r : List Int} {z : Int} (hi : R[i]? = some r) (hp : r[p]? = some z) : z ∈ R.flatten ∧ z ∉ (R.take i).flatten ++ r.take p := by
  have hil := (List.getElem?_eq_some_iff.1 hi)
  have hpl := (List.getElem?_eq_some_iff.1 hp)
  have e : R.flatten = ((R.take i).flatten ++ r.take p) ++ (z :: (r.drop (p + 1) ++ (R.drop (i + 1)).flatten)) := by
    have e1 : R = R.take i ++ r :: R.drop (i + 1) := by rw [← hil.2, ← List.drop_eq_getElem_cons hil.1, List.take_append_drop]
    have e2 : r = r.take p ++ z :: r.drop (p + 1) := by rw [← hpl.2, ← List.drop_eq_getElem_cons hpl.1, List.take_append_drop]
    conv => lhs; rw [e1]
    rw [List.flatten_append, List.flatten_cons]
    conv => lhs; arg 2; arg 1; rw [e2]
    simp
  refine ⟨by rw [e]; simp, fun hz => ?_⟩
  have nd := h.nodup
  rw [e, List.nodup_append] at nd
  exact nd.2.2 z hz z (by simp) rfl
theorem LnF.left {L : List Gy} {R : List (List Int)} (h : LnF L R) {r : List Int} (hr : r ∈ R) {p q : Nat} (hpq : p < q) {x y : Int} (hx : r[p]? = some x) (hy : r[q]? = some y) : (gyA L x).ax ≤ (gyA L y).ax := by
  have hxl := (List.getElem?_eq_some_iff.1 hx)
  have hyl := (List.getElem?_eq_some_iff.1 hy)
  have q := (List.pairwise_iff_getElem.1 (h.srt r hr)) p q hxl.1 hyl.1 hpq
  rw [hxl.2, hyl.2] at q
  rcases q with a | ⟨a, _⟩
  · exact Int.le_of_lt a
  · exact Int.le_of_eq a
end Go.Proofs.Ytogdfjkbkhnobaa
