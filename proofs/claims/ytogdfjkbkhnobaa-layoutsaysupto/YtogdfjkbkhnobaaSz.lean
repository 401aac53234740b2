/-
  A page's text, plainly: what TopText asks.
-/
import Derived.Test.YtogdfjkbkhnobaaSv
namespace Go.Proofs.Ytogdfjkbkhnobaa
open Go.Shelf Go.RowKit Go.Lib Go.Sort
set_option maxRecDepth 1000000

/-- How many signs are of a glyph; the last one's line, and glyph. -/
def cntT (l : List (Int × Int × Int)) (x : Int) : Nat := l.countP fun t => t.2.1 == x
def lnLast (l : List (Int × Int × Int)) : Int := (l.getLast?.map fun t => t.2.2).getD 0
def ofLast (l : List (Int × Int × Int)) : Int := (l.getLast?.map fun t => t.2.1).getD (-1)
theorem cntT_snoc (l : List (Int × Int × Int)) (t : Int × Int × Int) (x : Int) : cntT (l ++ [t]) x = cntT l x + if t.2.1 = x then 1 else 0 := by
  unfold cntT
  rw [List.countP_append]
  by_cases e : t.2.1 = x <;> simp [e]
theorem lnLast_snoc (l : List (Int × Int × Int)) (t : Int × Int × Int) : lnLast (l ++ [t]) = t.2.2 := by simp [lnLast]
theorem ofLast_snoc (l : List (Int × Int × Int)) (t : Int × Int × Int) : ofLast (l ++ [t]) = t.2.1 := by simp [ofLast]
/-- What is asked of a sign, behind those ahead of it. -/
structure CondT (L : List Gy) (l : List (Int × Int × Int)) (x : Int × Int × Int) : Prop where
  line : lnLast l ≤ x.2.2 ∧ x.2.2 ≤ lnLast l + 1
  sep : x.2.1 < 0 → x.1 = 32 ∨ x.1 = 10
  sign : 0 ≤ x.2.1 → x.2.1 < L.length ∧ ∃ r : Nat, (rnT (gyA L x.2.1))[cntT l x.2.1]? = some r ∧ (r : Int) = x.1 ∧ (0 < cntT l x.2.1 → ofLast l = x.2.1)
def GoodT (L : List Gy) (l : List (Int × Int × Int)) : Prop := ∀ (i : Nat) x, l[i]? = some x → CondT L (l.take i) x
theorem GoodT.nil (L : List Gy) : GoodT L [] := fun i x h => by simp at h
theorem GoodT.snoc {L : List Gy} {l : List (Int × Int × Int)} {x : Int × Int × Int} (h : GoodT L l) (hx : CondT L l x) : GoodT L (l ++ [x]) := fun i y hy => by
  by_cases hi : i < l.length
  · rw [List.getElem?_append_left hi] at hy
    rw [List.take_append_of_le_length (by omega)]
    exact h i y hy
  · have e : i = l.length := by have := (List.getElem?_eq_some_iff.1 hy).1; simp at this; omega
    subst e
    rw [List.getElem?_append_right (Nat.le_refl _), Nat.sub_self] at hy
    injection hy with hy
    subst hy
    rw [List.take_left]
    exact hx
/-- The text so far: its signs are good, its last line, which glyphs were met. -/
structure StT (L : List Gy) (n : Int) (V : List Int) (l : List (Int × Int × Int)) : Prop where
  good : GoodT L l
  line : n - 1 ≤ lnLast l ∧ lnLast l ≤ n
  cnt : ∀ x : Int, 0 ≤ x → cntT l x = if x ∈ V then (rnT (gyA L x)).length else 0
theorem StT.sep {L : List Gy} {n : Int} {V : List Int} {l : List (Int × Int × Int)} (h : StT L n V l) : StT L n V (l ++ [(32, -1, n)]) := by
  refine ⟨h.good.snoc ⟨⟨h.line.2, by have := h.line.1; show n ≤ _; omega⟩, fun _ => .inl rfl, fun q => absurd q (show ¬ (0 : Int) ≤ -1 by decide)⟩, by rw [lnLast_snoc]; show n - 1 ≤ n ∧ n ≤ n; omega, fun x hx => ?_⟩
  rw [cntT_snoc, if_neg (show ¬ (-1 : Int) = x by omega), h.cnt x hx, Nat.add_zero]
theorem StT.down {L : List Gy} {n : Int} {V : List Int} {l : List (Int × Int × Int)} (h : StT L n V l) : StT L (n + 1) V (l ++ [(10, -1, n)]) := by
  refine ⟨h.good.snoc ⟨⟨h.line.2, by have := h.line.1; show n ≤ _; omega⟩, fun _ => .inr rfl, fun q => absurd q (show ¬ (0 : Int) ≤ -1 by decide)⟩, by rw [lnLast_snoc]; show n + 1 - 1 ≤ n ∧ n ≤ n + 1; omega, fun x hx => ?_⟩
  rw [cntT_snoc, if_neg (show ¬ (-1 : Int) = x by omega), h.cnt x hx, Nat.add_zero]
/-- The first k signs of a glyph. -/
theorem StT.part {L : List Gy} {n : Int} {V : List Int} {l : List (Int × Int × Int)} (h : StT L n V l) {z : Int} (h0 : 0 ≤ z) (h1 : z < L.length) (hz : z ∉ V) : ∀ k, k ≤ (rnT (gyA L z)).length →
    GoodT L (l ++ ((rnT (gyA L z)).take k).map fun r : Nat => ((r : Int), z, n)) ∧ (lnLast (l ++ ((rnT (gyA L z)).take k).map fun r : Nat => ((r : Int), z, n)) = if k = 0 then lnLast l else n) ∧ (0 < k → ofLast (l ++ ((rnT (gyA L z)).take k).map fun r : Nat => ((r : Int), z, n)) = z) ∧ ∀ x : Int, cntT (l ++ ((rnT (gyA L z)).take k).map fun r : Nat => ((r : Int), z, n)) x = cntT l x + if x = z then k else 0
  | 0, _ => by
    rw [List.take_zero, List.map_nil, List.append_nil]
    exact ⟨h.good, by simp, fun q => by omega, fun x => by simp⟩
  | k + 1, hk => by
    obtain ⟨i1, i2, i3, i4⟩ := StT.part h h0 h1 hz k (by omega)
    have e : (rnT (gyA L z)).take (k + 1) = (rnT (gyA L z)).take k ++ [(rnT (gyA L z))[k]'(by omega)] := List.take_succ_eq_append_getElem (by omega)
    rw [e, List.map_append, ← List.append_assoc]
    have hc : cntT l z = 0 := by rw [h.cnt z h0, if_neg hz]
    refine ⟨i1.snoc ⟨?_, fun q => ?_, fun _ => ⟨h1, (rnT (gyA L z))[k]'(by omega), ?_, rfl, fun q => ?_⟩⟩, ?_, fun _ => ?_, fun x => ?_⟩
    · rw [i2]
      show _ ≤ n ∧ n ≤ _
      have := h.line
      split <;> omega
    · exact absurd (show z < 0 from q) (by omega)
    · show (rnT (gyA L z))[cntT _ z]? = _
      rw [i4, hc, if_pos rfl, Nat.zero_add]
      exact List.getElem?_eq_getElem (by omega)
    · have q : 0 < cntT (l ++ ((rnT (gyA L z)).take k).map fun r : Nat => ((r : Int), z, n)) z := q
      rw [i4, hc, if_pos rfl] at q
      exact i3 (by omega)
    · rw [if_neg (by omega)]
      exact lnLast_snoc _ _
    · exact ofLast_snoc _ _
    · rw [List.map_cons, List.map_nil, cntT_snoc, i4]
      by_cases ex : x = z
      · subst ex; simp; omega
      · rw [if_neg ex, if_neg ex, if_neg (fun q => ex q.symm)]
theorem StT.glyph {L : List Gy} {n : Int} {V : List Int} {l : List (Int × Int × Int)} (h : StT L n V l) {z : Int} (h0 : 0 ≤ z) (h1 : z < L.length) (hz : z ∉ V) : StT L n (V ++ [z]) (l ++ sgG L z n) := by
  obtain ⟨i1, i2, _, i4⟩ := StT.part h h0 h1 hz _ (Nat.le_refl _)
  rw [List.take_length] at i1 i2 i4
  refine ⟨i1, ?_, fun x hx => ?_⟩
  · show n - 1 ≤ lnLast (l ++ (rnT (gyA L z)).map fun r : Nat => ((r : Int), z, n)) ∧ lnLast (l ++ (rnT (gyA L z)).map fun r : Nat => ((r : Int), z, n)) ≤ n
    rw [i2]
    have := h.line
    split <;> omega
  · show cntT (l ++ (rnT (gyA L z)).map fun r : Nat => ((r : Int), z, n)) x = _
    rw [i4, h.cnt x hx]
    by_cases e : x = z
    · subst e
      rw [if_neg hz, if_pos rfl, if_pos (by simp), Nat.zero_add]
    · have : (x ∈ V ++ [z]) = (x ∈ V) := by simp [e]
      simp only [this, if_neg e, Nat.add_zero]
theorem StT.word {L : List Gy} {n : Int} : ∀ (zs : List Int) {V : List Int} {l : List (Int × Int × Int)}, StT L n V l → (∀ z ∈ zs, 0 ≤ z ∧ z < L.length) → (V ++ zs).Nodup → StT L n (V ++ zs) (l ++ wdT L n zs)
  | [], V, l, h, _, _ => by show StT L n (V ++ []) (l ++ []); rw [List.append_nil, List.append_nil]; exact h
  | z :: zs, V, l, h, hz, hn => by
    have hzV : z ∉ V := fun q => by
      rw [List.nodup_append] at hn
      exact hn.2.2 z q z (by simp) rfl
    have h2 := h.glyph (hz z (by simp)).1 (hz z (by simp)).2 hzV
    have e : V ++ z :: zs = (V ++ [z]) ++ zs := by simp
    rw [e] at hn ⊢
    have h3 := StT.word zs h2 (fun y hy => hz y (by simp [hy])) hn
    have e2 : l ++ wdT L n (z :: zs) = (l ++ sgG L z n) ++ wdT L n zs := by
      show l ++ (sgG L z n ++ wdT L n zs) = _
      rw [List.append_assoc]
    rw [e2]
    exact h3
theorem nodup_left {a b : List Int} (h : (a ++ b).Nodup) : a.Nodup := (List.nodup_append.1 h).1
theorem StT.words {L : List Gy} {n : Nat} {V : List Int} {l : List (Int × Int × Int)} {ws : List (List Int)} (h : StT L n V l) (hb : ∀ zs ∈ ws, ∀ z ∈ zs, 0 ≤ z ∧ z < L.length) (hn : (V ++ ws.flatten).Nodup) : ∀ k, k ≤ ws.length → StT L n (V ++ (ws.take k).flatten) (l ++ lnT L n ws k)
  | 0, _ => by
    rw [List.take_zero, List.flatten_nil, List.append_nil]
    show StT L n V (l ++ [])
    rw [List.append_nil]
    exact h
  | k + 1, hk => by
    have ih := StT.words h hb hn k (by omega)
    have hwk : ws[k]? = some (ws[k]'(by omega)) := List.getElem?_eq_getElem (by omega)
    have ef : (ws.take (k + 1)).flatten = (ws.take k).flatten ++ ws[k]'(by omega) := by
      rw [List.take_succ_eq_append_getElem (by omega), List.flatten_append]
      simp
    have e : l ++ lnT L n ws (k + 1) = ((l ++ lnT L n ws k) ++ (if k = 0 then [] else [(32, -1, (n : Int))])) ++ wdT L n (ws[k]'(by omega)) := by
      rw [lnT, hwk]
      simp only [Option.getD_some, List.append_assoc]
    have hnd : (V ++ (ws.take (k + 1)).flatten).Nodup := by
      have e2 : V ++ ws.flatten = (V ++ (ws.take (k + 1)).flatten) ++ (ws.drop (k + 1)).flatten := by
        rw [List.append_assoc, ← List.flatten_append, List.take_append_drop]
      rw [e2] at hn
      exact nodup_left hn
    rw [ef] at hnd ⊢
    rw [← List.append_assoc] at hnd ⊢
    rw [e]
    refine StT.word _ ?_ (hb _ (List.getElem_mem _)) hnd
    split
    · rw [List.append_nil]; exact ih
    · exact ih.sep
theorem StT.lines {L : List Gy} {W : List (List (List Int))} (hb : ∀ ws ∈ W, ∀ zs ∈ ws, ∀ z ∈ zs, 0 ≤ z ∧ z < L.length) (hn : (W.map List.flatten).flatten.Nodup) : ∀ m, m ≤ W.length → StT L (if m = 0 then 0 else (m : Int) - 1) ((W.take m).map List.flatten).flatten (txT L W m)
  | 0, _ => ⟨GoodT.nil L, by simp [txT, lnLast], fun x _ => by simp [txT, cntT]⟩
  | m + 1, hm => by
    have ih := StT.lines hb hn m (by omega)
    have hwm : W[m]? = some (W[m]'(by omega)) := List.getElem?_eq_getElem (by omega)
    have ef : ((W.take (m + 1)).map List.flatten).flatten = ((W.take m).map List.flatten).flatten ++ (W[m]'(by omega)).flatten := by
      rw [List.take_succ_eq_append_getElem (by omega), List.map_append, List.flatten_append]
      simp
    have hnd : (((W.take (m + 1)).map List.flatten).flatten).Nodup := by
      have e2 : (W.map List.flatten).flatten = ((W.take (m + 1)).map List.flatten).flatten ++ ((W.drop (m + 1)).map List.flatten).flatten := by
        rw [← List.flatten_append, ← List.map_append, List.take_append_drop]
      rw [e2] at hn
      exact nodup_left hn
    have e : txT L W (m + 1) = (txT L W m ++ (if m = 0 then [] else [(10, -1, (m : Int) - 1)])) ++ lnT L m (W[m]'(by omega)) (W[m]'(by omega)).length := by
      rw [txT, hwm]
      simp only [Option.getD_some, List.append_assoc]
    have h1 : StT L (m : Nat) ((W.take m).map List.flatten).flatten (txT L W m ++ (if m = 0 then [] else [(10, -1, (m : Int) - 1)])) := by
      by_cases h0 : m = 0
      · subst h0
        rw [if_pos rfl] at ih ⊢
        rw [List.append_nil]
        exact ih
      · rw [if_neg h0] at ih ⊢
        have q := ih.down
        rw [show (m : Int) - 1 + 1 = m by omega] at q
        exact q
    rw [ef] at hnd ⊢
    have h2 := h1.words (ws := W[m]'(by omega)) (hb _ (List.getElem_mem _)) hnd _ (Nat.le_refl _)
    rw [List.take_length] at h2
    rw [e, if_neg (by omega), show ((m + 1 : Nat) : Int) - 1 = (m : Int) by omega]
    exact h2
/-- What TopText asks holds. -/
theorem Lns.text {L : List Gy} {R : List (List Int)} (h : Lns L R) : GoodT L (txL L R) ∧ ∀ x : Int, 0 ≤ x → x < L.length → cntT (txL L R) x = (rnT (gyA L x)).length := by
  have hf := h.facts
  have e1 : (wdsR L R).map List.flatten = R := by
    unfold wdsR
    rw [List.map_map]
    conv => rhs; rw [← List.map_id R]
    apply List.map_congr_left
    intro r _
    exact (wdsL_inv L r).whole
  have hb : ∀ ws ∈ wdsR L R, ∀ zs ∈ ws, ∀ z ∈ zs, 0 ≤ z ∧ z < L.length := fun ws hw zs hz z hzz => by
    obtain ⟨r, hr, rfl⟩ := List.mem_map.1 hw
    exact (h.row hr).1 z (wdsP_mem L r r.length (Nat.le_refl _) zs hz z hzz)
  have st := StT.lines hb (by rw [e1]; exact hf.nodup) _ (Nat.le_refl _)
  refine ⟨st.good, fun x h0 h1 => ?_⟩
  have q := st.cnt x h0
  rw [List.take_length, e1] at q
  unfold txL
  rw [q]
  by_cases hx : x ∈ R.flatten
  · rw [if_pos hx]
  · rw [if_neg hx]
    have hx2 : x ∉ txP L L.length := fun z => hx (hf.perm.mem_iff.2 z)
    have hz : (gyA L x).s.size = 0 := by
      by_cases hs : 0 < (gyA L x).s.size
      · exfalso
        apply hx2
        unfold txP
        refine List.mem_map.2 ⟨x.toNat, List.mem_filter.2 ⟨List.mem_range.2 (by omega), ?_⟩, by omega⟩
        have e : ((x.toNat : Nat) : Int) = x := by omega
        rw [e]
        exact decide_eq_true hs
      · omega
    have := rnT_len (gyA L x)
    omega
end Go.Proofs.Ytogdfjkbkhnobaa
