/-
  A page's text (layout.Of).
-/
import Derived.Test.YtogdfjkbkhnobaaSp
namespace Go.Proofs.Ytogdfjkbkhnobaa
open Go.Shelf Go.RowKit Go.Lib Go.Sort
set_option maxRecDepth 1000000

/-- The signs of a glyph's text. -/
def rnT (g : Gy) : List Nat := (rns g.s.data.toList).getD []
/-- The signs of a glyph, of a word, of the first words of a line, of the first lines: each with its glyph and its line. -/
def sgG (L : List Gy) (i n : Int) : List (Int × Int × Int) := (rnT (gyA L i)).map fun r : Nat => ((r : Int), i, n)
def wdT (L : List Gy) (n : Int) (zs : List Int) : List (Int × Int × Int) := zs.flatMap fun i => sgG L i n
def lnT (L : List Gy) (n : Nat) (ws : List (List Int)) : Nat → List (Int × Int × Int)
  | 0 => []
  | k + 1 => lnT L n ws k ++ ((if k = 0 then [] else [(32, -1, (n : Int))]) ++ wdT L n (ws[k]?.getD []))
def txT (L : List Gy) (W : List (List (List Int))) : Nat → List (Int × Int × Int)
  | 0 => []
  | n + 1 => txT L W n ++ ((if n = 0 then [] else [(10, -1, (n : Int) - 1)]) ++ lnT L n (W[n]?.getD []) (W[n]?.getD []).length)
/-- What the page's text is. -/
def txL (L : List Gy) (R : List (List Int)) : List (Int × Int × Int) := txT L (wdsR L R) (wdsR L R).length
theorem rnT_len (g : Gy) : (rnT g).length ≤ g.s.size := by
  unfold rnT
  cases h : rns g.s.data.toList with
  | none => simp
  | some rs =>
    have q := (rns_some _ _ rs (Nat.le_refl _) h).2
    have q2 := (rns_len rs).1
    rw [← q] at q2
    simpa using q2
theorem sgG_len (L : List Gy) (i n : Int) (h : (gyA L i).s.size ≤ 60) : (sgG L i n).length ≤ 60 := by
  unfold sgG
  rw [List.length_map]
  exact Nat.le_trans (rnT_len _) h
theorem wdT_len (L : List Gy) (n : Int) : ∀ (zs : List Int), (∀ z ∈ zs, (gyA L z).s.size ≤ 60) → (wdT L n zs).length ≤ 60 * zs.length
  | [], _ => by simp [wdT]
  | z :: zs, h => by
    have q := wdT_len L n zs fun y hy => h y (by simp [hy])
    have q2 := sgG_len L z n (h z (by simp))
    show (sgG L z n ++ wdT L n zs).length ≤ _
    rw [List.length_append, List.length_cons]
    omega
/-- No line, no word is too long. -/
structure WOk (L : List Gy) (W : List (List (List Int))) : Prop where
  many : W.length ≤ 1000
  line : ∀ ws ∈ W, ws.length ≤ 1000
  word : ∀ ws ∈ W, ∀ zs ∈ ws, zs.length ≤ 1000 ∧ ∀ z ∈ zs, 0 ≤ z ∧ z < L.length
  text : ∀ z : Int, (gyA L z).s.size ≤ 60
theorem lnT_len {L : List Gy} {W : List (List (List Int))} (h : WOk L W) (n : Nat) {ws : List (List Int)} (hw : ws ∈ W) : ∀ k, (lnT L n ws k).length ≤ 60001 * k
  | 0 => by simp [lnT]
  | k + 1 => by
    have q := lnT_len h n hw k
    have q2 : (wdT L n (ws[k]?.getD [])).length ≤ 60000 := by
      cases e : ws[k]? with
      | none => simp [wdT]
      | some zs =>
        have := wdT_len L n zs (fun z _ => h.text z)
        have := (h.word ws hw zs (List.mem_of_getElem? e)).1
        simp only [Option.getD_some]
        omega
    rw [lnT, List.length_append, List.length_append]
    split <;> simp <;> omega
theorem txT_len {L : List Gy} {W : List (List (List Int))} (h : WOk L W) : ∀ n, (txT L W n).length ≤ 60001001 * n
  | 0 => by simp [txT]
  | n + 1 => by
    have q := txT_len h n
    have q2 : (lnT L n (W[n]?.getD []) (W[n]?.getD []).length).length ≤ 60001000 := by
      cases e : W[n]? with
      | none => simp [lnT]
      | some ws =>
        have := lnT_len h n (List.mem_of_getElem? e) ws.length
        have := h.line ws (List.mem_of_getElem? e)
        simp only [Option.getD_some]
        omega
    rw [txT, List.length_append, List.length_append]
    split <;> simp <;> omega
theorem gyA_size {L : List Gy} (hok : ∀ g ∈ L, GyOk g) (z : Int) : (gyA L z).s.size ≤ 60 := by
  unfold gyA
  cases e : L[z.toNat]? with
  | none => exact Nat.zero_le _
  | some g => exact (hok g (List.mem_of_getElem? e)).s
theorem pushR_mem {R : List (List Int)} {z : Int} {r : List Int} (h : r ∈ pushR R z) {y : Int} (hy : y ∈ r) : y = z ∨ ∃ q ∈ R, y ∈ q := by
  unfold pushR at h
  rcases List.mem_or_eq_of_mem_set h with q | q
  · exact .inr ⟨r, q, hy⟩
  · subst q
    rcases List.mem_append.1 hy with q | q
    · right
      cases e : R[R.length - 1]? with
      | none => rw [e] at q; simp at q
      | some x => rw [e] at q; exact ⟨x, List.mem_of_getElem? e, q⟩
    · exact .inl (by simpa using q)
theorem wdsP_mem (L : List Gy) (zs : List Int) : ∀ p, p ≤ zs.length → ∀ r ∈ wdsP L zs p, ∀ y ∈ r, y ∈ zs
  | 0, _, r, h, y, hy => by simp [wdsP] at h
  | p + 1, hp, r, h, y, hy => by
    rw [wdsP] at h
    rcases pushR_mem h hy with q | ⟨q, hq, hyq⟩
    · subst q
      rw [List.getElem?_eq_getElem (by omega : p < zs.length)]
      exact List.getElem_mem _
    · split at hq
      · rcases List.mem_append.1 hq with z | z
        · exact wdsP_mem L zs p (by omega) q z y hyq
        · rw [List.mem_singleton] at z; subst z; simp at hyq
      · exact wdsP_mem L zs p (by omega) q hq y hyq
theorem Lns.wOk {L : List Gy} {R : List (List Int)} (h : Lns L R) (hl : L.length ≤ 1000) (hok : ∀ g ∈ L, GyOk g) : WOk L (wdsR L R) := by
  refine ⟨?_, fun ws hw => ?_, fun ws hw zs hz => ?_, gyA_size hok⟩
  · unfold wdsR; rw [List.length_map]; exact Nat.le_trans h.many hl
  · obtain ⟨r, hr, rfl⟩ := List.mem_map.1 hw
    have := h.row hr
    exact Nat.le_trans (wdsP_len L r r.length) (by omega)
  · obtain ⟨r, hr, rfl⟩ := List.mem_map.1 hw
    have q := h.row hr
    refine ⟨Nat.le_trans (wdsP_row L r r.length zs hz) (by omega), fun z hzz => q.1 z (wdsP_mem L r r.length (Nat.le_refl _) zs hz z hzz)⟩
/-- The text so far. -/
def OfSo (T : Nat) (w2 wr : World) (l : List (Int × Int × Int)) : Prop := (∃ v1 v2 v3, TxAt wr w2.heap.size T [v1, v2, v3] l) ∧ KeepBut T w2 wr
/-- Iterators stay. -/
def KeepIt (w w' : World) : Prop := ∀ (k : Nat) (s : ByteArray) (pos : Nat), w.heap[k]? = some (.stringIter s pos) → w'.heap[k]? = some (.stringIter s pos)
theorem own_it {w : World} {B e n k pos : Nat} {v : Value} {xs : List Value} {s : ByteArray} (h : w.ownsRow B e 1 v n xs) (hk : w.heap[k]? = some (.stringIter s pos)) : v.ownBlock ≠ some k := by
  rcases h.2 with ⟨rfl, _⟩ | ⟨g, cap, cur, rfl, hb, hg, rest⟩
  · simp [Value.ownBlock]
  · intro e
    simp only [Value.ownBlock, Option.some.injEq] at e
    subst e
    rw [hk] at hg
    cases hg
theorem own_itAt {w : World} {B e n k pos : Nat} {v : Value} {xs : List Value} {s : ByteArray} (h : w.ownsRow B e 1 v n xs) (hk : w.heap[k]? = some (.stringIter s pos)) (pos' : Nat) : (w.iterAt k s pos').ownsRow B e 1 v n xs := by
  refine ⟨h.1, ?_⟩
  rcases h.2 with h0 | ⟨g, cap, cur, hv, hb, hg, rest⟩
  · exact .inl h0
  · refine .inr ⟨g, cap, cur, hv, hb, ?_, rest⟩
    rw [Lib.iterAt_other _ _ _ _ _ (fun e => by subst e; rw [hk] at hg; cases hg)]
    exact hg
theorem at_ne_it {w : World} {b k pos : Nat} {t : TypeId} {cs : Array Value} {s : ByteArray} (h : At w b t cs) (hk : w.heap[k]? = some (.stringIter s pos)) : b ≠ k := fun e => by
  subst e
  unfold At at h
  rw [hk] at h
  cases h
theorem OfSo.iterAt {T k pos : Nat} {w2 wr : World} {l : List (Int × Int × Int)} {s : ByteArray} (h : OfSo T w2 wr l) (hk : wr.heap[k]? = some (.stringIter s pos)) (hK : w2.heap.size ≤ k) (pos' : Nat) : OfSo T w2 (wr.iterAt k s pos') l := by
  obtain ⟨⟨v1, v2, v3, h⟩, hb⟩ := h
  refine ⟨⟨v1, v2, v3, ⟨?_, h.tb, fun i v t x h1 h2 h3 => own_itAt (h.row i v t x h1 h2 h3) hk pos', h.two, h.lt, h.lx⟩⟩, hb.os, hb.tape, hb.output, by rw [iterAt_size]; exact hb.size, fun q hq hT => ?_⟩
  · exact (Lib.iterAt_other _ _ _ _ _ (at_ne_it h.at_ hk)).trans h.at_
  · rw [Lib.iterAt_other _ _ _ _ _ (by omega)]
    exact hb.block q hq hT
theorem OfSo.then {T : Nat} {w2 wr w' : World} {l : List (Int × Int × Int)} (h : OfSo T w2 wr l) (hb : Below wr.heap.size wr w') : OfSo T w2 w' l := by
  obtain ⟨⟨v1, v2, v3, h⟩, k⟩ := h
  exact ⟨⟨v1, v2, v3, RowsT.kept h hb⟩, k.then hb⟩
def AddSo (T : Nat) (w2 wr : World) (l : List (Int × Int × Int)) (w' : World) : Prop := OfSo T w2 w' l ∧ KeepIt wr w'
theorem add_so {T : Nat} {w2 wr : World} {l : List (Int × Int × Int)} (h : OfSo T w2 wr l) (hl : l.length ≤ 1000000000000) (r g n : Int) :
    Calls Try.prog 18 #[.pointer (some ⟨T, 0, none⟩), .int .i32 r, .int .i64 g, .int .i64 n] wr fun e w' => e = .returned (.tuple #[]) ∧ AddSo T w2 wr (l ++ [(r, g, n)]) w' := by
  obtain ⟨⟨v1, v2, v3, h⟩, hb⟩ := h
  refine (add_says l r g n wr w2.heap.size T v1 v2 v3 h hb.size hl).mono ?_
  rintro e w' ⟨rfl, u1, u2, u3, h1, h2⟩
  refine ⟨rfl, ⟨⟨u1, u2, u3, h1⟩, KeepT.but h h2 hb rfl⟩, fun k s pos hk => ?_⟩
  refine (h2.block k (Array.getElem?_eq_some_iff.1 hk).1 (fun e => at_ne_it h.at_ hk e.symm) fun v hv => ?_).trans hk
  obtain ⟨t, x, q⟩ := RowsT.own h hv
  exact own_it q hk
end Go.Proofs.Ytogdfjkbkhnobaa
