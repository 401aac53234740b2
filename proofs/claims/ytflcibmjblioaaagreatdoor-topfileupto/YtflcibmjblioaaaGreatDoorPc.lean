/-
  Joined: Lq, Pb, Pc.
-/
import Derived.Test.YtflcibmjblioaaaGreatDoorKf
import Derived.Test.YtflcibmjblioaaaGreatDoorLm
import Derived.Test.YtflcibmjblioaaaGreatDoorVi

/-
  A text that is built piece by piece, beside maps and rows that a call made later.
-/
namespace Go.Proofs.YtflcibmjblioaaaGreatDoor
open Go.RowKit Go.Lib Go.Maps
set_option maxRecDepth 1000000

/-- All is as it was but one block and rows of bytes; all ahead of that block. -/
structure KeepO (P : Nat) (w w' : World) : Prop where
  others : Lib.OthersKept 5 (some P) w w'
  below : Below P w w'
theorem KeepO.refl (P : Nat) (w : World) : KeepO P w w := ⟨Lib.OthersKept.refl _ _ _, Below.refl _ _⟩
theorem KeepO.trans {P : Nat} {a b c : World} (h : KeepO P a b) (k : KeepO P b c) : KeepO P a c := ⟨h.others.trans k.others, h.below.trans k.below⟩
theorem KeepO.of {P : Nat} {w w' : World} (h : Below w.heap.size w w') (hP : P ≤ w.heap.size) : KeepO P w w' := ⟨fun k _ hk _ _ => (h.block k (Array.getElem?_eq_some_iff.1 hk).1).trans hk, h.mono hP⟩
theorem KeepO.at_ {P : Nat} {w w' : World} (h : KeepO P w w') {b : Nat} {t : TypeId} {cs : Array Value} (ha : At w b t cs) (hb : b ≠ P) (ht : t ≠ 5) : At w' b t cs := h.others b _ ha (by simpa using hb) (fun c fz e => by cases e; exact ht rfl)
theorem MapZ.others {P : Nat} {w w' : World} {b n : Nat} {m : Int → Option Int} (h : MapZ w b n m) (hk : KeepO P w w') (hb : b ≠ P) : MapZ w' b n m := by
  obtain ⟨D, h1, h2⟩ := h
  obtain ⟨es, clock, hh, F, hs, hD⟩ := h1
  exact ⟨D, ⟨es, clock, hk.others b _ hh (by simpa using hb) (fun c fz e => by cases e), F, hs, hD⟩, h2⟩
/-- A builder, and what was written. -/
def Bd (P B : Nat) (w : World) (xs : List UInt8) : Prop := P < B ∧ B ≤ w.heap.size ∧ ∃ ad v, (ad = .pointer none ∨ ad = .pointer (some ⟨P, 0, none⟩)) ∧ BdC w P ad v ∧ Own8 w B v xs ∧ (xs = [] → v = .slice none 0 0)
theorem Bd.new (w : World) : Bd w.heap.size (w.heap.size + 1) (w.alloc (.cells #[.pointer none, .slice none 0 0] 83)) [] := ⟨Nat.lt_succ_self _, by simp, _, _, .inl rfl, At.new w _ _ rfl, Own8.nil _ _, fun _ => rfl⟩
theorem Bd.later {P B : Nat} {w w' : World} {xs : List UInt8} (h : Bd P B w xs) (hb : Below w.heap.size w w') : Bd P B w' xs := by
  obtain ⟨h1, h2, ad, v, h3, h4, h5, h6⟩ := h
  exact ⟨h1, Nat.le_trans h2 hb.size, ad, v, h3, At.later h4 hb, World.ownsRow.kept h5 (row := none) ⟨hb.os, hb.tape, hb.output, hb.size, fun k hk _ => hb.block k hk⟩ (by cases v.ownBlock <;> simp), h6⟩
/-- Another block is written. -/
theorem Bd.keep {P B b : Nat} {w w' : World} {xs : List UInt8} (h : Bd P B w xs) (hk : KeepS (fun k => k = b) w w') (hbP : b ≠ P) (hu : ∀ c fz, w.heap[b]? ≠ some (.cells c 5 fz)) : Bd P B w' xs := by
  obtain ⟨h1, h2, ad, v, h3, h4, h5, h6⟩ := h
  refine ⟨h1, Nat.le_trans h2 hk.size, ad, v, h3, hk.at_ h4 (fun e => hbP e.symm), World.ownsRow.kept h5 (row := some b) ⟨hk.os, hk.tape, hk.output, hk.size, fun k hk' hne => hk.block k hk' (fun e => hne (by rw [e]))⟩ (.inr fun e => ?_), h6⟩
  obtain ⟨c, fz, hc⟩ := own8_kind h5 b e
  exact hu c fz hc
set_option maxHeartbeats 2000000 in
theorem write_bd {P B : Nat} {w : World} {xs : List UInt8} (s : ByteArray) (h : Bd P B w xs) (hl : xs.length + s.size ≤ 100000000) (hs : s.size ≠ 0) :
    Calls Tryz.prog 35 #[.pointer (some ⟨P, 0, none⟩), .string s] w fun e w' => e = .returned (.tuple #[.int .i64 s.size, .nilIface]) ∧ Bd P B w' (xs ++ s.data.toList) ∧ KeepO P w w' := by
  obtain ⟨hP, hB, ad, v, h, hA, hO, h6⟩ := h
  have HC := hid (copyCheck_says P ad v w h hA)
  have HO := hid hO
  have hPl := hA.lt
  have hne : xs ++ s.data.toList ≠ [] := fun e => hs (by rw [szL, (List.append_eq_nil_iff.1 e).2]; rfl)
  clear hA hO h h6
  go_enter Tryz.func35, Tryz.ntmps35
  go_wp2_with (go_at_call 62; fail)
  go_at_call 62
  refine HC.out.mono ?_
  rintro e w1 ⟨rfl, A1, K1⟩
  have c1 := A1.cell 1
  have f1 := A1.free 1
  have z1 := A1.lt
  simp at c1
  have hB1 : B ≤ w1.heap.size := Nat.le_trans hB K1.size
  have HO1 := hid (World.ownsRow.kept HO.out (row := some P) ⟨K1.os, K1.tape, K1.output, K1.size, fun i hi hne => K1.block i hi (fun e => hne (by rw [e]))⟩ (.inr fun e => by have := (World.ownsRow.lt HO.out P e).1; omega))
  have hk1 : KeepO P w w1 := ⟨fun k o hk hn _ => (K1.block k (Array.getElem?_eq_some_iff.1 hk).1 (fun e => hn (by rw [e]))).trans hk, ⟨K1.os, K1.tape, K1.output, K1.size, fun k hk => K1.block k (by omega) (by omega)⟩⟩
  go_wp2_with (at_builtin; refine wpApp8s rfl _ _ rfl B _ xs rfl HO1.out s rfl s.data.toList rfl (by omega) hB1 ?_; intro v2 w2 ho2 hk2; obtain ⟨a2, n2, k2, e2⟩ : ∃ a n k, v2 = Value.slice a n k := (own8_sl ho2); subst e2; replace ho2 := hid ho2; have A2 : BdC w2 P (.pointer (some ⟨P, 0, none⟩)) v := hk2.at (by decide) A1; have c2 := A2.cell 1; have f2 := A2.free 1; have z2 := A2.lt; simp at c2; clear c1 f1)
  have hk3 : KeepO P w w2 := hk1.trans ⟨fun k o hk _ hc => hk2.others k o hk (by simp) hc, hk2.below.mono (by omega)⟩
  go_ret2
  refine ⟨rfl, ⟨hP, ?_, _, .slice a2 n2 k2, .inr rfl, ?_, ?_, fun e => absurd e hne⟩, ⟨hk3.others.setCell ⟨P, 1, none⟩ rfl _, hk3.below.setCell (p := ⟨P, 1, none⟩) (Nat.le_refl _) _⟩⟩
  · rw [show (w2.setCell ⟨P, 1, none⟩ (.slice a2 n2 k2)).heap.size = w2.heap.size by simp [World.setCell]]
    exact Nat.le_trans hB1 hk2.below.size
  · unfold BdC At
    rw [setCell_eq_setRow w2 P 1 _ _ (0, 0) _ A2]
    exact setRow_heap w2 P _ _ _ _ A2
  · exact World.ownsRow.kept ho2.out (row := some P) ⟨rfl, rfl, rfl, by simp [World.setCell], fun i hi hne => Below.heap_setCell _ _ _ _ (fun e => hne (by rw [e]))⟩ (.inr fun e => by have := (World.ownsRow.lt ho2.out P e).1; omega)
theorem len_bd {P B : Nat} {w : World} {xs : List UInt8} (h : Bd P B w xs) : Calls Tryz.prog 37 #[.pointer (some ⟨P, 0, none⟩)] w fun e w' => e = .returned (.int .i64 xs.length) ∧ w' = w := by
  obtain ⟨_, _, ad, v, _, h4, h5, _⟩ := h
  exact blen_says P B ad v xs w h4 h5
theorem string_bd {P B : Nat} {w : World} {xs : List UInt8} (h : Bd P B w xs) : Calls Tryz.prog 41 #[.pointer (some ⟨P, 0, none⟩)] w fun e w' => e = .returned (.string ⟨xs.toArray⟩) ∧ Below B w w' := by
  obtain ⟨_, _, ad, v, _, h4, h5, h6⟩ := h
  by_cases e : xs = []
  · rw [h6 e] at h4
    subst e
    exact bstring_none P B ad w h4
  · exact bstring_says P B ad v xs w e h4 h5
end Go.Proofs.YtflcibmjblioaaaGreatDoor

/-
  Reading, plainly: a text that stands behind another one is read as it is, further on.
-/
namespace Go.Proofs.YtflcibmjblioaaaGreatDoor
open Go.RowKit
set_option maxRecDepth 100000

/-- The text t is s behind n bytes. -/
structure Shift (n : Nat) (s t : ByteArray) : Prop where
  size : t.size = n + s.size
  drop : ∀ k, t.data.toList.drop (n + k) = s.data.toList.drop k
section
variable {n : Nat} {s t : ByteArray}
theorem Shift.get (h : Shift n s t) (k : Nat) : t.data.toList[n + k]? = s.data.toList[k]? := by
  have := congrArg List.head? (h.drop k)
  simpa [List.head?_drop] using this
theorem Shift.skip (h : Shift n s t) (k : Nat) : skipP t (n + k) = n + skipP s k := by
  unfold skipP; rw [h.drop]; omega
theorem extract_list (a : ByteArray) (i j : Nat) : (a.extract i j).data.toList = (a.data.toList.drop i).take (j - i) := by
  rw [ByteArray.data_extract, Array.toList_extract, List.extract_eq_take_drop]
theorem ba_ext {a b : ByteArray} (h : a.data.toList = b.data.toList) : a = b := by
  cases a; cases b
  simp only [ByteArray.mk.injEq]
  exact Array.ext' h
theorem Shift.word (h : Shift n s t) (k : Nat) : wordP t (n + k) = wordP s k := by
  apply ba_ext
  unfold wordP
  rw [extract_list, extract_list, h.drop]
  congr 1
  omega
theorem Shift.ref (h : Shift n s t) (k : Nat) : refP t (n + k) = (refP s k).map (n + ·) := by
  unfold refP
  rw [h.skip, h.word, show n + skipP s k + 1 = n + (skipP s k + 1) by omega, h.skip, h.word]
  split
  · split
    · simp; omega
    · rfl
  · rfl
theorem Shift.ends (h : Shift n s t) (q : ByteArray) (k : Nat) : endsR t q (n + k) = ((endsR s q k).1, (endsR s q k).2.1, n + (endsR s q k).2.2) := by
  unfold endsR
  rw [h.skip, h.size, h.drop]
  by_cases h1 : skipP s k = s.size
  · rw [if_pos (by omega), if_pos h1]
  · rw [if_neg (by omega), if_neg h1]
    split
    · simp; omega
    · rfl
end
theorem litF_shift (n : Nat) : ∀ (m : Nat) (l : List UInt8) (deep : Nat) (b : List UInt8) (k : Nat), (litF m l deep b (n + k)).1 = (litF m l deep b k).1 ∧ (litF m l deep b (n + k)).2.1 = (litF m l deep b k).2.1 ∧ ((litF m l deep b k).1 = 0 → (litF m l deep b (n + k)).2.2 = n + (litF m l deep b k).2.2)
  | 0, _, _, _, _ => ⟨rfl, rfl, fun h => absurd (show (5 : Int) = 0 from h) (by decide)⟩
  | _ + 1, [], _, _, _ => ⟨rfl, rfl, fun h => absurd (show (5 : Int) = 0 from h) (by decide)⟩
  | m + 1, c :: r, deep, b, k => by
    unfold litF
    by_cases h41 : (c == 41) = true
    · rw [if_pos h41, if_pos h41]
      by_cases hd : deep = 1
      · rw [if_pos hd, if_pos hd]; exact ⟨rfl, rfl, fun _ => by simp; omega⟩
      · rw [if_neg hd, if_neg hd, Nat.add_assoc]; exact litF_shift n m _ _ _ _
    · rw [if_neg h41, if_neg h41]
      by_cases h40 : (c == 40) = true
      · rw [if_pos h40, if_pos h40, Nat.add_assoc]; exact litF_shift n m _ _ _ _
      · rw [if_neg h40, if_neg h40]
        by_cases h92 : (c == 92) = true
        · rw [if_pos h92, if_pos h92]
          cases he : escL r with
          | none => exact ⟨rfl, rfl, fun h => absurd (show (5 : Int) = 0 from h) (by decide)⟩
          | some q =>
            obtain ⟨x, j⟩ := q
            simp only
            rw [show n + k + 1 + j = n + (k + 1 + j) by omega]
            exact litF_shift n m _ _ _ _
        · rw [if_neg h92, if_neg h92, Nat.add_assoc]; exact litF_shift n m _ _ _ _
theorem hexTk_shift (n : Nat) : ∀ (l : List UInt8) (p : Option Nat) (b : List UInt8) (k : Nat), (hexTk l p b (n + k)).1 = (hexTk l p b k).1 ∧ (hexTk l p b (n + k)).2.1 = (hexTk l p b k).2.1 ∧ ((hexTk l p b k).1 = 0 → (hexTk l p b (n + k)).2.2 = n + (hexTk l p b k).2.2)
  | [], _, _, _ => ⟨rfl, rfl, fun h => absurd (show (5 : Int) = 0 from h) (by decide)⟩
  | c :: r, p, b, k => by
    unfold hexTk
    by_cases h62 : (c == 62) = true
    · rw [if_pos h62, if_pos h62]; exact ⟨rfl, rfl, fun _ => by simp; omega⟩
    · rw [if_neg h62, if_neg h62]
      by_cases hb : isBl c = true
      · rw [if_pos hb, if_pos hb, Nat.add_assoc]; exact hexTk_shift n r _ _ _
      · rw [if_neg hb, if_neg hb]
        by_cases hv : hexV c < 0
        · rw [if_pos hv, if_pos hv]; exact ⟨rfl, rfl, fun h => absurd (show (4 : Int) = 0 from h) (by decide)⟩
        · rw [if_neg hv, if_neg hv]
          cases p with
          | none => simp only; rw [Nat.add_assoc]; exact hexTk_shift n r _ _ _
          | some x => simp only; rw [Nat.add_assoc]; exact hexTk_shift n r _ _ _
/-- The same was read, n further on. -/
def Sh {α : Type} (n : Nat) (r r' : α × Int × Nat) : Prop := r'.1 = r.1 ∧ r'.2.1 = r.2.1 ∧ (r.2.1 = 0 → r'.2.2 = n + r.2.2)
theorem Sh.bad {α : Type} {n : Nat} {a : α} {e : Int} {i j : Nat} (h : e ≠ 0) : Sh n (a, e, i) (a, e, j) := ⟨rfl, rfl, fun q => absurd q h⟩
theorem Sh.of {α : Type} {n : Nat} {a : α} {e : Int} {i : Nat} : Sh n (a, e, i) (a, e, n + i) := ⟨rfl, rfl, fun _ => rfl⟩
section
variable {n : Nat} {s t : ByteArray} {f g : Nat → Rd}
theorem Shift.list (h : Shift n s t) (hf : ∀ j, Sh n (f j) (g (n + j))) : ∀ (m : Nat) (acc : List V) (j : Nat), Sh n (rdL f s m acc j) (rdL g t m acc (n + j))
  | 0, _, _ => .bad (by decide)
  | m + 1, acc, j => by
    obtain ⟨ex, ey, ez, hes⟩ : ∃ x y z, endsR s wEnd j = (x, y, z) := ⟨_, _, _, rfl⟩
    have het : endsR t wEnd (n + j) = (ex, ey, n + ez) := by rw [h.ends, hes]
    rw [rdL_step hes, rdL_step het]
    obtain ⟨q1, q2, q3⟩ := hf ez
    by_cases hx : ex ≠ 0
    · rw [if_pos hx, if_pos hx]; exact .bad hx
    rw [if_neg hx, if_neg hx]
    cases ey
    · simp only [Bool.false_eq_true, if_false]
      rw [q2]
      by_cases he : (f ez).2.1 ≠ 0
      · rw [if_pos he, if_pos he]; exact .bad he
      rw [if_neg he, if_neg he]
      by_cases hm : 300 < acc.length + 1
      · rw [if_pos hm, if_pos hm]; exact .bad (by decide)
      · rw [if_neg hm, if_neg hm, q1, q3 (by simpa using he)]
        exact Shift.list h hf m _ _
    · rw [if_pos rfl, if_pos rfl]; exact .of
theorem Shift.field (h : Shift n s t) (hf : ∀ j, Sh n (f j) (g (n + j))) (k : Nat) : Sh n (rdFd f s k) (rdFd g t (n + k)) := by
  unfold rdFd
  rw [h.get, show n + k + 1 = n + (k + 1) by omega, h.word]
  by_cases h47 : s.data.toList[k]? = some 47
  · rw [if_pos h47, if_pos h47]
    cases nameR (wordP s (k + 1)).data.toList with
    | none => exact .bad (by decide)
    | some b =>
      simp only
      rw [Nat.add_assoc n]
      obtain ⟨q1, q2, q3⟩ := hf (k + 1 + (wordP s (k + 1)).size)
      rw [q1, q2]
      exact ⟨rfl, rfl, q3⟩
  · rw [if_neg h47, if_neg h47]; exact .bad (by decide)
theorem Shift.dict (h : Shift n s t) (hf : ∀ j, Sh n (f j) (g (n + j))) : ∀ (m : Nat) (acc : List (ByteArray × V)) (j : Nat), Sh n (rdD f s m acc j) (rdD g t m acc (n + j))
  | 0, _, _ => .bad (by decide)
  | m + 1, acc, j => by
    obtain ⟨ex, ey, ez, hes⟩ : ∃ x y z, endsR s wEnd2 j = (x, y, z) := ⟨_, _, _, rfl⟩
    have het : endsR t wEnd2 (n + j) = (ex, ey, n + ez) := by rw [h.ends, hes]
    rw [rdD_step hes, rdD_step het]
    obtain ⟨q1, q2, q3⟩ := h.field hf ez
    by_cases hx : ex ≠ 0
    · rw [if_pos hx, if_pos hx]; exact .bad hx
    rw [if_neg hx, if_neg hx]
    cases ey
    · simp only [Bool.false_eq_true, if_false]
      rw [q2, q1]
      by_cases he : (rdFd f s ez).2.1 ≠ 0
      · rw [if_pos he, if_pos he]; exact .bad he
      rw [if_neg he, if_neg he]
      by_cases hg : (getF (rdFd f s ez).1.1 acc).isSome = true
      · rw [if_pos hg, if_pos hg]; exact .bad (by decide)
      rw [if_neg hg, if_neg hg]
      by_cases hm : 300 < acc.length + 1
      · rw [if_pos hm, if_pos hm]; exact .bad (by decide)
      · rw [if_neg hm, if_neg hm, q3 (by simpa using he)]
        exact Shift.dict h hf m _ _
    · rw [if_pos rfl, if_pos rfl]; exact .of
theorem otherK_eq (s : ByteArray) (k : Nat) (W : ByteArray) (h : wordP s k = W) : otherK s k = if W = wNull then (0, 0, 0, k + W.size) else if W = wTrue then (1, 1, 0, k + W.size) else if W = wFalse then (1, 0, 0, k + W.size)
    else if objL W.data.toList ≠ 0 ∧ (refP s (k + W.size)).isSome = true then (7, ((objL W.data.toList : Nat) : Int), 0, (refP s (k + W.size)).getD (k + W.size)) else (2, parseN W.data.toList, parseE W.data.toList, k + W.size) := by subst h; rfl
theorem Shift.other (h : Shift n s t) (k : Nat) : Sh n (otherV s k) (otherV t (n + k)) := by
  unfold otherV
  rw [otherK_eq s k _ rfl, otherK_eq t (n + k) _ (h.word k)]
  generalize wordP s k = W
  rw [Nat.add_assoc n, h.ref]
  by_cases h1 : W = wNull
  · simp only [if_pos h1]; exact .of
  · by_cases h2 : W = wTrue
    · simp only [if_neg h1, if_pos h2]; exact .of
    · by_cases h3 : W = wFalse
      · simp only [if_neg h1, if_neg h2, if_pos h3]; exact .of
      · cases hr : refP s (k + W.size) with
        | none => simp only [if_neg h1, if_neg h2, if_neg h3]; simp; exact .of
        | some x =>
          by_cases h4 : objL W.data.toList ≠ 0
          · simp only [if_neg h1, if_neg h2, if_neg h3, Option.map_some, Option.isSome_some, Option.getD_some, and_true, if_pos h4]; exact .of
          · simp only [if_neg h1, if_neg h2, if_neg h3, Option.map_some, Option.isSome_some, Option.getD_some, and_true, if_neg h4]; exact .of
theorem Shift.atP (h : Shift n s t) (hf : ∀ j, Sh n (f j) (g (n + j))) (p : Nat) : Sh n (rdAt f s p) (rdAt g t (n + p)) := by
  unfold rdAt
  rw [h.get, show n + p + 1 = n + (p + 1) by omega, h.get]
  by_cases h47 : s.data.toList[p]? = some 47
  · rw [if_pos h47, if_pos h47]
    unfold nameV
    rw [show n + p + 1 = n + (p + 1) by omega, h.word]
    cases nameR (wordP s (p + 1)).data.toList with
    | none => exact .bad (by decide)
    | some b => simp only; rw [Nat.add_assoc n]; exact .of
  rw [if_neg h47, if_neg h47]
  by_cases h40 : s.data.toList[p]? = some 40
  · rw [if_pos h40, if_pos h40]
    unfold litV litT
    rw [show n + p + 1 = n + (p + 1) by omega, h.drop]
    obtain ⟨q1, q2, q3⟩ := litF_shift n (s.data.toList.drop (p + 1)).length (s.data.toList.drop (p + 1)) 1 [] (p + 1)
    rw [q1, q2]
    exact ⟨rfl, rfl, fun q => q3 (textR_zero q).1⟩
  rw [if_neg h40, if_neg h40]
  by_cases h60 : s.data.toList[p]? = some 60
  · rw [if_pos h60, if_pos h60]
    by_cases h6 : s.data.toList[p + 1]? = some 60
    · rw [if_pos h6, if_pos h6]
      unfold dictV
      rw [show n + p + 2 = n + (p + 2) by omega]
      obtain ⟨q1, q2, q3⟩ := h.dict hf 302 [] (p + 2)
      rw [q1, q2]
      exact ⟨rfl, rfl, q3⟩
    · rw [if_neg h6, if_neg h6]
      unfold hexW
      rw [show n + p + 1 = n + (p + 1) by omega, h.drop]
      obtain ⟨q1, q2, q3⟩ := hexTk_shift n (s.data.toList.drop (p + 1)) none [] (p + 1)
      rw [q1, q2]
      exact ⟨rfl, rfl, fun q => q3 (textR_zero q).1⟩
  rw [if_neg h60, if_neg h60]
  by_cases h91 : s.data.toList[p]? = some 91
  · rw [if_pos h91, if_pos h91]
    unfold listV
    rw [show n + p + 1 = n + (p + 1) by omega]
    obtain ⟨q1, q2, q3⟩ := h.list hf 302 [] (p + 1)
    rw [q1, q2]
    exact ⟨rfl, rfl, q3⟩
  rw [if_neg h91, if_neg h91]
  by_cases hsg : (s.data.toList[p]?).map isSg = some true
  · rw [if_pos hsg, if_pos hsg]; exact .bad (by decide)
  · rw [if_neg hsg, if_neg hsg]; exact h.other p
theorem Shift.value (h : Shift n s t) : ∀ (m j : Nat), Sh n (rdV s m j) (rdV t m (n + j))
  | 0, j => by
    unfold rdV
    rw [h.skip, h.size]
    by_cases h1 : skipP s j = s.size
    · rw [if_pos h1, if_pos (by omega)]; exact .bad (by decide)
    · rw [if_neg h1, if_neg (by omega)]; exact .bad (by decide)
  | m + 1, j => by
    unfold rdV
    rw [h.skip, h.size]
    by_cases h1 : skipP s j = s.size
    · rw [if_pos h1, if_pos (by omega)]; exact .bad (by decide)
    · rw [if_neg h1, if_neg (by omega)]; exact h.atP (Shift.value h m) _
/-- What stands ahead tells nothing. -/
theorem Shift.ahead (h : Shift n s t) (h0 : skipP t 0 = n + skipP s 0) (m : Nat) : Sh n (rdV s (m + 1) 0) (rdV t (m + 1) 0) := by
  have q := h.value (m + 1) 0
  have e : rdV t (m + 1) 0 = rdV t (m + 1) (n + 0) ∨ skipP s 0 = s.size := by
    by_cases h1 : skipP s 0 = s.size
    · exact .inr h1
    · refine .inl ?_
      rw [rdV, rdV, h0, h.skip, h.size, if_neg (by omega), if_neg (by omega)]
  rcases e with e | e
  · rw [e]; exact q
  · rw [rdV, rdV, h0, h.size, if_pos e, if_pos (by omega)]; exact .bad (by decide)
end
end Go.Proofs.YtflcibmjblioaaaGreatDoor

/-
  Reading, plainly: what stands behind a value, parted by a blank, tells nothing: the small steps.
-/
namespace Go.Proofs.YtflcibmjblioaaaGreatDoor
open Go.RowKit
set_option maxRecDepth 100000

/-- The texts agree below k; t has a blank there. -/
structure Upto (k : Nat) (s t : ByteArray) : Prop where
  le : k ≤ s.size
  get : ∀ i, i < k → t.data.toList[i]? = s.data.toList[i]?
  stop : t.data.toList[k]? = some 32
section
variable {k : Nat} {s t : ByteArray}
theorem Upto.lt (h : Upto k s t) : k < t.size := by
  have := (List.getElem?_eq_some_iff.1 h.stop).1
  simpa using this
theorem Upto.some (h : Upto k s t) {i : Nat} (hi : i < k) : ∃ c, s.data.toList[i]? = some c ∧ t.data.toList[i]? = some c := by
  have h1 : i < s.size := Nat.lt_of_lt_of_le hi h.le
  exact ⟨s[i], rdAt_get h1, (h.get i hi).trans (rdAt_get h1)⟩
theorem drop_some {s : ByteArray} {i : Nat} {c : UInt8} (h : s.data.toList[i]? = some c) : s.data.toList.drop i = c :: s.data.toList.drop (i + 1) := by
  obtain ⟨h1, rfl⟩ := List.getElem?_eq_some_iff.1 h
  exact List.drop_eq_getElem_cons h1
/-- Words that end at k or ahead of it are the same. -/
theorem Upto.wordL (h : Upto k s t) : ∀ (n i : Nat), i + n = k → i + Go.Proofs.YtflcibmjblioaaaGreatDoor.wordL (s.data.toList.drop i) ≤ k → Go.Proofs.YtflcibmjblioaaaGreatDoor.wordL (t.data.toList.drop i) = Go.Proofs.YtflcibmjblioaaaGreatDoor.wordL (s.data.toList.drop i)
  | 0, i, hi, hw => by
    have e : i = k := by omega
    subst e
    have h0 : Go.Proofs.YtflcibmjblioaaaGreatDoor.wordL (s.data.toList.drop i) = 0 := by omega
    rw [h0, drop_some h.stop]
    rfl
  | n + 1, i, hi, hw => by
    obtain ⟨c, h1, h2⟩ := h.some (show i < k by omega)
    rw [drop_some h1] at hw ⊢
    rw [drop_some h2]
    have step : ∀ r : List UInt8, Go.Proofs.YtflcibmjblioaaaGreatDoor.wordL (c :: r) = if !isBl c && !isSg c then Go.Proofs.YtflcibmjblioaaaGreatDoor.wordL r + 1 else 0 := fun r => by
      unfold Go.Proofs.YtflcibmjblioaaaGreatDoor.wordL
      rw [List.takeWhile_cons]
      split
      · rfl
      · rfl
    rw [step] at hw
    rw [step, step]
    split
    · rename_i hc
      rw [if_pos hc] at hw
      rw [Upto.wordL h n (i + 1) (by omega) (by omega)]
    · rfl
theorem take_of_get {a b : List UInt8} : ∀ {m : Nat}, (∀ i, i < m → a[i]? = b[i]?) → a.take m = b.take m := fun {m} h => by
  apply List.ext_getElem?
  intro i
  rw [List.getElem?_take, List.getElem?_take]
  split
  · rename_i hi; exact h i hi
  · rfl
theorem Upto.word (h : Upto k s t) {i : Nat} (hi : i ≤ k) (hw : i + (wordP s i).size ≤ k) : wordP t i = wordP s i := by
  have hl := (wordP_size (s := s) (k := i) (Nat.le_trans hi h.le)).1
  have e := h.wordL (k - i) i (by omega) (by omega)
  apply ba_ext
  unfold wordP
  rw [extract_list, extract_list, e]
  refine take_of_get fun j hj => ?_
  rw [List.getElem?_drop, List.getElem?_drop]
  exact h.get _ (by omega)
/-- What is skipped up to a place ahead of k is the same. -/
theorem Upto.skipL (h : Upto k s t) : ∀ (n i : Nat) (b : Bool), i + n = k → i + Go.Proofs.YtflcibmjblioaaaGreatDoor.skipL (s.data.toList.drop i) b < k → Go.Proofs.YtflcibmjblioaaaGreatDoor.skipL (t.data.toList.drop i) b = Go.Proofs.YtflcibmjblioaaaGreatDoor.skipL (s.data.toList.drop i) b
  | 0, i, b, hi, hw => by omega
  | n + 1, i, b, hi, hw => by
    obtain ⟨c, h1, h2⟩ := h.some (show i < k by omega)
    rw [drop_some h1] at hw ⊢
    rw [drop_some h2]
    unfold Go.Proofs.YtflcibmjblioaaaGreatDoor.skipL at hw ⊢
    split
    · rfl
    · rename_i hc
      rw [if_neg hc] at hw
      rw [Upto.skipL h n (i + 1) _ (by omega) (by omega)]
theorem Upto.skip (h : Upto k s t) {i : Nat} (hi : skipP s i < k) : skipP t i = skipP s i := by
  have h0 : i ≤ skipP s i := by unfold skipP; omega
  unfold skipP at hi ⊢
  rw [h.skipL (k - i) i false (by omega) hi]
end
end Go.Proofs.YtflcibmjblioaaaGreatDoor
