/-
  Joined: Pb, Pc, Pe.
-/
import Derived.Test.YtddoigjjgcefkaaGreatDoorVg

/-
  Reading, plainly: a text that stands behind another one is read as it is, further on.
-/
namespace Go.Proofs.YtddoigjjgcefkaaGreatDoor
open Go.RowKit
set_option maxRecDepth 100000

/-- The text t is s behind n bytes. -/
structure Shift (n : Nat) (s t : ByteArray) : Prop where
  size : t.size = n + s.size
  drop : ∀ k, t.data.toList.drop (n + k) = s.data.toList.drop k
section
variable {n : Nat} {s t : ByteArray}
theorem Shift.get (h : Shift n s t) (k : Nat) : t.data.toList[n + k]? = s.data.toList[k]? := by
  have := congrArg List.head? (h.drop k)
  simpa [List.head?_drop] using this
theorem Shift.skip (h : Shift n s t) (k : Nat) : skipP t (n + k) = n + skipP s k := by
  unfold skipP; rw [h.drop]; omega
theorem extract_list (a : ByteArray) (i j : Nat) : (a.extract i j).data.toList = (a.data.toList.drop i).take (j - i) := by
  rw [ByteArray.data_extract, Array.toList_extract, List.extract_eq_take_drop]
theorem ba_ext {a b : ByteArray} (h : a.data.toList = b.data.toList) : a = b := by
  cases a; cases b
  simp only [ByteArray.mk.injEq]
  exact Array.ext' h
theorem Shift.word (h : Shift n s t) (k : Nat) : wordP t (n + k) = wordP s k := by
  apply ba_ext
  unfold wordP
  rw [extract_list, extract_list, h.drop]
  congr 1
  omega
theorem Shift.ref (h : Shift n s t) (k : Nat) : refP t (n + k) = (refP s k).map (n + ·) := by
  unfold refP
  rw [h.skip, h.word, show n + skipP s k + 1 = n + (skipP s k + 1) by omega, h.skip, h.word]
  split
  · split
    · simp; omega
    · rfl
  · rfl
theorem Shift.ends (h : Shift n s t) (q : ByteArray) (k : Nat) : endsR t q (n + k) = ((endsR s q k).1, (endsR s q k).2.1, n + (endsR s q k).2.2) := by
  unfold endsR
  rw [h.skip, h.size, h.drop]
  by_cases h1 : skipP s k = s.size
  · rw [if_pos (by omega), if_pos h1]
  · rw [if_neg (by omega), if_neg h1]
    split
    · simp; omega
    · rfl
end
theorem litF_shift (n : Nat) : ∀ (m : Nat) (l : List UInt8) (deep : Nat) (b : List UInt8) (k : Nat), (litF m l deep b (n + k)).1 = (litF m l deep b k).1 ∧ (litF m l deep b (n + k)).2.1 = (litF m l deep b k).2.1 ∧ ((litF m l deep b k).1 = 0 → (litF m l deep b (n + k)).2.2 = n + (litF m l deep b k).2.2)
  | 0, _, _, _, _ => ⟨rfl, rfl, fun h => absurd (show (5 : Int) = 0 from h) (by decide)⟩
  | _ + 1, [], _, _, _ => ⟨rfl, rfl, fun h => absurd (show (5 : Int) = 0 from h) (by decide)⟩
  | m + 1, c :: r, deep, b, k => by
    unfold litF
    by_cases h41 : (c == 41) = true
    · rw [if_pos h41, if_pos h41]
      by_cases hd : deep = 1
      · rw [if_pos hd, if_pos hd]; exact ⟨rfl, rfl, fun _ => by simp; omega⟩
      · rw [if_neg hd, if_neg hd, Nat.add_assoc]; exact litF_shift n m _ _ _ _
    · rw [if_neg h41, if_neg h41]
      by_cases h40 : (c == 40) = true
      · rw [if_pos h40, if_pos h40, Nat.add_assoc]; exact litF_shift n m _ _ _ _
      · rw [if_neg h40, if_neg h40]
        by_cases h92 : (c == 92) = true
        · rw [if_pos h92, if_pos h92]
          cases he : escL r with
          | none => exact ⟨rfl, rfl, fun h => absurd (show (5 : Int) = 0 from h) (by decide)⟩
          | some q =>
            obtain ⟨x, j⟩ := q
            simp only
            rw [show n + k + 1 + j = n + (k + 1 + j) by omega]
            exact litF_shift n m _ _ _ _
        · rw [if_neg h92, if_neg h92, Nat.add_assoc]; exact litF_shift n m _ _ _ _
theorem hexTk_shift (n : Nat) : ∀ (l : List UInt8) (p : Option Nat) (b : List UInt8) (k : Nat), (hexTk l p b (n + k)).1 = (hexTk l p b k).1 ∧ (hexTk l p b (n + k)).2.1 = (hexTk l p b k).2.1 ∧ ((hexTk l p b k).1 = 0 → (hexTk l p b (n + k)).2.2 = n + (hexTk l p b k).2.2)
  | [], _, _, _ => ⟨rfl, rfl, fun h => absurd (show (5 : Int) = 0 from h) (by decide)⟩
  | c :: r, p, b, k => by
    unfold hexTk
    by_cases h62 : (c == 62) = true
    · rw [if_pos h62, if_pos h62]; exact ⟨rfl, rfl, fun _ => by simp; omega⟩
    · rw [if_neg h62, if_neg h62]
      by_cases hb : isBl c = true
      · rw [if_pos hb, if_pos hb, Nat.add_assoc]; exact hexTk_shift n r _ _ _
      · rw [if_neg hb, if_neg hb]
        by_cases hv : hexV c < 0
        · rw [if_pos hv, if_pos hv]; exact ⟨rfl, rfl, fun h => absurd (show (4 : Int) = 0 from h) (by decide)⟩
        · rw [if_neg hv, if_neg hv]
          cases p with
          | none => simp only; rw [Nat.add_assoc]; exact hexTk_shift n r _ _ _
          | some x => simp only; rw [Nat.add_assoc]; exact hexTk_shift n r _ _ _
/-- The same was read, n further on. -/
def Sh {α : Type} (n : Nat) (r r' : α × Int × Nat) : Prop := r'.1 = r.1 ∧ r'.2.1 = r.2.1 ∧ (r.2.1 = 0 → r'.2.2 = n + r.2.2)
theorem Sh.bad {α : Type} {n : Nat} {a : α} {e : Int} {i j : Nat} (h : e ≠ 0) : Sh n (a, e, i) (a, e, j) := ⟨rfl, rfl, fun q => absurd q h⟩
theorem Sh.of {α : Type} {n : Nat} {a : α} {e : Int} {i : Nat} : Sh n (a, e, i) (a, e, n + i) := ⟨rfl, rfl, fun _ => rfl⟩
section
variable {n : Nat} {s t : ByteArray} {f g : Nat → Rd}
theorem Shift.list (h : Shift n s t) (hf : ∀ j, Sh n (f j) (g (n + j))) : ∀ (m : Nat) (acc : List V) (j : Nat), Sh n (rdL f s m acc j) (rdL g t m acc (n + j))
  | 0, _, _ => .bad (by decide)
  | m + 1, acc, j => by
    obtain ⟨ex, ey, ez, hes⟩ : ∃ x y z, endsR s wEnd j = (x, y, z) := ⟨_, _, _, rfl⟩
    have het : endsR t wEnd (n + j) = (ex, ey, n + ez) := by rw [h.ends, hes]
    rw [rdL_step hes, rdL_step het]
    obtain ⟨q1, q2, q3⟩ := hf ez
    by_cases hx : ex ≠ 0
    · rw [if_pos hx, if_pos hx]; exact .bad hx
    rw [if_neg hx, if_neg hx]
    cases ey
    · simp only [Bool.false_eq_true, if_false]
      rw [q2]
      by_cases he : (f ez).2.1 ≠ 0
      · rw [if_pos he, if_pos he]; exact .bad he
      rw [if_neg he, if_neg he]
      by_cases hm : 300 < acc.length + 1
      · rw [if_pos hm, if_pos hm]; exact .bad (by decide)
      · rw [if_neg hm, if_neg hm, q1, q3 (by simpa using he)]
        exact Shift.list h hf m _ _
    · rw [if_pos rfl, if_pos rfl]; exact .of
theorem Shift.field (h : Shift n s t) (hf : ∀ j, Sh n (f j) (g (n + j))) (k : Nat) : Sh n (rdFd f s k) (rdFd g t (n + k)) := by
  unfold rdFd
  rw [h.get, show n + k + 1 = n + (k + 1) by omega, h.word]
  by_cases h47 : s.data.toList[k]? = some 47
  · rw [if_pos h47, if_pos h47]
    cases nameR (wordP s (k + 1)).data.toList with
    | none => exact .bad (by decide)
    | some b =>
      simp only
      rw [Nat.add_assoc n]
      obtain ⟨q1, q2, q3⟩ := hf (k + 1 + (wordP s (k + 1)).size)
      rw [q1, q2]
      exact ⟨rfl, rfl, q3⟩
  · rw [if_neg h47, if_neg h47]; exact .bad (by decide)
theorem Shift.dict (h : Shift n s t) (hf : ∀ j, Sh n (f j) (g (n + j))) : ∀ (m : Nat) (acc : List (ByteArray × V)) (j : Nat), Sh n (rdD f s m acc j) (rdD g t m acc (n + j))
  | 0, _, _ => .bad (by decide)
  | m + 1, acc, j => by
    obtain ⟨ex, ey, ez, hes⟩ : ∃ x y z, endsR s wEnd2 j = (x, y, z) := ⟨_, _, _, rfl⟩
    have het : endsR t wEnd2 (n + j) = (ex, ey, n + ez) := by rw [h.ends, hes]
    rw [rdD_step hes, rdD_step het]
    obtain ⟨q1, q2, q3⟩ := h.field hf ez
    by_cases hx : ex ≠ 0
    · rw [if_pos hx, if_pos hx]; exact .bad hx
    rw [if_neg hx, if_neg hx]
    cases ey
    · simp only [Bool.false_eq_true, if_false]
      rw [q2, q1]
      by_cases he : (rdFd f s ez).2.1 ≠ 0
      · rw [if_pos he, if_pos he]; exact .bad he
      rw [if_neg he, if_neg he]
      by_cases hg : (getF (rdFd f s ez).1.1 acc).isSome = true
      · rw [if_pos hg, if_pos hg]; exact .bad (by decide)
      rw [if_neg hg, if_neg hg]
      by_cases hm : 300 < acc.length + 1
      · rw [if_pos hm, if_pos hm]; exact .bad (by decide)
      · rw [if_neg hm, if_neg hm, q3 (by simpa using he)]
        exact Shift.dict h hf m _ _
    · rw [if_pos rfl, if_pos rfl]; exact .of
theorem otherK_eq (s : ByteArray) (k : Nat) (W : ByteArray) (h : wordP s k = W) : otherK s k = if W = wNull then (0, 0, 0, k + W.size) else if W = wTrue then (1, 1, 0, k + W.size) else if W = wFalse then (1, 0, 0, k + W.size)
    else if objL W.data.toList ≠ 0 ∧ (refP s (k + W.size)).isSome = true then (7, ((objL W.data.toList : Nat) : Int), 0, (refP s (k + W.size)).getD (k + W.size)) else (2, parseN W.data.toList, parseE W.data.toList, k + W.size) := by subst h; rfl
theorem Shift.other (h : Shift n s t) (k : Nat) : Sh n (otherV s k) (otherV t (n + k)) := by
  unfold otherV
  rw [otherK_eq s k _ rfl, otherK_eq t (n + k) _ (h.word k)]
  generalize wordP s k = W
  rw [Nat.add_assoc n, h.ref]
  by_cases h1 : W = wNull
  · simp only [if_pos h1]; exact .of
  · by_cases h2 : W = wTrue
    · simp only [if_neg h1, if_pos h2]; exact .of
    · by_cases h3 : W = wFalse
      · simp only [if_neg h1, if_neg h2, if_pos h3]; exact .of
      · cases hr : refP s (k + W.size) with
        | none => simp only [if_neg h1, if_neg h2, if_neg h3]; simp; exact .of
        | some x =>
          by_cases h4 : objL W.data.toList ≠ 0
          · simp only [if_neg h1, if_neg h2, if_neg h3, Option.map_some, Option.isSome_some, Option.getD_some, and_true, if_pos h4]; exact .of
          · simp only [if_neg h1, if_neg h2, if_neg h3, Option.map_some, Option.isSome_some, Option.getD_some, and_true, if_neg h4]; exact .of
theorem Shift.atP (h : Shift n s t) (hf : ∀ j, Sh n (f j) (g (n + j))) (p : Nat) : Sh n (rdAt f s p) (rdAt g t (n + p)) := by
  unfold rdAt
  rw [h.get, show n + p + 1 = n + (p + 1) by omega, h.get]
  by_cases h47 : s.data.toList[p]? = some 47
  · rw [if_pos h47, if_pos h47]
    unfold nameV
    rw [show n + p + 1 = n + (p + 1) by omega, h.word]
    cases nameR (wordP s (p + 1)).data.toList with
    | none => exact .bad (by decide)
    | some b => simp only; rw [Nat.add_assoc n]; exact .of
  rw [if_neg h47, if_neg h47]
  by_cases h40 : s.data.toList[p]? = some 40
  · rw [if_pos h40, if_pos h40]
    unfold litV litT
    rw [show n + p + 1 = n + (p + 1) by omega, h.drop]
    obtain ⟨q1, q2, q3⟩ := litF_shift n (s.data.toList.drop (p + 1)).length (s.data.toList.drop (p + 1)) 1 [] (p + 1)
    rw [q1, q2]
    exact ⟨rfl, rfl, fun q => q3 (textR_zero q).1⟩
  rw [if_neg h40, if_neg h40]
  by_cases h60 : s.data.toList[p]? = some 60
  · rw [if_pos h60, if_pos h60]
    by_cases h6 : s.data.toList[p + 1]? = some 60
    · rw [if_pos h6, if_pos h6]
      unfold dictV
      rw [show n + p + 2 = n + (p + 2) by omega]
      obtain ⟨q1, q2, q3⟩ := h.dict hf 302 [] (p + 2)
      rw [q1, q2]
      exact ⟨rfl, rfl, q3⟩
    · rw [if_neg h6, if_neg h6]
      unfold hexW
      rw [show n + p + 1 = n + (p + 1) by omega, h.drop]
      obtain ⟨q1, q2, q3⟩ := hexTk_shift n (s.data.toList.drop (p + 1)) none [] (p + 1)
      rw [q1, q2]
      exact ⟨rfl, rfl, fun q => q3 (textR_zero q).1⟩
  rw [if_neg h60, if_neg h60]
  by_cases h91 : s.data.toList[p]? = some 91
  · rw [if_pos h91, if_pos h91]
    unfold listV
    rw [show n + p + 1 = n + (p + 1) by omega]
    obtain ⟨q1, q2, q3⟩ := h.list hf 302 [] (p + 1)
    rw [q1, q2]
    exact ⟨rfl, rfl, q3⟩
  rw [if_neg h91, if_neg h91]
  by_cases hsg : (s.data.toList[p]?).map isSg = some true
  · rw [if_pos hsg, if_pos hsg]; exact .bad (by decide)
  · rw [if_neg hsg, if_neg hsg]; exact h.other p
theorem Shift.value (h : Shift n s t) : ∀ (m j : Nat), Sh n (rdV s m j) (rdV t m (n + j))
  | 0, j => by
    unfold rdV
    rw [h.skip, h.size]
    by_cases h1 : skipP s j = s.size
    · rw [if_pos h1, if_pos (by omega)]; exact .bad (by decide)
    · rw [if_neg h1, if_neg (by omega)]; exact .bad (by decide)
  | m + 1, j => by
    unfold rdV
    rw [h.skip, h.size]
    by_cases h1 : skipP s j = s.size
    · rw [if_pos h1, if_pos (by omega)]; exact .bad (by decide)
    · rw [if_neg h1, if_neg (by omega)]; exact h.atP (Shift.value h m) _
/-- What stands ahead tells nothing. -/
theorem Shift.ahead (h : Shift n s t) (h0 : skipP t 0 = n + skipP s 0) (m : Nat) : Sh n (rdV s (m + 1) 0) (rdV t (m + 1) 0) := by
  have q := h.value (m + 1) 0
  have e : rdV t (m + 1) 0 = rdV t (m + 1) (n + 0) ∨ skipP s 0 = s.size := by
    by_cases h1 : skipP s 0 = s.size
    · exact .inr h1
    · refine .inl ?_
      rw [rdV, rdV, h0, h.skip, h.size, if_neg (by omega), if_neg (by omega)]
  rcases e with e | e
  · rw [e]; exact q
  · rw [rdV, rdV, h0, h.size, if_pos e, if_pos (by omega)]; exact .bad (by decide)
end
end Go.Proofs.YtddoigjjgcefkaaGreatDoor

/-
  Reading, plainly: what stands behind a value, parted by a blank, tells nothing: the small steps.
-/
namespace Go.Proofs.YtddoigjjgcefkaaGreatDoor
open Go.RowKit
set_option maxRecDepth 100000

/-- The texts agree below k; t has a blank there. -/
structure Upto (k : Nat) (s t : ByteArray) : Prop where
  le : k ≤ s.size
  get : ∀ i, i < k → t.data.toList[i]? = s.data.toList[i]?
  stop : t.data.toList[k]? = some 32
section
variable {k : Nat} {s t : ByteArray}
theorem Upto.lt (h : Upto k s t) : k < t.size := by
  have := (List.getElem?_eq_some_iff.1 h.stop).1
  simpa using this
theorem Upto.some (h : Upto k s t) {i : Nat} (hi : i < k) : ∃ c, s.data.toList[i]? = some c ∧ t.data.toList[i]? = some c := by
  have h1 : i < s.size := Nat.lt_of_lt_of_le hi h.le
  exact ⟨s[i], rdAt_get h1, (h.get i hi).trans (rdAt_get h1)⟩
theorem drop_some {s : ByteArray} {i : Nat} {c : UInt8} (h : s.data.toList[i]? = some c) : s.data.toList.drop i = c :: s.data.toList.drop (i + 1) := by
  obtain ⟨h1, rfl⟩ := List.getElem?_eq_some_iff.1 h
  exact List.drop_eq_getElem_cons h1
/-- Words that end at k or ahead of it are the same. -/
theorem Upto.wordL (h : Upto k s t) : ∀ (n i : Nat), i + n = k → i + Go.Proofs.YtddoigjjgcefkaaGreatDoor.wordL (s.data.toList.drop i) ≤ k → Go.Proofs.YtddoigjjgcefkaaGreatDoor.wordL (t.data.toList.drop i) = Go.Proofs.YtddoigjjgcefkaaGreatDoor.wordL (s.data.toList.drop i)
  | 0, i, hi, hw => by
    have e : i = k := by omega
    subst e
    have h0 : Go.Proofs.YtddoigjjgcefkaaGreatDoor.wordL (s.data.toList.drop i) = 0 := by omega
    rw [h0, drop_some h.stop]
    rfl
  | n + 1, i, hi, hw => by
    obtain ⟨c, h1, h2⟩ := h.some (show i < k by omega)
    rw [drop_some h1] at hw ⊢
    rw [drop_some h2]
    have step : ∀ r : List UInt8, Go.Proofs.YtddoigjjgcefkaaGreatDoor.wordL (c :: r) = if !isBl c && !isSg c then Go.Proofs.YtddoigjjgcefkaaGreatDoor.wordL r + 1 else 0 := fun r => by
      unfold Go.Proofs.YtddoigjjgcefkaaGreatDoor.wordL
      rw [List.takeWhile_cons]
      split
      · rfl
      · rfl
    rw [step] at hw
    rw [step, step]
    split
    · rename_i hc
      rw [if_pos hc] at hw
      rw [Upto.wordL h n (i + 1) (by omega) (by omega)]
    · rfl
theorem take_of_get {a b : List UInt8} : ∀ {m : Nat}, (∀ i, i < m → a[i]? = b[i]?) → a.take m = b.take m := fun {m} h => by
  apply List.ext_getElem?
  intro i
  rw [List.getElem?_take, List.getElem?_take]
  split
  · rename_i hi; exact h i hi
  · rfl
theorem Upto.word (h : Upto k s t) {i : Nat} (hi : i ≤ k) (hw : i + (wordP s i).size ≤ k) : wordP t i = wordP s i := by
  have hl := (wordP_size (s := s) (k := i) (Nat.le_trans hi h.le)).1
  have e := h.wordL (k - i) i (by omega) (by omega)
  apply ba_ext
  unfold wordP
  rw [extract_list, extract_list, e]
  refine take_of_get fun j hj => ?_
  rw [List.getElem?_drop, List.getElem?_drop]
  exact h.get _ (by omega)
/-- What is skipped up to a place ahead of k is the same. -/
theorem Upto.skipL (h : Upto k s t) : ∀ (n i : Nat) (b : Bool), i + n = k → i + Go.Proofs.YtddoigjjgcefkaaGreatDoor.skipL (s.data.toList.drop i) b < k → Go.Proofs.YtddoigjjgcefkaaGreatDoor.skipL (t.data.toList.drop i) b = Go.Proofs.YtddoigjjgcefkaaGreatDoor.skipL (s.data.toList.drop i) b
  | 0, i, b, hi, hw => by omega
  | n + 1, i, b, hi, hw => by
    obtain ⟨c, h1, h2⟩ := h.some (show i < k by omega)
    rw [drop_some h1] at hw ⊢
    rw [drop_some h2]
    unfold Go.Proofs.YtddoigjjgcefkaaGreatDoor.skipL at hw ⊢
    split
    · rfl
    · rename_i hc
      rw [if_neg hc] at hw
      rw [Upto.skipL h n (i + 1) _ (by omega) (by omega)]
theorem Upto.skip (h : Upto k s t) {i : Nat} (hi : skipP s i < k) : skipP t i = skipP s i := by
  have h0 : i ≤ skipP s i := by unfold skipP; omega
  unfold skipP at hi ⊢
  rw [h.skipL (k - i) i false (by omega) hi]
end
end Go.Proofs.YtddoigjjgcefkaaGreatDoor

/-
  Reading, plainly: what stands behind a value tells nothing: strings.
-/
namespace Go.Proofs.YtddoigjjgcefkaaGreatDoor
open Go.RowKit
set_option maxRecDepth 100000

theorem agree_cons {c : UInt8} {r l' : List UInt8} {m : Nat} (hm : 0 < m) (h : ∀ i, i < m → l'[i]? = (c :: r)[i]?) : ∃ r', l' = c :: r' ∧ ∀ i, i < m - 1 → r'[i]? = r[i]? := by
  cases l' with
  | nil => have := h 0 hm; simp at this
  | cons d r' =>
    have h0 := h 0 hm
    simp at h0
    subst h0
    exact ⟨r', rfl, fun i hi => by simpa using h (i + 1) (by omega)⟩
theorem hexTk_loc : ∀ (l : List UInt8) (p : Option Nat) (b : List UInt8) (k : Nat), (hexTk l p b k).1 = 0 → ∀ l', (∀ i, i < (hexTk l p b k).2.2 - k → l'[i]? = l[i]?) → hexTk l' p b k = hexTk l p b k
  | [], _, _, _, h, _, _ => absurd (show (5 : Int) = 0 from h) (by decide)
  | c :: r, p, b, k, h, l', ha => by
    have hf := hexTk_fits (c :: r) p b k h
    obtain ⟨r', rfl, hr⟩ := agree_cons (by omega) ha
    clear ha hf
    unfold hexTk at h hr ⊢
    by_cases h62 : (c == 62) = true
    · rw [if_pos h62, if_pos h62]
    · simp only [if_neg h62] at h hr ⊢
      by_cases hb : isBl c = true
      · simp only [if_pos hb] at h hr ⊢
        exact hexTk_loc r _ _ _ h r' (fun i hi => hr i (by omega))
      · simp only [if_neg hb] at h hr ⊢
        by_cases hv : hexV c < 0
        · simp only [if_pos hv] at h; exact absurd (show (4 : Int) = 0 from h) (by decide)
        · simp only [if_neg hv] at h hr ⊢
          cases p with
          | none => exact hexTk_loc r _ _ _ h r' (fun i hi => hr i (by omega))
          | some x => exact hexTk_loc r _ _ _ h r' (fun i hi => hr i (by omega))
theorem oct_loc : ∀ (m : Nat) (l l' : List UInt8) (v : Nat), (∀ i, i ≤ octN m l → l'[i]? = l[i]?) → octN m l' = octN m l ∧ octV m l' v = octV m l v
  | 0, _, _, _, _ => by simp [octN, octV]
  | m + 1, [], l', v, h => by
    have h0 := h 0 (Nat.zero_le _)
    cases l' with
    | nil => exact ⟨rfl, rfl⟩
    | cons a r => simp at h0
  | m + 1, c :: r, l', v, h => by
    obtain ⟨r', rfl, hr⟩ := agree_cons (m := octN (m + 1) (c :: r) + 1) (by omega) (fun i hi => h i (by omega))
    rw [octN_cons] at hr
    rw [octN_cons, octN_cons, octV_cons, octV_cons]
    by_cases ho : isOct c = true
    · rw [if_pos ho] at hr
      rw [if_pos ho, if_pos ho, if_pos ho, if_pos ho]
      obtain ⟨e1, e2⟩ := oct_loc m r r' (8 * v + (c.toNat - 48)) (fun i hi => hr i (by omega))
      exact ⟨by rw [e1], e2⟩
    · rw [if_neg ho, if_neg ho, if_neg ho, if_neg ho]; exact ⟨rfl, rfl⟩
theorem escL_loc {r r' x : List UInt8} {j : Nat} (h : escL r = some (x, j)) (ha : ∀ i, i ≤ j → r'[i]? = r[i]?) : escL r' = some (x, j) := by
  have hj := (escL_le h).1
  cases r with
  | nil => cases h
  | cons e q =>
    obtain ⟨q', rfl, hq⟩ := agree_cons (m := j + 1) (by omega) (fun i hi => ha i (by omega))
    rw [escL_cons] at h ⊢
    by_cases ho : isOct e = true
    · rw [if_pos ho] at h ⊢
      simp only [Option.some.injEq, Prod.mk.injEq] at h
      obtain ⟨h1, h2⟩ := h
      obtain ⟨e1, e2⟩ := oct_loc 3 (e :: q) (e :: q') 0 (fun i hi => ha i (by omega))
      rw [e1, e2, h1, h2]
    · rw [if_neg ho] at h ⊢
      by_cases h13 : (e == 13) = true
      · have e13 : e = 13 := by simpa using h13
        subst e13
        have hh : q'.head? = q.head? := by
          have := hq 0 (by omega)
          simpa [List.head?_eq_getElem?] using this
        rw [hh]; exact h
      · have n13 : (e == 13) = false := by simpa using h13
        rw [n13] at h ⊢
        exact h
theorem litF_loc : ∀ (m : Nat) (l : List UInt8) (deep : Nat) (b : List UInt8) (k : Nat), (litF m l deep b k).1 = 0 → ∀ (m' : Nat) (l' : List UInt8), l'.length ≤ m' → (∀ i, i < (litF m l deep b k).2.2 - k → l'[i]? = l[i]?) → litF m' l' deep b k = litF m l deep b k
  | 0, _, _, _, _, h, _, _, _, _ => absurd (show (5 : Int) = 0 from h) (by decide)
  | _ + 1, [], _, _, _, h, _, _, _, _ => absurd (show (5 : Int) = 0 from h) (by decide)
  | m + 1, c :: r, deep, b, k, h, m', l', hl, ha => by
    have hf := litF_fits (m + 1) (c :: r) deep b k h
    obtain ⟨r', rfl, hr⟩ := agree_cons (by omega) ha
    clear ha hf
    obtain ⟨m2, rfl⟩ : ∃ m2, m' = m2 + 1 := ⟨m' - 1, by simp at hl; omega⟩
    have hl2 : r'.length ≤ m2 := by simpa using hl
    unfold litF at h hr ⊢
    by_cases h41 : (c == 41) = true
    · simp only [if_pos h41] at h hr ⊢
      by_cases hd : deep = 1
      · rw [if_pos hd, if_pos hd]
      · simp only [if_neg hd] at h hr ⊢
        exact litF_loc m r _ _ _ h m2 r' hl2 (fun i hi => hr i (by omega))
    · simp only [if_neg h41] at h hr ⊢
      by_cases h40 : (c == 40) = true
      · simp only [if_pos h40] at h hr ⊢
        exact litF_loc m r _ _ _ h m2 r' hl2 (fun i hi => hr i (by omega))
      · simp only [if_neg h40] at h hr ⊢
        by_cases h92 : (c == 92) = true
        · simp only [if_pos h92] at h hr ⊢
          cases he : escL r with
          | none => rw [he] at h; exact absurd (show (5 : Int) = 0 from h) (by decide)
          | some q =>
            obtain ⟨x, j⟩ := q
            rw [he] at h hr
            simp only at h hr ⊢
            have hz := litF_fits m (r.drop j) deep (b ++ x) (k + 1 + j) h
            rw [escL_loc he (fun i hi => hr i (by omega))]
            simp only
            refine litF_loc m (r.drop j) _ _ _ h m2 (r'.drop j) (by rw [List.length_drop]; omega) (fun i hi => ?_)
            rw [List.getElem?_drop, List.getElem?_drop]
            exact hr _ (by omega)
        · simp only [if_neg h92] at h hr ⊢
          exact litF_loc m r _ _ _ h m2 r' hl2 (fun i hi => hr i (by omega))
end Go.Proofs.YtddoigjjgcefkaaGreatDoor
