/-
  Joined: Pb, Pc, Pe, Pg, Pi.
-/
import Derived.Test.YtfkjoppehbmomaaGreatDoorYx
import Derived.Test.YtfkjoppehbmomaaGreatDoorZf
import Derived.Test.YtfkjoppehbmomaaGreatDoorZh

/-
  Reading, plainly: a text that stands behind another one is read as it is, further on.
-/
namespace Go.Proofs.YtfkjoppehbmomaaGreatDoor
open Go.RowKit
set_option maxRecDepth 100000

/-- The text t is s behind n bytes. -/
structure Shift (n : Nat) (s t : ByteArray) : Prop where
  size : t.size = n + s.size
  drop : ∀ k, t.data.toList.drop (n + k) = s.data.toList.drop k
section
variable {n : Nat} {s t : ByteArray}
theorem Shift.get (h : Shift n s t) (k : Nat) : t.data.toList[n + k]? = s.data.toList[k]? := by
  have := congrArg List.head? (h.drop k)
  simpa [List.head?_drop] using this
theorem Shift.skip (h : Shift n s t) (k : Nat) : skipP t (n + k) = n + skipP s k := by
  unfold skipP; rw [h.drop]; omega
theorem extract_list (a : ByteArray) (i j : Nat) : (a.extract i j).data.toList = (a.data.toList.drop i).take (j - i) := by
  rw [ByteArray.data_extract, Array.toList_extract, List.extract_eq_take_drop]
theorem ba_ext {a b : ByteArray} (h : a.data.toList = b.data.toList) : a = b := by
  cases a; cases b
  simp only [ByteArray.mk.injEq]
  exact Array.ext' h
theorem Shift.word (h : Shift n s t) (k : Nat) : wordP t (n + k) = wordP s k := by
  apply ba_ext
  unfold wordP
  rw [extract_list, extract_list, h.drop]
  congr 1
  omega
theorem Shift.ref (h : Shift n s t) (k : Nat) : refP t (n + k) = (refP s k).map (n + ·) := by
  unfold refP
  rw [h.skip, h.word, show n + skipP s k + 1 = n + (skipP s k + 1) by omega, h.skip, h.word]
  split
  · split
    · simp; omega
    · rfl
  · rfl
theorem Shift.ends (h : Shift n s t) (q : ByteArray) (k : Nat) : endsR t q (n + k) = ((endsR s q k).1, (endsR s q k).2.1, n + (endsR s q k).2.2) := by
  unfold endsR
  rw [h.skip, h.size, h.drop]
  by_cases h1 : skipP s k = s.size
  · rw [if_pos (by omega), if_pos h1]
  · rw [if_neg (by omega), if_neg h1]
    split
    · simp; omega
    · rfl
end
theorem litF_shift (n : Nat) : ∀ (m : Nat) (l : List UInt8) (deep : Nat) (b : List UInt8) (k : Nat), (litF m l deep b (n + k)).1 = (litF m l deep b k).1 ∧ (litF m l deep b (n + k)).2.1 = (litF m l deep b k).2.1 ∧ ((litF m l deep b k).1 = 0 → (litF m l deep b (n + k)).2.2 = n + (litF m l deep b k).2.2)
  | 0, _, _, _, _ => ⟨rfl, rfl, fun h => absurd (show (5 : Int) = 0 from h) (by decide)⟩
  | _ + 1, [], _, _, _ => ⟨rfl, rfl, fun h => absurd (show (5 : Int) = 0 from h) (by decide)⟩
  | m + 1, c :: r, deep, b, k => by
    unfold litF
    by_cases h41 : (c == 41) = true
    · rw [if_pos h41, if_pos h41]
      by_cases hd : deep = 1
      · rw [if_pos hd, if_pos hd]; exact ⟨rfl, rfl, fun _ => by simp; omega⟩
      · rw [if_neg hd, if_neg hd, Nat.add_assoc]; exact litF_shift n m _ _ _ _
    · rw [if_neg h41, if_neg h41]
      by_cases h40 : (c == 40) = true
      · rw [if_pos h40, if_pos h40, Nat.add_assoc]; exact litF_shift n m _ _ _ _
      · rw [if_neg h40, if_neg h40]
        by_cases h92 : (c == 92) = true
        · rw [if_pos h92, if_pos h92]
          cases he : escL r with
          | none => exact ⟨rfl, rfl, fun h => absurd (show (5 : Int) = 0 from h) (by decide)⟩
          | some q =>
            obtain ⟨x, j⟩ := q
            simp only
            rw [show n + k + 1 + j = n + (k + 1 + j) by omega]
            exact litF_shift n m _ _ _ _
        · rw [if_neg h92, if_neg h92, Nat.add_assoc]; exact litF_shift n m _ _ _ _
theorem hexTk_shift (n : Nat) : ∀ (l : List UInt8) (p : Option Nat) (b : List UInt8) (k : Nat), (hexTk l p b (n + k)).1 = (hexTk l p b k).1 ∧ (hexTk l p b (n + k)).2.1 = (hexTk l p b k).2.1 ∧ ((hexTk l p b k).1 = 0 → (hexTk l p b (n + k)).2.2 = n + (hexTk l p b k).2.2)
  | [], _, _, _ => ⟨rfl, rfl, fun h => absurd (show (5 : Int) = 0 from h) (by decide)⟩
  | c :: r, p, b, k => by
    unfold hexTk
    by_cases h62 : (c == 62) = true
    · rw [if_pos h62, if_pos h62]; exact ⟨rfl, rfl, fun _ => by simp; omega⟩
    · rw [if_neg h62, if_neg h62]
      by_cases hb : isBl c = true
      · rw [if_pos hb, if_pos hb, Nat.add_assoc]; exact hexTk_shift n r _ _ _
      · rw [if_neg hb, if_neg hb]
        by_cases hv : hexV c < 0
        · rw [if_pos hv, if_pos hv]; exact ⟨rfl, rfl, fun h => absurd (show (4 : Int) = 0 from h) (by decide)⟩
        · rw [if_neg hv, if_neg hv]
          cases p with
          | none => simp only; rw [Nat.add_assoc]; exact hexTk_shift n r _ _ _
          | some x => simp only; rw [Nat.add_assoc]; exact hexTk_shift n r _ _ _
/-- The same was read, n further on. -/
def Sh {α : Type} (n : Nat) (r r' : α × Int × Nat) : Prop := r'.1 = r.1 ∧ r'.2.1 = r.2.1 ∧ (r.2.1 = 0 → r'.2.2 = n + r.2.2)
theorem Sh.bad {α : Type} {n : Nat} {a : α} {e : Int} {i j : Nat} (h : e ≠ 0) : Sh n (a, e, i) (a, e, j) := ⟨rfl, rfl, fun q => absurd q h⟩
theorem Sh.of {α : Type} {n : Nat} {a : α} {e : Int} {i : Nat} : Sh n (a, e, i) (a, e, n + i) := ⟨rfl, rfl, fun _ => rfl⟩
section
variable {n : Nat} {s t : ByteArray} {f g : Nat → Rd}
theorem Shift.list (h : Shift n s t) (hf : ∀ j, Sh n (f j) (g (n + j))) : ∀ (m : Nat) (acc : List V) (j : Nat), Sh n (rdL f s m acc j) (rdL g t m acc (n + j))
  | 0, _, _ => .bad (by decide)
  | m + 1, acc, j => by
    obtain ⟨ex, ey, ez, hes⟩ : ∃ x y z, endsR s wEnd j = (x, y, z) := ⟨_, _, _, rfl⟩
    have het : endsR t wEnd (n + j) = (ex, ey, n + ez) := by rw [h.ends, hes]
    rw [rdL_step hes, rdL_step het]
    obtain ⟨q1, q2, q3⟩ := hf ez
    by_cases hx : ex ≠ 0
    · rw [if_pos hx, if_pos hx]; exact .bad hx
    rw [if_neg hx, if_neg hx]
    cases ey
    · simp only [Bool.false_eq_true, if_false]
      rw [q2]
      by_cases he : (f ez).2.1 ≠ 0
      · rw [if_pos he, if_pos he]; exact .bad he
      rw [if_neg he, if_neg he]
      by_cases hm : 300 < acc.length + 1
      · rw [if_pos hm, if_pos hm]; exact .bad (by decide)
      · rw [if_neg hm, if_neg hm, q1, q3 (by simpa using he)]
        exact Shift.list h hf m _ _
    · rw [if_pos rfl, if_pos rfl]; exact .of
theorem Shift.field (h : Shift n s t) (hf : ∀ j, Sh n (f j) (g (n + j))) (k : Nat) : Sh n (rdFd f s k) (rdFd g t (n + k)) := by
  unfold rdFd
  rw [h.get, show n + k + 1 = n + (k + 1) by omega, h.word]
  by_cases h47 : s.data.toList[k]? = some 47
  · rw [if_pos h47, if_pos h47]
    cases nameR (wordP s (k + 1)).data.toList with
    | none => exact .bad (by decide)
    | some b =>
      simp only
      rw [Nat.add_assoc n]
      obtain ⟨q1, q2, q3⟩ := hf (k + 1 + (wordP s (k + 1)).size)
      rw [q1, q2]
      exact ⟨rfl, rfl, q3⟩
  · rw [if_neg h47, if_neg h47]; exact .bad (by decide)
theorem Shift.dict (h : Shift n s t) (hf : ∀ j, Sh n (f j) (g (n + j))) : ∀ (m : Nat) (acc : List (ByteArray × V)) (j : Nat), Sh n (rdD f s m acc j) (rdD g t m acc (n + j))
  | 0, _, _ => .bad (by decide)
  | m + 1, acc, j => by
    obtain ⟨ex, ey, ez, hes⟩ : ∃ x y z, endsR s wEnd2 j = (x, y, z) := ⟨_, _, _, rfl⟩
    have het : endsR t wEnd2 (n + j) = (ex, ey, n + ez) := by rw [h.ends, hes]
    rw [rdD_step hes, rdD_step het]
    obtain ⟨q1, q2, q3⟩ := h.field hf ez
    by_cases hx : ex ≠ 0
    · rw [if_pos hx, if_pos hx]; exact .bad hx
    rw [if_neg hx, if_neg hx]
    cases ey
    · simp only [Bool.false_eq_true, if_false]
      rw [q2, q1]
      by_cases he : (rdFd f s ez).2.1 ≠ 0
      · rw [if_pos he, if_pos he]; exact .bad he
      rw [if_neg he, if_neg he]
      by_cases hg : (getF (rdFd f s ez).1.1 acc).isSome = true
      · rw [if_pos hg, if_pos hg]; exact .bad (by decide)
      rw [if_neg hg, if_neg hg]
      by_cases hm : 300 < acc.length + 1
      · rw [if_pos hm, if_pos hm]; exact .bad (by decide)
      · rw [if_neg hm, if_neg hm, q3 (by simpa using he)]
        exact Shift.dict h hf m _ _
    · rw [if_pos rfl, if_pos rfl]; exact .of
theorem otherK_eq (s : ByteArray) (k : Nat) (W : ByteArray) (h : wordP s k = W) : otherK s k = if W = wNull then (0, 0, 0, k + W.size) else if W = wTrue then (1, 1, 0, k + W.size) else if W = wFalse then (1, 0, 0, k + W.size)
    else if objL W.data.toList ≠ 0 ∧ (refP s (k + W.size)).isSome = true then (7, ((objL W.data.toList : Nat) : Int), 0, (refP s (k + W.size)).getD (k + W.size)) else (2, parseN W.data.toList, parseE W.data.toList, k + W.size) := by subst h; rfl
theorem Shift.other (h : Shift n s t) (k : Nat) : Sh n (otherV s k) (otherV t (n + k)) := by
  unfold otherV
  rw [otherK_eq s k _ rfl, otherK_eq t (n + k) _ (h.word k)]
  generalize wordP s k = W
  rw [Nat.add_assoc n, h.ref]
  by_cases h1 : W = wNull
  · simp only [if_pos h1]; exact .of
  · by_cases h2 : W = wTrue
    · simp only [if_neg h1, if_pos h2]; exact .of
    · by_cases h3 : W = wFalse
      · simp only [if_neg h1, if_neg h2, if_pos h3]; exact .of
      · cases hr : refP s (k + W.size) with
        | none => simp only [if_neg h1, if_neg h2, if_neg h3]; simp; exact .of
        | some x =>
          by_cases h4 : objL W.data.toList ≠ 0
          · simp only [if_neg h1, if_neg h2, if_neg h3, Option.map_some, Option.isSome_some, Option.getD_some, and_true, if_pos h4]; exact .of
          · simp only [if_neg h1, if_neg h2, if_neg h3, Option.map_some, Option.isSome_some, Option.getD_some, and_true, if_neg h4]; exact .of
theorem Shift.atP (h : Shift n s t) (hf : ∀ j, Sh n (f j) (g (n + j))) (p : Nat) : Sh n (rdAt f s p) (rdAt g t (n + p)) := by
  unfold rdAt
  rw [h.get, show n + p + 1 = n + (p + 1) by omega, h.get]
  by_cases h47 : s.data.toList[p]? = some 47
  · rw [if_pos h47, if_pos h47]
    unfold nameV
    rw [show n + p + 1 = n + (p + 1) by omega, h.word]
    cases nameR (wordP s (p + 1)).data.toList with
    | none => exact .bad (by decide)
    | some b => simp only; rw [Nat.add_assoc n]; exact .of
  rw [if_neg h47, if_neg h47]
  by_cases h40 : s.data.toList[p]? = some 40
  · rw [if_pos h40, if_pos h40]
    unfold litV litT
    rw [show n + p + 1 = n + (p + 1) by omega, h.drop]
    obtain ⟨q1, q2, q3⟩ := litF_shift n (s.data.toList.drop (p + 1)).length (s.data.toList.drop (p + 1)) 1 [] (p + 1)
    rw [q1, q2]
    exact ⟨rfl, rfl, fun q => q3 (textR_zero q).1⟩
  rw [if_neg h40, if_neg h40]
  by_cases h60 : s.data.toList[p]? = some 60
  · rw [if_pos h60, if_pos h60]
    by_cases h6 : s.data.toList[p + 1]? = some 60
    · rw [if_pos h6, if_pos h6]
      unfold dictV
      rw [show n + p + 2 = n + (p + 2) by omega]
      obtain ⟨q1, q2, q3⟩ := h.dict hf 302 [] (p + 2)
      rw [q1, q2]
      exact ⟨rfl, rfl, q3⟩
    · rw [if_neg h6, if_neg h6]
      unfold hexW
      rw [show n + p + 1 = n + (p + 1) by omega, h.drop]
      obtain ⟨q1, q2, q3⟩ := hexTk_shift n (s.data.toList.drop (p + 1)) none [] (p + 1)
      rw [q1, q2]
      exact ⟨rfl, rfl, fun q => q3 (textR_zero q).1⟩
  rw [if_neg h60, if_neg h60]
  by_cases h91 : s.data.toList[p]? = some 91
  · rw [if_pos h91, if_pos h91]
    unfold listV
    rw [show n + p + 1 = n + (p + 1) by omega]
    obtain ⟨q1, q2, q3⟩ := h.list hf 302 [] (p + 1)
    rw [q1, q2]
    exact ⟨rfl, rfl, q3⟩
  rw [if_neg h91, if_neg h91]
  by_cases hsg : (s.data.toList[p]?).map isSg = some true
  · rw [if_pos hsg, if_pos hsg]; exact .bad (by decide)
  · rw [if_neg hsg, if_neg hsg]; exact h.other p
theorem Shift.value (h : Shift n s t) : ∀ (m j : Nat), Sh n (rdV s m j) (rdV t m (n + j))
  | 0, j => by
    unfold rdV
    rw [h.skip, h.size]
    by_cases h1 : skipP s j = s.size
    · rw [if_pos h1, if_pos (by omega)]; exact .bad (by decide)
    · rw [if_neg h1, if_neg (by omega)]; exact .bad (by decide)
  | m + 1, j => by
    unfold rdV
    rw [h.skip, h.size]
    by_cases h1 : skipP s j = s.size
    · rw [if_pos h1, if_pos (by omega)]; exact .bad (by decide)
    · rw [if_neg h1, if_neg (by omega)]; exact h.atP (Shift.value h m) _
/-- What stands ahead tells nothing. -/
theorem Shift.ahead (h : Shift n s t) (h0 : skipP t 0 = n + skipP s 0) (m : Nat) : Sh n (rdV s (m + 1) 0) (rdV t (m + 1) 0) := by
  have q := h.value (m + 1) 0
  have e : rdV t (m + 1) 0 = rdV t (m + 1) (n + 0) ∨ skipP s 0 = s.size := by
    by_cases h1 : skipP s 0 = s.size
    · exact .inr h1
    · refine .inl ?_
      rw [rdV, rdV, h0, h.skip, h.size, if_neg (by omega), if_neg (by omega)]
  rcases e with e | e
  · rw [e]; exact q
  · rw [rdV, rdV, h0, h.size, if_pos e, if_pos (by omega)]; exact .bad (by decide)
end
end Go.Proofs.YtfkjoppehbmomaaGreatDoor

/-
  Reading, plainly: what stands behind a value, parted by a blank, tells nothing: the small steps.
-/
namespace Go.Proofs.YtfkjoppehbmomaaGreatDoor
open Go.RowKit
set_option maxRecDepth 100000

/-- The texts agree below k; t has a blank there. -/
structure Upto (k : Nat) (s t : ByteArray) : Prop where
  le : k ≤ s.size
  get : ∀ i, i < k → t.data.toList[i]? = s.data.toList[i]?
  stop : t.data.toList[k]? = some 32
section
variable {k : Nat} {s t : ByteArray}
theorem Upto.lt (h : Upto k s t) : k < t.size := by
  have := (List.getElem?_eq_some_iff.1 h.stop).1
  simpa using this
theorem Upto.some (h : Upto k s t) {i : Nat} (hi : i < k) : ∃ c, s.data.toList[i]? = some c ∧ t.data.toList[i]? = some c := by
  have h1 : i < s.size := Nat.lt_of_lt_of_le hi h.le
  exact ⟨s[i], rdAt_get h1, (h.get i hi).trans (rdAt_get h1)⟩
theorem drop_some {s : ByteArray} {i : Nat} {c : UInt8} (h : s.data.toList[i]? = some c) : s.data.toList.drop i = c :: s.data.toList.drop (i + 1) := by
  obtain ⟨h1, rfl⟩ := List.getElem?_eq_some_iff.1 h
  exact List.drop_eq_getElem_cons h1
/-- Words that end at k or ahead of it are the same. -/
theorem Upto.wordL (h : Upto k s t) : ∀ (n i : Nat), i + n = k → i + Go.Proofs.YtfkjoppehbmomaaGreatDoor.wordL (s.data.toList.drop i) ≤ k → Go.Proofs.YtfkjoppehbmomaaGreatDoor.wordL (t.data.toList.drop i) = Go.Proofs.YtfkjoppehbmomaaGreatDoor.wordL (s.data.toList.drop i)
  | 0, i, hi, hw => by
    have e : i = k := by omega
    subst e
    have h0 : Go.Proofs.YtfkjoppehbmomaaGreatDoor.wordL (s.data.toList.drop i) = 0 := by omega
    rw [h0, drop_some h.stop]
    rfl
  | n + 1, i, hi, hw => by
    obtain ⟨c, h1, h2⟩ := h.some (show i < k by omega)
    rw [drop_some h1] at hw ⊢
    rw [drop_some h2]
    have step : ∀ r : List UInt8, Go.Proofs.YtfkjoppehbmomaaGreatDoor.wordL (c :: r) = if !isBl c && !isSg c then Go.Proofs.YtfkjoppehbmomaaGreatDoor.wordL r + 1 else 0 := fun r => by
      unfold Go.Proofs.YtfkjoppehbmomaaGreatDoor.wordL
      rw [List.takeWhile_cons]
      split
      · rfl
      · rfl
    rw [step] at hw
    rw [step, step]
    split
    · rename_i hc
      rw [if_pos hc] at hw
      rw [Upto.wordL h n (i + 1) (by omega) (by omega)]
    · rfl
theorem take_of_get {a b : List UInt8} : ∀ {m : Nat}, (∀ i, i < m → a[i]? = b[i]?) → a.take m = b.take m := fun {m} h => by
  apply List.ext_getElem?
  intro i
  rw [List.getElem?_take, List.getElem?_take]
  split
  · rename_i hi; exact h i hi
  · rfl
theorem Upto.word (h : Upto k s t) {i : Nat} (hi : i ≤ k) (hw : i + (wordP s i).size ≤ k) : wordP t i = wordP s i := by
  have hl := (wordP_size (s := s) (k := i) (Nat.le_trans hi h.le)).1
  have e := h.wordL (k - i) i (by omega) (by omega)
  apply ba_ext
  unfold wordP
  rw [extract_list, extract_list, e]
  refine take_of_get fun j hj => ?_
  rw [List.getElem?_drop, List.getElem?_drop]
  exact h.get _ (by omega)
/-- What is skipped up to a place ahead of k is the same. -/
theorem Upto.skipL (h : Upto k s t) : ∀ (n i : Nat) (b : Bool), i + n = k → i + Go.Proofs.YtfkjoppehbmomaaGreatDoor.skipL (s.data.toList.drop i) b < k → Go.Proofs.YtfkjoppehbmomaaGreatDoor.skipL (t.data.toList.drop i) b = Go.Proofs.YtfkjoppehbmomaaGreatDoor.skipL (s.data.toList.drop i) b
  | 0, i, b, hi, hw => by omega
  | n + 1, i, b, hi, hw => by
    obtain ⟨c, h1, h2⟩ := h.some (show i < k by omega)
    rw [drop_some h1] at hw ⊢
    rw [drop_some h2]
    unfold Go.Proofs.YtfkjoppehbmomaaGreatDoor.skipL at hw ⊢
    split
    · rfl
    · rename_i hc
      rw [if_neg hc] at hw
      rw [Upto.skipL h n (i + 1) _ (by omega) (by omega)]
theorem Upto.skip (h : Upto k s t) {i : Nat} (hi : skipP s i < k) : skipP t i = skipP s i := by
  have h0 : i ≤ skipP s i := by unfold skipP; omega
  unfold skipP at hi ⊢
  rw [h.skipL (k - i) i false (by omega) hi]
end
end Go.Proofs.YtfkjoppehbmomaaGreatDoor

/-
  Reading, plainly: what stands behind a value tells nothing: strings.
-/
namespace Go.Proofs.YtfkjoppehbmomaaGreatDoor
open Go.RowKit
set_option maxRecDepth 100000

theorem agree_cons {c : UInt8} {r l' : List UInt8} {m : Nat} (hm : 0 < m) (h : ∀ i, i < m → l'[i]? = (c :: r)[i]?) : ∃ r', l' = c :: r' ∧ ∀ i, i < m - 1 → r'[i]? = r[i]? := by
  cases l' with
  | nil => have := h 0 hm; simp at this
  | cons d r' =>
    have h0 := h 0 hm
    simp at h0
    subst h0
    exact ⟨r', rfl, fun i hi => by simpa using h (i + 1) (by omega)⟩
theorem hexTk_loc : ∀ (l : List UInt8) (p : Option Nat) (b : List UInt8) (k : Nat), (hexTk l p b k).1 = 0 → ∀ l', (∀ i, i < (hexTk l p b k).2.2 - k → l'[i]? = l[i]?) → hexTk l' p b k = hexTk l p b k
  | [], _, _, _, h, _, _ => absurd (show (5 : Int) = 0 from h) (by decide)
  | c :: r, p, b, k, h, l', ha => by
    have hf := hexTk_fits (c :: r) p b k h
    obtain ⟨r', rfl, hr⟩ := agree_cons (by omega) ha
    clear ha hf
    unfold hexTk at h hr ⊢
    by_cases h62 : (c == 62) = true
    · rw [if_pos h62, if_pos h62]
    · simp only [if_neg h62] at h hr ⊢
      by_cases hb : isBl c = true
      · simp only [if_pos hb] at h hr ⊢
        exact hexTk_loc r _ _ _ h r' (fun i hi => hr i (by omega))
      · simp only [if_neg hb] at h hr ⊢
        by_cases hv : hexV c < 0
        · simp only [if_pos hv] at h; exact absurd (show (4 : Int) = 0 from h) (by decide)
        · simp only [if_neg hv] at h hr ⊢
          cases p with
          | none => exact hexTk_loc r _ _ _ h r' (fun i hi => hr i (by omega))
          | some x => exact hexTk_loc r _ _ _ h r' (fun i hi => hr i (by omega))
theorem oct_loc : ∀ (m : Nat) (l l' : List UInt8) (v : Nat), (∀ i, i ≤ octN m l → l'[i]? = l[i]?) → octN m l' = octN m l ∧ octV m l' v = octV m l v
  | 0, _, _, _, _ => by simp [octN, octV]
  | m + 1, [], l', v, h => by
    have h0 := h 0 (Nat.zero_le _)
    cases l' with
    | nil => exact ⟨rfl, rfl⟩
    | cons a r => simp at h0
  | m + 1, c :: r, l', v, h => by
    obtain ⟨r', rfl, hr⟩ := agree_cons (m := octN (m + 1) (c :: r) + 1) (by omega) (fun i hi => h i (by omega))
    rw [octN_cons] at hr
    rw [octN_cons, octN_cons, octV_cons, octV_cons]
    by_cases ho : isOct c = true
    · rw [if_pos ho] at hr
      rw [if_pos ho, if_pos ho, if_pos ho, if_pos ho]
      obtain ⟨e1, e2⟩ := oct_loc m r r' (8 * v + (c.toNat - 48)) (fun i hi => hr i (by omega))
      exact ⟨by rw [e1], e2⟩
    · rw [if_neg ho, if_neg ho, if_neg ho, if_neg ho]; exact ⟨rfl, rfl⟩
theorem escL_loc {r r' x : List UInt8} {j : Nat} (h : escL r = some (x, j)) (ha : ∀ i, i ≤ j → r'[i]? = r[i]?) : escL r' = some (x, j) := by
  have hj := (escL_le h).1
  cases r with
  | nil => cases h
  | cons e q =>
    obtain ⟨q', rfl, hq⟩ := agree_cons (m := j + 1) (by omega) (fun i hi => ha i (by omega))
    rw [escL_cons] at h ⊢
    by_cases ho : isOct e = true
    · rw [if_pos ho] at h ⊢
      simp only [Option.some.injEq, Prod.mk.injEq] at h
      obtain ⟨h1, h2⟩ := h
      obtain ⟨e1, e2⟩ := oct_loc 3 (e :: q) (e :: q') 0 (fun i hi => ha i (by omega))
      rw [e1, e2, h1, h2]
    · rw [if_neg ho] at h ⊢
      by_cases h13 : (e == 13) = true
      · have e13 : e = 13 := by simpa using h13
        subst e13
        have hh : q'.head? = q.head? := by
          have := hq 0 (by omega)
          simpa [List.head?_eq_getElem?] using this
        rw [hh]; exact h
      · have n13 : (e == 13) = false := by simpa using h13
        rw [n13] at h ⊢
        exact h
theorem litF_loc : ∀ (m : Nat) (l : List UInt8) (deep : Nat) (b : List UInt8) (k : Nat), (litF m l deep b k).1 = 0 → ∀ (m' : Nat) (l' : List UInt8), l'.length ≤ m' → (∀ i, i < (litF m l deep b k).2.2 - k → l'[i]? = l[i]?) → litF m' l' deep b k = litF m l deep b k
  | 0, _, _, _, _, h, _, _, _, _ => absurd (show (5 : Int) = 0 from h) (by decide)
  | _ + 1, [], _, _, _, h, _, _, _, _ => absurd (show (5 : Int) = 0 from h) (by decide)
  | m + 1, c :: r, deep, b, k, h, m', l', hl, ha => by
    have hf := litF_fits (m + 1) (c :: r) deep b k h
    obtain ⟨r', rfl, hr⟩ := agree_cons (by omega) ha
    clear ha hf
    obtain ⟨m2, rfl⟩ : ∃ m2, m' = m2 + 1 := ⟨m' - 1, by simp at hl; omega⟩
    have hl2 : r'.length ≤ m2 := by simpa using hl
    unfold litF at h hr ⊢
    by_cases h41 : (c == 41) = true
    · simp only [if_pos h41] at h hr ⊢
      by_cases hd : deep = 1
      · rw [if_pos hd, if_pos hd]
      · simp only [if_neg hd] at h hr ⊢
        exact litF_loc m r _ _ _ h m2 r' hl2 (fun i hi => hr i (by omega))
    · simp only [if_neg h41] at h hr ⊢
      by_cases h40 : (c == 40) = true
      · simp only [if_pos h40] at h hr ⊢
        exact litF_loc m r _ _ _ h m2 r' hl2 (fun i hi => hr i (by omega))
      · simp only [if_neg h40] at h hr ⊢
        by_cases h92 : (c == 92) = true
        · simp only [if_pos h92] at h hr ⊢
          cases he : escL r with
          | none => rw [he] at h; exact absurd (show (5 : Int) = 0 from h) (by decide)
          | some q =>
            obtain ⟨x, j⟩ := q
            rw [he] at h hr
            simp only at h hr ⊢
            have hz := litF_fits m (r.drop j) deep (b ++ x) (k + 1 + j) h
            rw [escL_loc he (fun i hi => hr i (by omega))]
            simp only
            refine litF_loc m (r.drop j) _ _ _ h m2 (r'.drop j) (by rw [List.length_drop]; omega) (fun i hi => ?_)
            rw [List.getElem?_drop, List.getElem?_drop]
            exact hr _ (by omega)
        · simp only [if_neg h92] at h hr ⊢
          exact litF_loc m r _ _ _ h m2 r' hl2 (fun i hi => hr i (by omega))
end Go.Proofs.YtfkjoppehbmomaaGreatDoor

/-
  Reading, plainly: what stands behind a value, parted by a blank, tells nothing.
-/
namespace Go.Proofs.YtfkjoppehbmomaaGreatDoor
open Go.RowKit
set_option maxRecDepth 100000

theorem skipL_stop : ∀ (l : List UInt8) (b : Bool), skipL (l.drop (skipL l b)) false = 0
  | [], b => by simp [skipL]
  | c :: r, b => by
    by_cases h : (!(c == 37 || (b && c != 10 && c != 13)) && !isBl c) = true
    · have e : skipL (c :: r) b = 0 := by unfold skipL; rw [if_pos h]
      rw [e, List.drop_zero]
      unfold skipL
      have h1 : (c == 37) = false := by
        cases hc : (c == 37)
        · rfl
        · rw [hc] at h; simp at h
      have h2 : isBl c = false := by
        cases hc : isBl c
        · rfl
        · rw [hc] at h; simp at h
      rw [h1, h2]; rfl
    · have e : skipL (c :: r) b = skipL r (c == 37 || (b && c != 10 && c != 13)) + 1 := by
        conv => lhs; unfold skipL
        rw [if_neg h]
      rw [e, List.drop_succ_cons]
      exact skipL_stop r _
theorem skip_idem (s : ByteArray) (j : Nat) : skipP s (skipP s j) = skipP s j := by
  have h := skipL_stop (s.data.toList.drop j) false
  rw [List.drop_drop] at h
  unfold skipP
  omega
theorem rdV_skip (s : ByteArray) (m j : Nat) : rdV s (m + 1) (skipP s j) = rdV s (m + 1) j ∨ skipP s j = s.size := by
  by_cases h : skipP s j = s.size
  · exact .inr h
  · refine .inl ?_
    rw [rdV, rdV, skip_idem, if_neg h, if_neg h]
theorem word_sign {s : ByteArray} {p : Nat} {c : UInt8} (h : s.data.toList[p]? = some c) (hc : isSg c = true) : (wordP s p).size = 0 := by
  have hp : p < s.size := by simpa using (List.getElem?_eq_some_iff.1 h).1
  rw [(wordP_size (Nat.le_of_lt hp)).1, drop_some h]
  unfold wordL
  rw [List.takeWhile_cons, hc]
  simp
/-- What a value's reading shows of the word that stands there. -/
theorem rdV_word (s : ByteArray) (m j : Nat) (hj : j ≤ s.size) (h : (rdV s m j).2.1 = 0) :
    skipP s j < (rdV s m j).2.2 ∧ skipP s j + (wordP s (skipP s j)).size ≤ (rdV s m j).2.2 ∧ (wordP s (skipP s j) = w0 → (rdV s m j).2.2 = skipP s j + 1) := by
  cases m with
  | zero =>
    unfold rdV at h
    simp only at h
    split at h
    · exact absurd h (by decide)
    · exact absurd h (by decide)
  | succ m =>
    have hl := skipP_le hj
    have h0 : ¬ skipP s j = s.size := fun e => by rw [rdV, if_pos e] at h; exact absurd (show (5 : Int) = 0 from h) (by decide)
    have hfit := rdV_fits s (m + 1) (skipP s j) hl.2
    rw [(rdV_skip s m j).resolve_right h0] at hfit
    have hlt : skipP s j < (rdV s (m + 1) j).2.2 := by
      have := (hfit h).1
      have hc : 1 ≤ (rdV s (m + 1) j).1.cnt := by rw [cnt_eq]; omega
      omega
    refine ⟨hlt, ?_⟩
    have hpl : skipP s j < s.size := by omega
    have hg := rdAt_get hpl
    rw [rdV, if_neg h0] at h hlt ⊢
    generalize skipP s j = p at *
    have sign : isSg s[p] = true → p + (wordP s p).size ≤ (rdAt (rdV s m) s p).2.2 ∧ (wordP s p = w0 → (rdAt (rdV s m) s p).2.2 = p + 1) := fun hs => by
      have hz := word_sign hg hs
      refine ⟨by omega, fun e => ?_⟩
      rw [e] at hz
      exact absurd hz (by decide)
    by_cases hs : isSg s[p] = true
    · exact sign hs
    · have hb : isSg s[p] = false := by simpa using hs
      have ne : ∀ c : UInt8, isSg c = true → ¬ s.data.toList[p]? = some c := fun c hc e => by
        rw [hg] at e
        injection e with e
        rw [e] at hs; exact hs hc
      have e : rdAt (rdV s m) s p = otherV s p := by
        unfold rdAt
        rw [if_neg (ne 47 rfl), if_neg (ne 40 rfl), if_neg (ne 60 rfl), if_neg (ne 91 rfl), if_neg (by rw [hg]; simp [hb])]
      rw [e] at h ⊢
      unfold otherV at h ⊢
      rw [otherK_eq s p _ rfl] at h ⊢
      have hle := yWordLe (s := s) (k := p) (by omega)
      generalize wordP s p = W at *
      by_cases h1 : W = wNull
      · simp only [if_pos h1]; exact ⟨Nat.le_refl _, fun e => by rw [h1] at e; exact absurd (congrArg ByteArray.size e) (by decide)⟩
      · by_cases h2 : W = wTrue
        · simp only [if_neg h1, if_pos h2]; exact ⟨Nat.le_refl _, fun e => by rw [h2] at e; exact absurd (congrArg ByteArray.size e) (by decide)⟩
        · by_cases h3 : W = wFalse
          · simp only [if_neg h1, if_neg h2, if_pos h3]; exact ⟨Nat.le_refl _, fun e => by rw [h3] at e; exact absurd (congrArg ByteArray.size e) (by decide)⟩
          · by_cases h4 : objL W.data.toList ≠ 0 ∧ (refP s (p + W.size)).isSome = true
            · simp only [if_neg h1, if_neg h2, if_neg h3, if_pos h4]
              refine ⟨?_, fun e => ?_⟩
              · obtain ⟨x, hx⟩ := Option.isSome_iff_exists.1 h4.2
                rw [hx]
                show p + W.size ≤ x
                unfold refP at hx
                split at hx
                · split at hx
                  · injection hx with hx
                    have a1 := (skipP_le hle).1
                    have a2 : skipP s (p + W.size) + 1 ≤ skipP s (skipP s (p + W.size) + 1) := by unfold skipP; omega
                    omega
                  · cases hx
                · cases hx
              · rw [e] at h4; exact absurd rfl h4.1
            · simp only [if_neg h1, if_neg h2, if_neg h3, if_neg h4]
              exact ⟨Nat.le_refl _, fun e => by rw [e]; rfl⟩
section
variable {k : Nat} {s t : ByteArray}
/-- What may be looked at behind a number is the same. -/
theorem Upto.ref (h : Upto k s t) {z : Nat} (h1 : skipP s z < k) (h2 : skipP s z + (wordP s (skipP s z)).size ≤ k)
    (h3 : wordP s (skipP s z) = w0 → skipP s (skipP s z + 1) < k ∧ skipP s (skipP s z + 1) + (wordP s (skipP s (skipP s z + 1))).size ≤ k) : refP t z = refP s z := by
  unfold refP
  rw [h.skip h1, h.word (Nat.le_of_lt h1) h2]
  by_cases e : wordP s (skipP s z) = w0
  · obtain ⟨a, b⟩ := h3 e
    rw [if_pos e, if_pos e, h.skip a, h.word (Nat.le_of_lt a) b]
  · rw [if_neg e, if_neg e]
theorem Upto.refSome (h : Upto k s t) {z x : Nat} (hz : z ≤ s.size) (hr : refP s z = Option.some x) (hx : x ≤ k) : refP t z = Option.some x := by
  have q := hr
  unfold refP at q
  split at q
  · rename_i e1
    split at q
    · rename_i e2
      injection q with q
      have a1 := (skipP_le hz).2
      have b1 : w0.size = 1 := rfl
      have b2 : wR.size = 1 := rfl
      have c1 : skipP s z + 1 ≤ skipP s (skipP s z + 1) := by unfold skipP; omega
      rw [h.ref (z := z) (by omega) (by rw [e1]; omega) (fun _ => ⟨by omega, by rw [e2]; omega⟩)]
      exact hr
    · cases q
  · cases q
/-- The same is read in t. -/
def Loc (k : Nat) (s t : ByteArray) (f g : Nat → Rd) : Prop := ∀ j, j ≤ s.size → (f j).2.1 = 0 → (f j).2.2 ≤ k → ((f j).1.k = 2 → refP t (f j).2.2 = refP s (f j).2.2) → g j = f j
def Wrd (s : ByteArray) (f : Nat → Rd) : Prop := ∀ j, j ≤ s.size → (f j).2.1 = 0 → skipP s j < (f j).2.2 ∧ skipP s j + (wordP s (skipP s j)).size ≤ (f j).2.2 ∧ (wordP s (skipP s j) = w0 → (f j).2.2 = skipP s j + 1)
variable {f g : Nat → Rd}
/-- A list's reading, one step. -/
theorem rdL_one (hf : Fits s f) {m : Nat} {acc : List V} {j : Nat} (hj : j ≤ s.size) (h : (rdL f s m acc j).2.1 = 0) :
    ∃ m', m = m' + 1 ∧ skipP s j < s.size ∧ ((s.data.toList[skipP s j]? = some 93 ∧ rdL f s m acc j = (acc, 0, skipP s j + 1)) ∨
      (¬ s.data.toList[skipP s j]? = some 93 ∧ (f (skipP s j)).2.1 = 0 ∧ (f (skipP s j)).2.2 ≤ s.size ∧ acc.length + 1 ≤ 300 ∧ rdL f s m acc j = rdL f s m' (acc ++ [(f (skipP s j)).1]) (f (skipP s j)).2.2)) := by
  cases m with
  | zero => exact absurd (show (2 : Int) = 0 from h) (by decide)
  | succ m =>
    have hl := skipP_le hj
    have hes := endsR_one s j
    by_cases h0 : skipP s j = s.size
    · rw [if_pos h0] at hes
      rw [rdL_step hes, if_pos (by decide)] at h
      exact absurd (show (5 : Int) = 0 from h) (by decide)
    rw [if_neg h0] at hes
    refine ⟨m, rfl, by omega, ?_⟩
    by_cases h9 : s.data.toList[skipP s j]? = some 93
    · rw [if_pos h9] at hes
      exact .inl ⟨h9, by rw [rdL_step hes, if_neg (by simp), if_pos rfl]⟩
    · rw [if_neg h9] at hes
      rw [rdL_step hes] at h ⊢
      simp only [ne_eq, not_true_eq_false, if_false, Bool.false_eq_true] at h ⊢
      by_cases he : (f (skipP s j)).2.1 = 0
      · by_cases hm : 300 < acc.length + 1
        · simp only [he, not_true_eq_false, if_false, if_pos hm] at h; exact absurd (show (2 : Int) = 0 from h) (by decide)
        · exact .inr ⟨h9, he, (hf _ hl.2 he).2, by omega, by simp only [he, not_true_eq_false, if_false, if_neg hm]⟩
      · simp only [he, not_false_eq_true, if_true] at h
theorem rdL_mono (hf : Fits s f) : ∀ (m : Nat) (acc : List V) (j : Nat), j ≤ s.size → (rdL f s m acc j).2.1 = 0 → j ≤ (rdL f s m acc j).2.2
  | m, acc, j, hj, h => by
    obtain ⟨m', rfl, hlt, ⟨h9, e⟩ | ⟨h9, he, hle, _, e⟩⟩ := rdL_one hf hj h
    · rw [e]; have := (skipP_le hj).1; show j ≤ skipP s j + 1; omega
    · rw [e] at h ⊢
      have := rdL_mono hf m' _ _ hle h
      have h1 := (hf _ (skipP_le hj).2 he).1
      have h2 := (skipP_le hj).1
      omega
theorem rdL_tok1 (hf : Fits s f) (hw : Wrd s f) {m : Nat} {acc : List V} {z : Nat} (hz : z ≤ s.size) (h : (rdL f s m acc z).2.1 = 0) (hk : (rdL f s m acc z).2.2 ≤ k) :
    skipP s z < k ∧ skipP s z + (wordP s (skipP s z)).size ≤ k ∧ (wordP s (skipP s z) = w0 → ∃ m' acc', (rdL f s m' acc' (skipP s z + 1)).2.1 = 0 ∧ (rdL f s m' acc' (skipP s z + 1)).2.2 ≤ k ∧ skipP s z + 1 ≤ s.size) := by
  obtain ⟨m', rfl, hlt, ⟨h9, e⟩ | ⟨h9, he, hle, _, e⟩⟩ := rdL_one hf hz h
  · rw [e] at hk
    have hs := word_sign h9 rfl
    simp only at hk
    exact ⟨by omega, by omega, fun q => by rw [q] at hs; exact absurd hs (by decide)⟩
  · rw [e] at h hk
    have hl := skipP_le hz
    obtain ⟨w1, w2, w3⟩ := hw (skipP s z) hl.2 he
    rw [skip_idem] at w1 w2 w3
    have hge : (f (skipP s z)).2.2 ≤ (rdL f s m' (acc ++ [(f (skipP s z)).1]) (f (skipP s z)).2.2).2.2 := by
      have := rdL_mono hf m' (acc ++ [(f (skipP s z)).1]) _ hle h
      exact this
    refine ⟨by omega, by omega, fun q => ⟨m', acc ++ [(f (skipP s z)).1], ?_⟩⟩
    rw [← w3 q]
    exact ⟨h, hk, hle⟩
end
end Go.Proofs.YtfkjoppehbmomaaGreatDoor

/-
  Reading, plainly: what stands behind a value, parted by a blank, tells nothing: lists, dictionaries, values.
-/
namespace Go.Proofs.YtfkjoppehbmomaaGreatDoor
open Go.RowKit
set_option maxRecDepth 100000

section
variable {k : Nat} {s t : ByteArray} {f g : Nat → Rd}
theorem rdL_ref (h : Upto k s t) (hf : Fits s f) (hw : Wrd s f) {m : Nat} {acc : List V} {z : Nat} (hz : z ≤ s.size) (hr : (rdL f s m acc z).2.1 = 0) (hk : (rdL f s m acc z).2.2 ≤ k) : refP t z = refP s z := by
  obtain ⟨a, b, c⟩ := rdL_tok1 hf hw hz hr hk
  refine h.ref a b (fun e => ?_)
  obtain ⟨m', acc', h', hk', hz'⟩ := c e
  obtain ⟨a', b', _⟩ := rdL_tok1 hf hw hz' h' hk'
  exact ⟨a', b'⟩
theorem Upto.endsOne (h : Upto k s t) {j : Nat} (hp : skipP s j < k) : endsR t wEnd j = if s.data.toList[skipP s j]? = Option.some 93 then (0, true, skipP s j + 1) else (0, false, skipP s j) := by
  have := h.lt
  rw [endsR_one, h.skip hp, if_neg (by omega), h.get _ hp]
theorem rdL_loc (h : Upto k s t) (hf : Fits s f) (hw : Wrd s f) (hl : Loc k s t f g) : ∀ (m : Nat) (acc : List V) (j : Nat), j ≤ s.size → (rdL f s m acc j).2.1 = 0 → (rdL f s m acc j).2.2 ≤ k → rdL g t m acc j = rdL f s m acc j
  | m, acc, j, hj, hr, hk => by
    have hp := (rdL_tok1 hf hw hj hr hk).1
    have hes := h.endsOne hp
    obtain ⟨m', rfl, hlt, ⟨h9, e⟩ | ⟨h9, he, hle, hm, e⟩⟩ := rdL_one hf hj hr
    · rw [if_pos h9] at hes
      rw [e, rdL_step hes, if_neg (by simp), if_pos rfl]
    · rw [if_neg h9] at hes
      rw [e] at hr hk ⊢
      have hmn := rdL_mono hf m' _ _ hle hr
      have hg : g (skipP s j) = f (skipP s j) := hl _ (Nat.le_of_lt hlt) he (by omega) (fun _ => rdL_ref h hf hw hle hr hk)
      rw [rdL_step hes, hg]
      simp only [ne_eq, not_true_eq_false, if_false, Bool.false_eq_true, he]
      rw [if_neg (by omega)]
      exact rdL_loc h hf hw hl m' _ _ hle hr hk
theorem rdFd_inv {p : Nat} (h : (rdFd f s p).2.1 = 0) : ∃ b, s.data.toList[p]? = Option.some 47 ∧ nameR (wordP s (p + 1)).data.toList = Option.some b ∧ rdFd f s p = ((⟨b.toArray⟩, (f (p + 1 + (wordP s (p + 1)).size)).1), (f (p + 1 + (wordP s (p + 1)).size)).2.1, (f (p + 1 + (wordP s (p + 1)).size)).2.2) := by
  by_cases h47 : s.data.toList[p]? = Option.some 47
  · cases hr : nameR (wordP s (p + 1)).data.toList with
    | none => unfold rdFd at h; rw [if_pos h47, hr] at h; exact absurd (show (4 : Int) = 0 from h) (by decide)
    | some b => exact ⟨b, h47, rfl, by unfold rdFd; rw [if_pos h47, hr]⟩
  · unfold rdFd at h; rw [if_neg h47] at h; exact absurd (show (4 : Int) = 0 from h) (by decide)
theorem rdD_one (hf : Fits s f) {m : Nat} {acc : List (ByteArray × V)} {j : Nat} (hj : j ≤ s.size) (h : (rdD f s m acc j).2.1 = 0) :
    ∃ m', m = m' + 1 ∧ skipP s j < s.size ∧ (((s.data.toList[skipP s j]? = Option.some 62 ∧ s.data.toList[skipP s j + 1]? = Option.some 62) ∧ rdD f s m acc j = (acc, 0, skipP s j + 2)) ∨
      ((rdFd f s (skipP s j)).2.1 = 0 ∧ (rdFd f s (skipP s j)).2.2 ≤ s.size ∧ skipP s j < (rdFd f s (skipP s j)).2.2 ∧ (getF (rdFd f s (skipP s j)).1.1 acc).isSome = false ∧ acc.length + 1 ≤ 300 ∧
        rdD f s m acc j = rdD f s m' (rsetF (rdFd f s (skipP s j)).1.1 (rdFd f s (skipP s j)).1.2 acc false) (rdFd f s (skipP s j)).2.2)) := by
  cases m with
  | zero => exact absurd (show (2 : Int) = 0 from h) (by decide)
  | succ m =>
    have hl := skipP_le hj
    have hes := endsR_two s j
    by_cases h0 : skipP s j = s.size
    · rw [if_pos h0] at hes
      rw [rdD_step hes, if_pos (by decide)] at h
      exact absurd (show (5 : Int) = 0 from h) (by decide)
    rw [if_neg h0] at hes
    refine ⟨m, rfl, by omega, ?_⟩
    by_cases h9 : s.data.toList[skipP s j]? = Option.some 62 ∧ s.data.toList[skipP s j + 1]? = Option.some 62
    · rw [if_pos h9] at hes
      exact .inl ⟨h9, by rw [rdD_step hes, if_neg (by simp), if_pos rfl]⟩
    · rw [if_neg h9] at hes
      rw [rdD_step hes] at h ⊢
      simp only [ne_eq, not_true_eq_false, if_false, Bool.false_eq_true] at h ⊢
      by_cases he : (rdFd f s (skipP s j)).2.1 = 0
      · simp only [he, not_true_eq_false, if_false] at h ⊢
        cases hg : (getF (rdFd f s (skipP s j)).1.1 acc).isSome
        · rw [hg] at h
          simp only [Bool.false_eq_true, if_false] at h ⊢
          by_cases hm : 300 < acc.length + 1
          · rw [if_pos hm] at h; exact absurd (show (2 : Int) = 0 from h) (by decide)
          · have hft := rdFd_fits hf (by omega : skipP s j < s.size) he
            exact .inr ⟨trivial, hft.2, by omega, trivial, by omega, by rw [if_neg hm]⟩
        · rw [hg] at h
          exact absurd (show (3 : Int) = 0 from h) (by decide)
      · simp only [he, not_false_eq_true, if_true] at h
theorem rdD_mono (hf : Fits s f) : ∀ (m : Nat) (acc : List (ByteArray × V)) (j : Nat), j ≤ s.size → (rdD f s m acc j).2.1 = 0 → skipP s j + 1 ≤ (rdD f s m acc j).2.2
  | m, acc, j, hj, h => by
    obtain ⟨m', rfl, hlt, ⟨h9, e⟩ | ⟨he, hle, hgt, _, _, e⟩⟩ := rdD_one hf hj h
    · rw [e]; show skipP s j + 1 ≤ skipP s j + 2; omega
    · rw [e] at h ⊢
      have := rdD_mono hf m' _ _ hle h
      have h2 := (skipP_le hle).1
      omega
theorem rdD_tok (hf : Fits s f) {m : Nat} {acc : List (ByteArray × V)} {z : Nat} (hz : z ≤ s.size) (h : (rdD f s m acc z).2.1 = 0) (hk : (rdD f s m acc z).2.2 ≤ k) : skipP s z < k ∧ (wordP s (skipP s z)).size = 0 := by
  have hm := rdD_mono hf m acc z hz h
  refine ⟨by omega, ?_⟩
  obtain ⟨m', rfl, hlt, ⟨h9, e⟩ | ⟨he, _⟩⟩ := rdD_one hf hz h
  · exact word_sign h9.1 rfl
  · obtain ⟨b, h47, _⟩ := rdFd_inv he
    exact word_sign h47 rfl
theorem rdD_ref (h : Upto k s t) (hf : Fits s f) {m : Nat} {acc : List (ByteArray × V)} {z : Nat} (hz : z ≤ s.size) (hr : (rdD f s m acc z).2.1 = 0) (hk : (rdD f s m acc z).2.2 ≤ k) : refP t z = refP s z := by
  obtain ⟨a, b⟩ := rdD_tok hf hz hr hk
  exact h.ref a (by omega) (fun e => by rw [e] at b; exact absurd b (by decide))
set_option maxHeartbeats 1000000 in
theorem rdD_loc (h : Upto k s t) (hf : Fits s f) (hl : Loc k s t f g) : ∀ (m : Nat) (acc : List (ByteArray × V)) (j : Nat), j ≤ s.size → (rdD f s m acc j).2.1 = 0 → (rdD f s m acc j).2.2 ≤ k → rdD g t m acc j = rdD f s m acc j := by
  intro m
  induction m with
  | zero =>
    intro acc j hj hr
    obtain ⟨m', e, _⟩ := rdD_one hf hj hr
    cases e
  | succ m ih =>
    intro acc j hj hr hk
    have hp := (rdD_tok hf hj hr hk).1
    have htl := h.lt
    have hes := endsR_two t j
    rw [h.skip hp, if_neg (by omega), h.get _ hp] at hes
    obtain ⟨m', em, hlt, ⟨h9, e⟩ | ⟨he, hle, hgt, hg, hm, e⟩⟩ := rdD_one hf hj hr
    · rw [e] at hk
      simp only at hk
      rw [h.get _ (by omega), if_pos h9] at hes
      rw [e, rdD_step hes, if_neg (by simp), if_pos rfl]
    · obtain rfl : m = m' := by omega
      rw [e] at hr hk ⊢
      have hmn := rdD_mono hf _ _ _ hle hr
      have hsl := (skipP_le hle).1
      obtain ⟨b, h47, hnm, hfd⟩ := rdFd_inv he
      rw [if_neg (fun q => by rw [h47] at q; exact absurd q.1 (by decide))] at hes
      have hwl := yWordLe (s := s) (k := skipP s j + 1) (by omega)
      have he' := he
      rw [hfd] at he'
      simp only at he'
      have hq := (hf _ hwl he').1
      have hend : (f (skipP s j + 1 + (wordP s (skipP s j + 1)).size)).2.2 = (rdFd f s (skipP s j)).2.2 := by rw [hfd]
      have hgq : g (skipP s j + 1 + (wordP s (skipP s j + 1)).size) = f (skipP s j + 1 + (wordP s (skipP s j + 1)).size) := hl _ hwl he' (by omega) (fun _ => by rw [hend]; exact rdD_ref h hf hle hr hk)
      have hwt : wordP t (skipP s j + 1) = wordP s (skipP s j + 1) := h.word (by omega) (by omega)
      have hft : rdFd g t (skipP s j) = rdFd f s (skipP s j) := by
        rw [hfd]
        unfold rdFd
        rw [h.get _ hp, if_pos h47, hwt, hnm]
        simp only
        rw [hgq]
      rw [rdD_step hes, hft]
      simp only [ne_eq, not_true_eq_false, if_false, Bool.false_eq_true, he, hg]
      rw [if_neg (by omega)]
      exact ih _ _ hle hr hk
end
theorem rdV_wrd (s : ByteArray) (m : Nat) : Wrd s (rdV s m) := fun j hj h => rdV_word s m j hj h
/-- The same is read of both texts. -/
theorem rdV_loc {k : Nat} {s t : ByteArray} (h : Upto k s t) : ∀ m, Loc k s t (rdV s m) (rdV t m)
  | 0 => fun j hj he => by
    exfalso
    unfold rdV at he
    simp only at he
    split at he
    · exact absurd he (by decide)
    · exact absurd he (by decide)
  | m + 1 => fun j hj he hk hrf => by
    have ih := rdV_loc h m
    have hl := skipP_le hj
    have htl := h.lt
    have h0 : ¬ skipP s j = s.size := fun e => by rw [rdV, if_pos e] at he; exact absurd (show (5 : Int) = 0 from he) (by decide)
    have hw := rdV_word s (m + 1) j hj he
    have hp : skipP s j < k := by omega
    have hpl : skipP s j < s.size := by omega
    rw [rdV, h.skip hp, if_neg (by omega)]
    rw [rdV, if_neg h0] at he hk hrf hw ⊢
    generalize skipP s j = p at *
    have hgs := rdAt_get hpl
    have hgt : t.data.toList[p]? = s.data.toList[p]? := h.get p hp
    unfold rdAt at he hk hrf hw ⊢
    rw [hgt]
    by_cases h47 : s.data.toList[p]? = some 47
    · simp only [if_pos h47] at he hk hrf hw ⊢
      unfold nameV at he hk ⊢
      cases hr : nameR (wordP s (p + 1)).data.toList with
      | none => rw [hr] at he; exact absurd (show (4 : Int) = 0 from he) (by decide)
      | some b =>
        rw [hr] at hk
        simp only at hk
        rw [h.word (by omega) (by omega), hr]
    simp only [if_neg h47] at he hk hrf hw ⊢
    by_cases h40 : s.data.toList[p]? = some 40
    · simp only [if_pos h40] at he hk hrf hw ⊢
      unfold litV at he hk ⊢
      have he0 := (textR_zero he).1
      unfold litT at he0 hk ⊢
      have e := litF_loc _ _ 1 [] (p + 1) he0 (t.data.toList.drop (p + 1)).length (t.data.toList.drop (p + 1)) (Nat.le_refl _) (fun i hi => by
        rw [List.getElem?_drop, List.getElem?_drop]
        exact h.get _ (by simp only at hk; omega))
      rw [e]
    simp only [if_neg h40] at he hk hrf hw ⊢
    by_cases h60 : s.data.toList[p]? = some 60
    · simp only [if_pos h60] at he hk hrf hw ⊢
      by_cases h6 : s.data.toList[p + 1]? = some 60
      · simp only [if_pos h6] at he hk hrf hw ⊢
        have h6l : p + 1 < s.size := by simpa using (List.getElem?_eq_some_iff.1 h6).1
        unfold dictV at he hk ⊢
        have hmn := rdD_mono (rdV_fits s m) 302 [] (p + 2) (by omega) he
        have hs2 := (skipP_le (s := s) (k := p + 2) (by omega)).1
        simp only at hk
        rw [h.get (p + 1) (by omega), if_pos h6, rdD_loc h (rdV_fits s m) ih 302 [] (p + 2) (by omega) he hk]
      · simp only [if_neg h6] at he hk hrf hw ⊢
        unfold hexW at he hk ⊢
        have he0 := (textR_zero he).1
        have hfit := hexTk_fits _ _ _ _ he0
        simp only at hk
        have e := hexTk_loc _ none [] (p + 1) he0 (t.data.toList.drop (p + 1)) (fun i hi => by
          rw [List.getElem?_drop, List.getElem?_drop]
          exact h.get _ (by omega))
        rw [h.get (p + 1) (by omega), if_neg h6, e]
    simp only [if_neg h60] at he hk hrf hw ⊢
    by_cases h91 : s.data.toList[p]? = some 91
    · simp only [if_pos h91] at he hk hrf hw ⊢
      unfold listV at he hk ⊢
      simp only at hk
      rw [rdL_loc h (rdV_fits s m) (rdV_wrd s m) ih 302 [] (p + 1) (by omega) he hk]
    simp only [if_neg h91] at he hk hrf hw ⊢
    by_cases hsg : (s.data.toList[p]?).map isSg = some true
    · simp only [if_pos hsg] at he; exact absurd (show (4 : Int) = 0 from he) (by decide)
    simp only [if_neg hsg] at he hk hrf hw ⊢
    unfold otherV at he hk hrf hw ⊢
    have hle := yWordLe (s := s) (k := p) (by omega)
    rw [otherK_eq t p _ (h.word (Nat.le_of_lt hp) (by omega)), otherK_eq s p _ rfl]
    rw [otherK_eq s p _ rfl] at he hk hrf
    generalize wordP s p = W at *
    by_cases h1 : W = wNull
    · simp only [if_pos h1]
    · by_cases h2 : W = wTrue
      · simp only [if_neg h1, if_pos h2]
      · by_cases h3 : W = wFalse
        · simp only [if_neg h1, if_neg h2, if_pos h3]
        · simp only [if_neg h1, if_neg h2, if_neg h3] at he hk hrf ⊢
          by_cases h4 : objL W.data.toList ≠ 0 ∧ (refP s (p + W.size)).isSome = true
          · simp only [if_pos h4] at hk
            obtain ⟨x, hx⟩ := Option.isSome_iff_exists.1 h4.2
            rw [hx] at hk
            rw [h.refSome hle hx (by simpa using hk), hx]
          · simp only [if_neg h4] at hrf
            rw [hrf rfl]
end Go.Proofs.YtfkjoppehbmomaaGreatDoor
