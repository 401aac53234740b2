/-
  Joined: Pn, Po, Pu.
-/
import Derived.Test.YtddoigjjgcefkaaGreatDoorPm

/-
  A value's text: its first sign, and where a number has no reference behind it. Plain.
-/
namespace Go.Proofs.YtddoigjjgcefkaaGreatDoor
open Go.RowKit
set_option maxRecDepth 100000

/-- A sign that may open a value's text. -/
def opB (c : UInt8) : Bool := c != 37 && !isBl c && c != 82 && c != 93 && c != 62
theorem opB_out {c : UInt8} (h : opB c = true) : c ≠ 37 ∧ isBl c = false ∧ c ≠ 82 ∧ c ≠ 93 ∧ c ≠ 62 := by
  unfold opB at h
  simp only [Bool.and_eq_true, bne_iff_ne, ne_eq, Bool.not_eq_true'] at h
  exact ⟨h.1.1.1.1, h.1.1.1.2, h.1.1.2, h.1.2, h.2⟩
theorem opB_num : ∀ c : UInt8, numB c = true → opB c = true := u8_all (by decide +kernel)
theorem head_num {W : List UInt8} (hW : ∀ c ∈ W, numB c = true) (hne : W ≠ []) : ∃ c t, W = c :: t ∧ opB c = true := by
  match W, hW, hne with
  | c :: l, hW, _ => exact ⟨c, l, rfl, opB_num c (hW c (by simp))⟩
theorem txt_head {v : V} (h : Own v) : ∃ c t, v.txt = c :: t ∧ opB c = true := by
  rw [txt_eq]
  rcases h with ⟨hk, _⟩ | ⟨hk, _⟩ | ⟨hk, hn, _⟩ | ⟨hk, _⟩ | ⟨hk, _⟩ | ⟨hk, _⟩ | ⟨hk, _⟩ | ⟨hk, h1, h2, _⟩ <;> rw [hk]
  · exact ⟨110, _, rfl, by decide⟩
  · rw [if_pos rfl]; split
    · exact ⟨116, _, rfl, by decide⟩
    · exact ⟨102, _, rfl, by decide⟩
  · rw [if_neg (by decide), if_pos rfl, txtB_ok hn]
    exact head_num (numB_fix v.n) (fix_ne v.n)
  · exact ⟨40, _, rfl, by decide⟩
  · exact ⟨47, _, rfl, by decide⟩
  · exact ⟨91, _, rfl, by decide⟩
  · exact ⟨60, _, rfl, by decide⟩
  · rw [if_neg (by decide), if_neg (by decide), if_neg (by decide), if_neg (by decide), if_neg (by decide), if_neg (by decide), if_pos rfl]
    obtain ⟨c, t, e, hc⟩ := head_num (numB_dec (v.n.toNat % 100)) (dec_ne _)
    exact ⟨c, t ++ [32, 48, 32, 82], by rw [e]; rfl, hc⟩
/-- A word of one sign begins with it. -/
theorem word_first {s : ByteArray} {p : Nat} {c x : UInt8} {t : List UInt8} (h : s.data.toList.drop p = c :: t) (hw : wordP s p = ⟨#[x]⟩) : c = x := by
  have e : (wordP s p).data.toList = (c :: t).take (wordL (c :: t)) := by
    unfold wordP
    rw [h, ByteArray.data_extract, Array.toList_extract]
    show List.extract _ _ _ = _
    rw [List.extract_eq_take_drop, h]
    simp
  rw [hw] at e
  have e' : [x] = (c :: t).take (wordL (c :: t)) := e
  cases hq : wordL (c :: t) with
  | zero => rw [hq] at e'; simp at e'
  | succ k => rw [hq, List.take_succ_cons] at e'; injection e' with e' _; exact e'.symm
theorem word_none {s : ByteArray} {p : Nat} {x : UInt8} (h : s.data.toList.drop p = []) : wordP s p ≠ ⟨#[x]⟩ := by
  intro hw
  have e : (wordP s p).data.toList = [] := by
    unfold wordP
    rw [ByteArray.data_extract, Array.toList_extract]
    show List.extract _ _ _ = _
    rw [List.extract_eq_take_drop, h]; simp
  rw [hw] at e
  simp at e
/-- Behind a number: nothing, or a closing bracket, or a name. -/
theorem noref_end {s : ByteArray} {e : Nat} (h : s.data.toList.drop e = []) : refP s e = none := by
  have hs : skipP s e = e := by unfold skipP; rw [h]; rfl
  unfold refP
  have q : wordP s e ≠ w0 := word_none (x := 48) h
  rw [hs, if_neg q]
theorem noref_sign {s : ByteArray} {e : Nat} {c : UInt8} {t : List UInt8} (h : s.data.toList.drop e = c :: t) (h1 : c ≠ 37) (h2 : isBl c = false) (h3 : c ≠ 48) : refP s e = none := by
  unfold refP
  rw [skip_here h h1 h2, if_neg (fun (q : wordP s e = w0) => h3 (word_first h q))]
theorem noref_next {s : ByteArray} {e : Nat} {c : UInt8} {t : List UInt8} (h : s.data.toList.drop e = 32 :: c :: t) (h1 : c ≠ 37) (h2 : isBl c = false) (h3 : c ≠ 48) : refP s e = none := by
  have d : s.data.toList.drop (e + 1) = c :: t := drop_succ_of (n := 1) (a := [32]) h rfl
  unfold refP
  rw [skip_next h h1 h2, if_neg (fun (q : wordP s (e + 1) = w0) => h3 (word_first d q))]
theorem dec_pos {n : Int} (h1 : 1 ≤ n) (h2 : n ≤ 60) : Lib.decDigits (n.toNat % 100) ≠ [48] := by
  intro h
  have q := dec_val (n.toNat % 100)
  rw [h] at q
  have e : valD 0 [48] = 0 := rfl
  rw [e] at q
  omega
theorem ref_word {s : ByteArray} {p m : Nat} {r : List UInt8} (h : s.data.toList.drop p = Lib.decDigits m ++ [32, 48, 32, 82] ++ r) : (wordP s p).data.toList = Lib.decDigits m :=
  word_back (r := 32 :: ([48, 32, 82] ++ r)) (by rw [h]; simp) (fun c hc => (numB_word c (numB_dec _ c hc)).1) (.inr ⟨32, _, rfl, by decide⟩)
theorem txt_ref {v : V} (hk : v.k = 7) : v.txt = Lib.decDigits (v.n.toNat % 100) ++ [32, 48, 32, 82] := by
  rw [txt_eq, hk, if_neg (by decide), if_neg (by decide), if_neg (by decide), if_neg (by decide), if_neg (by decide), if_neg (by decide), if_pos rfl]
theorem txt_num {v : V} (hk : v.k = 2) (hn : okF v.n = true) : v.txt = fixTxt v.n := by
  rw [txt_eq, hk, if_neg (by decide), if_pos rfl, txtB_ok hn]
/-- A value's text that begins with a nought and is one word of one sign is just that. -/
theorem txt_nought {y : V} (hy : Own y) {s : ByteArray} {p : Nat} {r : List UInt8} (d : s.data.toList.drop p = y.txt ++ r) (hst : Stop r) (hw : wordP s p = w0) : y.txt = [48] := by
  have hw' : (wordP s p).data.toList = [48] := by rw [hw]; rfl
  obtain ⟨c, t, ht, _⟩ := txt_head hy
  have c48 : c = 48 := word_first (by rw [d, ht]; rfl) hw
  subst c48
  rcases hy with ⟨hk, _⟩ | ⟨hk, _⟩ | ⟨hk, hn, _⟩ | ⟨hk, _⟩ | ⟨hk, _⟩ | ⟨hk, _⟩ | ⟨hk, _⟩ | ⟨hk, h1, h2, _⟩
  · rw [txt_eq, hk] at ht; injection ht with q _; exact absurd q (by decide)
  · rw [txt_eq, hk, if_pos rfl] at ht
    split at ht
    · injection ht with q _; exact absurd q (by decide)
    · injection ht with q _; exact absurd q (by decide)
  · rw [txt_num hk hn] at d ⊢
    rw [word_back d (fun c hc => (numB_word c (numB_fix _ c hc)).1) hst] at hw'
    exact hw'
  · rw [txt_eq, hk] at ht; injection ht with q _; exact absurd q (by decide)
  · rw [txt_eq, hk] at ht; injection ht with q _; exact absurd q (by decide)
  · rw [txt_eq, hk] at ht; injection ht with q _; exact absurd q (by decide)
  · rw [txt_eq, hk] at ht; injection ht with q _; exact absurd q (by decide)
  · rw [txt_ref hk] at d
    rw [ref_word d] at hw'
    exact absurd hw' (dec_pos h1 h2)
/-- What stands behind a number in a list is no reference's end. -/
theorem noref_list {s : ByteArray} {e : Nat} {l : List V} {r : List UInt8} (hl : ∀ x ∈ l, Own x) (h : s.data.toList.drop e = sepsL l ++ 93 :: r) : refP s e = none := by
  match l, hl, h with
  | [], _, h => exact noref_sign (c := 93) (t := r) h (by decide) (by decide) (by decide)
  | y :: l, hl, h =>
    have hy := hl y (by simp)
    have h' : s.data.toList.drop e = 32 :: (y.txt ++ (sepsL l ++ 93 :: r)) := by rw [h, sepsL]; simp
    have d : s.data.toList.drop (e + 1) = y.txt ++ (sepsL l ++ 93 :: r) := drop_succ_of (n := 1) (a := [32]) h' rfl
    obtain ⟨c, t, ht, hc⟩ := txt_head hy
    obtain ⟨c1, c2, c3, c4, c5⟩ := opB_out hc
    have hsk : skipP s e = e + 1 := by
      rw [ht] at h'
      exact skip_next h' c1 c2
    by_cases hw : wordP s (e + 1) = w0
    · have hst : Stop (sepsL l ++ 93 :: r) := by
        cases l with
        | nil => exact .inr ⟨93, r, rfl, by decide⟩
        | cons z l => exact .inr ⟨32, z.txt ++ sepsL l ++ 93 :: r, by rw [sepsL]; simp, by decide⟩
      have key : y.txt = [48] := txt_nought hy d hst hw
      have d2 : s.data.toList.drop (e + 1 + 1) = sepsL l ++ 93 :: r := drop_succ_of (n := 1) (a := [48]) (by rw [d, key]) rfl
      have hR : wordP s (skipP s (e + 1 + 1)) ≠ wR := by
        cases l with
        | nil =>
          have d3 : s.data.toList.drop (e + 1 + 1) = 93 :: r := d2
          rw [skip_here d3 (by decide) (by decide)]
          exact fun q => absurd (word_first d3 q) (by decide)
        | cons z l =>
          obtain ⟨c', t', ht', hc'⟩ := txt_head (hl z (by simp))
          obtain ⟨e1, e2, e3, _⟩ := opB_out hc'
          have d3 : s.data.toList.drop (e + 1 + 1) = 32 :: c' :: (t' ++ (sepsL l ++ 93 :: r)) := by rw [d2, sepsL, ht']; simp
          rw [skip_next d3 e1 e2]
          exact fun q => e3 (word_first (drop_succ_of (n := 1) (a := [32]) d3 rfl) q)
      unfold refP
      rw [hsk, if_pos hw, if_neg hR]
    · unfold refP
      rw [hsk, if_neg hw]
end Go.Proofs.YtddoigjjgcefkaaGreatDoor

/-
  A list's text, read again. Plain.
-/
namespace Go.Proofs.YtddoigjjgcefkaaGreatDoor
open Go.RowKit
set_option maxRecDepth 100000

/-- A value's text is read as it, wherever it stands. -/
def Back (f : Nat → Rd) (s : ByteArray) (x : V) : Prop :=
  ∀ (j p : Nat) (r : List UInt8), skipP s j = p → s.data.toList.drop p = x.txt ++ r → Stop r → (x.k = 2 → refP s (p + x.txt.length) = none) → f j = (x, 0, p + x.txt.length)
theorem not_end {s : ByteArray} {p : Nat} {c : UInt8} {t : List UInt8} (h : s.data.toList.drop p = c :: t) : p < s.size := by
  have q := congrArg List.length h
  simp at q
  omega
theorem ends_yes {s : ByteArray} {j p : Nat} {t : List UInt8} (hs : skipP s j = p) (h : s.data.toList.drop p = 93 :: t) : endsR s wEnd j = (0, true, p + 1) := by
  have q := not_end h
  unfold endsR
  rw [hs, if_neg (by omega), h, if_pos (by rfl)]
  rfl
theorem ends_no {s : ByteArray} {j p : Nat} {c : UInt8} {t : List UInt8} (hs : skipP s j = p) (h : s.data.toList.drop p = c :: t) (hc : c ≠ 93) : endsR s wEnd j = (0, false, p) := by
  have q := not_end h
  have e : Lib.hasPrefix (c :: t) wEnd.data.toList = false := by
    show List.isPrefixOf [93] (c :: t) = false
    simp [List.isPrefixOf, Ne.symm hc]
  unfold endsR
  rw [hs, if_neg (by omega), h, e, if_neg (by simp)]
theorem stop_seps (l : List V) (r : List UInt8) : Stop (sepsL l ++ 93 :: r) := by
  cases l with
  | nil => exact .inr ⟨93, r, rfl, by decide⟩
  | cons z l => exact .inr ⟨32, z.txt ++ sepsL l ++ 93 :: r, by rw [sepsL]; simp, by decide⟩
theorem rdL_back {f : Nat → Rd} {s : ByteArray} : ∀ (l acc : List V) (j fuel : Nat) (T r : List UInt8), (∀ x ∈ l, Own x ∧ Back f s x) → s.data.toList.drop j = T ++ 93 :: r → (T = sepsL l ∨ T = (sepsL l).drop 1) → acc.length + l.length ≤ 300 → l.length < fuel →
    rdL f s fuel acc j = (acc ++ l, 0, j + T.length + 1)
  | _, _, _, 0, _, _, _, _, _, _, hf => by omega
  | [], acc, j, fuel + 1, T, r, _, h, hT, _, _ => by
    obtain rfl : T = [] := by rcases hT with rfl | rfl <;> rfl
    have h' : s.data.toList.drop j = 93 :: r := h
    rw [rdL_step (ends_yes (skip_here h' (by decide) (by decide)) h')]
    simp
  | x :: l, acc, j, fuel + 1, T, r, hx, h, hT, ha, hf => by
    obtain ⟨ho, hb⟩ := hx x (by simp)
    obtain ⟨c, t, ht, hc⟩ := txt_head ho
    obtain ⟨c1, c2, _, c4, _⟩ := opB_out hc
    obtain ⟨q, hq, hd, hl⟩ : ∃ q, skipP s j = q ∧ s.data.toList.drop q = x.txt ++ (sepsL l ++ 93 :: r) ∧ q + x.txt.length + (sepsL l).length = j + T.length := by
      rcases hT with rfl | rfl
      · have h' : s.data.toList.drop j = 32 :: (x.txt ++ (sepsL l ++ 93 :: r)) := by rw [h, sepsL]; simp
        refine ⟨j + 1, ?_, drop_succ_of (n := 1) (a := [32]) h' rfl, ?_⟩
        · rw [ht] at h'
          exact skip_next h' c1 c2
        · rw [sepsL]; simp; omega
      · have h' : s.data.toList.drop j = x.txt ++ (sepsL l ++ 93 :: r) := by rw [h, sepsL]; simp
        refine ⟨j, ?_, h', ?_⟩
        · rw [ht] at h'
          exact skip_here h' c1 c2
        · rw [sepsL]; simp; omega
    have hd' : s.data.toList.drop q = c :: (t ++ (sepsL l ++ 93 :: r)) := by rw [hd, ht]; rfl
    have hn : s.data.toList.drop (q + x.txt.length) = sepsL l ++ 93 :: r := drop_succ_of hd rfl
    have hfx := hb q q _ (skip_here hd' c1 c2) hd (stop_seps l r) (fun _ => noref_list (fun y hy => (hx y (by simp [hy])).1) hn)
    have ih := rdL_back l (acc ++ [x]) (q + x.txt.length) fuel (sepsL l) r (fun y hy => hx y (by simp [hy])) hn (.inl rfl) (by simp at ha ⊢; omega) (by simp at hf; omega)
    rw [rdL_step (ends_no hq hd' c4), hfx, ih]
    simp at ha
    simp only [ne_eq, not_true_eq_false, if_false, Bool.false_eq_true]
    rw [if_neg (by omega), hl]
    simp
theorem listV_back {f : Nat → Rd} {s : ByteArray} {p : Nat} {l : List V} {r : List UInt8} (h : s.data.toList.drop p = 91 :: (sepsL l).drop 1 ++ [93] ++ r) (hx : ∀ x ∈ l, Own x ∧ Back f s x) (hl : l.length ≤ 300) :
    listV f s p = (⟨5, 0, eB, l, []⟩, 0, p + (91 :: (sepsL l).drop 1 ++ [93]).length) := by
  have hd : s.data.toList.drop (p + 1) = (sepsL l).drop 1 ++ 93 :: r := drop_succ_of (n := 1) (a := [91]) (by rw [h]; simp) rfl
  unfold listV
  rw [rdL_back l [] (p + 1) 302 _ r hx hd (.inr rfl) (by simpa using hl) (by omega)]
  simp
  omega
end Go.Proofs.YtddoigjjgcefkaaGreatDoor

/-
  A dictionary's text, read again. Plain.
-/
namespace Go.Proofs.YtddoigjjgcefkaaGreatDoor
open Go.RowKit
set_option maxRecDepth 100000

theorem lt_not {a b : ByteArray} (h : Lt b a) : ¬ Lt a b ∧ a ≠ b := by
  have q := leB_not h
  have q' : ¬ (Lt a b ∨ a = b) := fun c => by rw [leB_iff.2 c] at q; exact absurd q (by decide)
  exact ⟨fun c => q' (.inl c), fun c => q' (.inr c)⟩
theorem rset_last {acc : List (ByteArray × V)} {name : ByteArray} {x : V} (hp : acc.Pairwise fun p q => Lt p.1 q.1) (h : ∀ q ∈ acc, Lt q.1 name) : rsetF name x acc false = acc ++ [(name, x)] := by
  have e := rset_new (name := name) (x := x) acc acc.length hp (fun q hq c => (lt_not (h q hq)).2 c.symm) (Nat.le_refl _) (fun i q _ hq => (lt_not (h q (List.mem_of_getElem? hq))).1) (fun q hq => by simp at hq)
  rw [e]; simp
theorem get_last {acc : List (ByteArray × V)} {name : ByteArray} (h : ∀ q ∈ acc, Lt q.1 name) : getF name acc = none :=
  getF_none fun q hq => word_ne (fun c => (lt_not (h q hq)).2 c.symm)
theorem ends2_yes {s : ByteArray} {j p : Nat} {t : List UInt8} (hs : skipP s j = p) (h : s.data.toList.drop p = 62 :: 62 :: t) : endsR s wEnd2 j = (0, true, p + 2) := by
  have q := not_end h
  unfold endsR
  rw [hs, if_neg (by omega), h, if_pos (by rfl)]
  rfl
theorem ends2_no {s : ByteArray} {j p : Nat} {c : UInt8} {t : List UInt8} (hs : skipP s j = p) (h : s.data.toList.drop p = c :: t) (hc : c ≠ 62) : endsR s wEnd2 j = (0, false, p) := by
  have q := not_end h
  have e : Lib.hasPrefix (c :: t) wEnd2.data.toList = false := by
    show List.isPrefixOf [62, 62] (c :: t) = false
    simp [List.isPrefixOf, Ne.symm hc]
  unfold endsR
  rw [hs, if_neg (by omega), h, e, if_neg (by simp)]
theorem seps_F (l : List (ByteArray × V)) (r : List UInt8) : ∃ c t, sepsF l ++ 32 :: 62 :: 62 :: r = 32 :: c :: t ∧ c ≠ 37 ∧ isBl c = false ∧ c ≠ 48 := by
  cases l with
  | nil => exact ⟨62, 62 :: r, rfl, by decide, by decide, by decide⟩
  | cons q l => exact ⟨47, q.1.data.toList.flatMap escN ++ 32 :: (q.2.txt ++ (sepsF l ++ 32 :: 62 :: 62 :: r)), by rw [sepsF, fieldT_eq, nameT]; simp, by decide, by decide, by decide⟩
theorem fd_back {f : Nat → Rd} {s : ByteArray} {k : Nat} {n : ByteArray} {x : V} {r : List UInt8} (hn : nmOk n = true) (ho : Own x) (hb : Back f s x) (h : s.data.toList.drop k = nameT n.data.toList ++ 32 :: (x.txt ++ r)) (hr : ∃ c t, r = 32 :: c :: t ∧ c ≠ 37 ∧ isBl c = false ∧ c ≠ 48) :
    rdFd f s k = ((n, x), 0, k + (nameT n.data.toList).length + 1 + x.txt.length) := by
  have h47 : s.data.toList[k]? = some 47 := by
    have q := congrArg List.head? h
    rw [List.head?_drop] at q
    rw [q]; rfl
  have d1 : s.data.toList.drop (k + 1) = n.data.toList.flatMap escN ++ 32 :: (x.txt ++ r) := drop_succ_of (n := 1) (a := [47]) h rfl
  have hw : (wordP s (k + 1)).data.toList = n.data.toList.flatMap escN := word_back d1 (names_word _) (.inr ⟨32, _, rfl, by decide⟩)
  have hz : (wordP s (k + 1)).size = (n.data.toList.flatMap escN).length := by rw [← hw]; simp
  have en : (⟨n.data.toList.toArray⟩ : ByteArray) = n := ba_ext rfl
  have hR : nameR (wordP s (k + 1)).data.toList = some n.data.toList := by
    unfold nameR
    rw [hw, nameL_back]
    show (if nmOk ⟨n.data.toList.toArray⟩ = true then some n.data.toList else none) = _
    rw [en, if_pos hn]
  have d2 : s.data.toList.drop (k + 1 + (wordP s (k + 1)).size) = 32 :: (x.txt ++ r) := by rw [hz]; exact drop_succ_of d1 rfl
  have d3 : s.data.toList.drop (k + 1 + (wordP s (k + 1)).size + 1) = x.txt ++ r := drop_succ_of (n := 1) (a := [32]) d2 rfl
  obtain ⟨c, t, ht, hc⟩ := txt_head ho
  obtain ⟨c1, c2, _⟩ := opB_out hc
  have hsk : skipP s (k + 1 + (wordP s (k + 1)).size) = k + 1 + (wordP s (k + 1)).size + 1 := by
    rw [ht] at d2
    exact skip_next d2 c1 c2
  obtain ⟨c', t', e', g1, g2, g3⟩ := hr
  have d4 : s.data.toList.drop (k + 1 + (wordP s (k + 1)).size + 1 + x.txt.length) = 32 :: c' :: t' := by rw [← e']; exact drop_succ_of d3 rfl
  have hf := hb _ _ r hsk d3 (.inr ⟨32, c' :: t', e', by decide⟩) (fun _ => noref_next d4 g1 g2 g3)
  unfold rdFd
  rw [if_pos h47, hR]
  simp only [hf, en]
  rw [hz]
  simp [nameT]; omega
theorem rdD_back {f : Nat → Rd} {s : ByteArray} : ∀ (l acc : List (ByteArray × V)) (j fuel : Nat) (r : List UInt8), (∀ q ∈ l, nmOk q.1 = true ∧ Own q.2 ∧ Back f s q.2) → ((acc ++ l).Pairwise fun p q => Lt p.1 q.1) → s.data.toList.drop j = sepsF l ++ 32 :: 62 :: 62 :: r → acc.length + l.length ≤ 300 → l.length < fuel →
    rdD f s fuel acc j = (acc ++ l, 0, j + (sepsF l).length + 3)
  | _, _, _, 0, _, _, _, _, _, hf => by omega
  | [], acc, j, fuel + 1, r, _, _, h, _, _ => by
    have h' : s.data.toList.drop j = 32 :: 62 :: 62 :: r := h
    have d : s.data.toList.drop (j + 1) = 62 :: 62 :: r := drop_succ_of (n := 1) (a := [32]) h' rfl
    rw [rdD_step (ends2_yes (skip_next h' (by decide) (by decide)) d)]
    simp [sepsF]
  | (n, x) :: l, acc, j, fuel + 1, r, hx, hp, h, ha, hf => by
    obtain ⟨hn, ho, hb⟩ := hx (n, x) (by simp)
    simp only at hn ho hb
    have h' : s.data.toList.drop j = 32 :: (nameT n.data.toList ++ 32 :: (x.txt ++ (sepsF l ++ 32 :: 62 :: 62 :: r))) := by rw [h, sepsF, fieldT_eq]; simp
    have d : s.data.toList.drop (j + 1) = nameT n.data.toList ++ 32 :: (x.txt ++ (sepsF l ++ 32 :: 62 :: 62 :: r)) := drop_succ_of (n := 1) (a := [32]) h' rfl
    have hsk : skipP s j = j + 1 := skip_next h' (by decide) (by decide)
    have hfd := fd_back hn ho hb d (seps_F l r)
    have hlt : ∀ q ∈ acc, Lt q.1 n := fun q hq => (List.pairwise_append.1 hp).2.2 q hq (n, x) (by simp)
    have dn : s.data.toList.drop (j + 1 + (nameT n.data.toList).length + 1 + x.txt.length) = sepsF l ++ 32 :: 62 :: 62 :: r := by
      have a1 : s.data.toList.drop (j + 1 + (nameT n.data.toList).length) = 32 :: (x.txt ++ (sepsF l ++ 32 :: 62 :: 62 :: r)) := drop_succ_of d rfl
      have a2 : s.data.toList.drop (j + 1 + (nameT n.data.toList).length + 1) = x.txt ++ (sepsF l ++ 32 :: 62 :: 62 :: r) := drop_succ_of (n := 1) (a := [32]) a1 rfl
      exact drop_succ_of a2 rfl
    have ih := rdD_back l (acc ++ [(n, x)]) _ fuel r (fun y hy => hx y (by simp [hy])) (by simpa using hp) dn (by simp at ha ⊢; omega) (by simp at hf; omega)
    rw [rdD_step (ends2_no hsk d (by decide)), hfd]
    simp only [ne_eq, not_true_eq_false, if_false, Bool.false_eq_true]
    simp at ha
    rw [get_last hlt, rset_last (List.pairwise_append.1 hp).1 hlt, if_neg (by simp), if_neg (by omega), ih, sepsF, fieldT_eq]
    simp
    omega
theorem dictV_back {f : Nat → Rd} {s : ByteArray} {p : Nat} {l : List (ByteArray × V)} {r : List UInt8} (h : s.data.toList.drop p = 60 :: 60 :: sepsF l ++ [32, 62, 62] ++ r) (hx : ∀ q ∈ l, nmOk q.1 = true ∧ Own q.2 ∧ Back f s q.2) (hp : l.Pairwise fun p q => Lt p.1 q.1) (hl : l.length ≤ 300) :
    dictV f s p = (⟨6, 0, eB, [], l⟩, 0, p + (60 :: 60 :: sepsF l ++ [32, 62, 62]).length) := by
  have hd : s.data.toList.drop (p + 2) = sepsF l ++ 32 :: 62 :: 62 :: r := drop_succ_of (n := 2) (a := [60, 60]) (by rw [h]; simp) rfl
  unfold dictV
  rw [rdD_back l [] (p + 2) 302 r hx (by simpa using hp) hd (by simpa using hl) (by omega)]
  simp
  omega
end Go.Proofs.YtddoigjjgcefkaaGreatDoor
