/-
  Joined: Pm, Pn, Po.
-/
import Derived.Test.YtflcibmjblioaaaGreatDoorPk

/-
  The leaves of a value's text, read again: words and numbers. Plain.
-/
namespace Go.Proofs.YtflcibmjblioaaaGreatDoor
open Go.RowKit
set_option maxRecDepth 100000

/-- The signs of a number's text. -/
def numB (c : UInt8) : Bool := (48 ≤ c.toNat && c.toNat ≤ 57) || c == 45 || c == 46
theorem numB_word : ∀ c : UInt8, numB c = true → (!isBl c && !isSg c) = true ∧ c ≠ 110 ∧ c ≠ 116 ∧ c ≠ 102 ∧ c ≠ 37 ∧ isBl c = false ∧ isSg c = false ∧ c ≠ 82 := u8_all (by decide +kernel)
theorem numB_dgt {d : Nat} (h : d < 10) : numB (dgt d) = true := by
  have e : ∀ k : Fin 10, numB (dgt k.val) = true := by decide +kernel
  exact e ⟨d, h⟩
theorem numB_digs : ∀ (f n : Nat), n < 1000 → ∀ c ∈ digs f n, numB c = true
  | 0, _, _, c, hc => by simp [digs] at hc
  | f + 1, n, hn, c, hc => by
    unfold digs at hc
    split at hc
    · simp at hc
    · rcases List.mem_cons.1 hc with rfl | hc
      · exact numB_dgt (by omega)
      · exact numB_digs f _ (by omega) c hc
theorem numB_dec (n : Nat) : ∀ c ∈ Lib.decDigits n, numB c = true := by
  induction n using Nat.strongRecOn with
  | ind n ih =>
    by_cases h : n < 10
    · intro c hc; rw [dec_one h] at hc
      obtain rfl := List.mem_singleton.1 hc
      exact numB_dgt h
    · intro c hc
      rw [dec_big h] at hc
      rcases List.mem_append.1 hc with hc | hc
      · exact ih (n / 10) (by omega) c hc
      · obtain rfl := List.mem_singleton.1 hc
        exact numB_dgt (by omega)
theorem numB_fix (n : Int) : ∀ c ∈ fixTxt n, numB c = true := by
  intro c hc
  unfold fixTxt at hc
  rcases List.mem_append.1 hc with hc | hc
  · rcases List.mem_append.1 hc with hc | hc
    · split at hc
      · obtain rfl := List.mem_singleton.1 hc; decide
      · simp at hc
    · exact numB_dec _ c hc
  · unfold frac at hc
    split at hc
    · simp at hc
    · rcases List.mem_cons.1 hc with rfl | hc
      · decide
      · exact numB_digs 3 _ (by omega) c hc
theorem fix_ne (n : Int) : fixTxt n ≠ [] := by
  unfold fixTxt
  intro h
  have := (List.append_eq_nil_iff.1 (List.append_eq_nil_iff.1 h).1).2
  exact dec_ne _ this
theorem wordB_back {s : ByteArray} {p : Nat} {W r : List UInt8} (h : s.data.toList.drop p = W ++ r) (hW : ∀ c ∈ W, (!isBl c && !isSg c) = true) (hr : Stop r) : wordP s p = ⟨W.toArray⟩ :=
  ba_ext (by rw [word_back h hW hr])
theorem word_num {W : List UInt8} (hW : ∀ c ∈ W, numB c = true) (hne : W ≠ []) : (⟨W.toArray⟩ : ByteArray) ≠ wNull ∧ (⟨W.toArray⟩ : ByteArray) ≠ wTrue ∧ (⟨W.toArray⟩ : ByteArray) ≠ wFalse := by
  match W, hW, hne with
  | c :: l, hW, _ =>
    obtain ⟨_, h1, h2, h3, _⟩ := numB_word c (hW c (by simp))
    refine ⟨fun q => h1 ?_, fun q => h2 ?_, fun q => h3 ?_⟩ <;>
      (have := congrArg (fun b : ByteArray => b.data.toList.head?) q; simpa [wNull, wTrue, wFalse] using this)
theorem null_back {s : ByteArray} {p : Nat} {r : List UInt8} (h : s.data.toList.drop p = [110, 117, 108, 108] ++ r) (hr : Stop r) : otherV s p = (V0 0 0 eB, 0, p + 4) := by
  have hw := wordB_back h (by decide) hr
  have hk : otherK s p = (0, 0, 0, p + 4) := by
    unfold otherK
    simp only [hw]
    exact if_pos rfl
  unfold otherV
  rw [hk]
theorem true_back {s : ByteArray} {p : Nat} {r : List UInt8} (h : s.data.toList.drop p = [116, 114, 117, 101] ++ r) (hr : Stop r) : otherV s p = (V0 1 1 eB, 0, p + 4) := by
  have hw := wordB_back h (by decide) hr
  have hk : otherK s p = (1, 1, 0, p + 4) := by
    unfold otherK
    simp only [hw]
    exact (if_neg (by decide)).trans (if_pos rfl)
  unfold otherV
  rw [hk]
theorem false_back {s : ByteArray} {p : Nat} {r : List UInt8} (h : s.data.toList.drop p = [102, 97, 108, 115, 101] ++ r) (hr : Stop r) : otherV s p = (V0 1 0 eB, 0, p + 5) := by
  have hw := wordB_back h (by decide) hr
  have hk : otherK s p = (1, 0, 0, p + 5) := by
    unfold otherK
    simp only [hw]
    exact (if_neg (by decide)).trans ((if_neg (by decide)).trans (if_pos rfl))
  unfold otherV
  rw [hk]
/-- A number's text, where no reference stands. -/
theorem num_back {s : ByteArray} {p : Nat} {n : Int} {r : List UInt8} (hn : okF n = true) (h : s.data.toList.drop p = fixTxt n ++ r) (hr : Stop r) (hf : refP s (p + (fixTxt n).length) = none) : otherV s p = (V0 2 n eB, 0, p + (fixTxt n).length) := by
  have hw := wordB_back h (fun c hc => (numB_word c (numB_fix n c hc)).1) hr
  obtain ⟨h1, h2, h3⟩ := word_num (numB_fix n) (fix_ne n)
  have hz : (⟨(fixTxt n).toArray⟩ : ByteArray).size = (fixTxt n).length := by simp [ByteArray.size]
  have hk : otherK s p = (2, n, 0, p + (fixTxt n).length) := by
    unfold otherK
    simp only [hw, hz, hf]
    rw [if_neg h1, if_neg h2, if_neg h3, if_neg (by simp), (read_text n hn).1, (read_text n hn).2]
  unfold otherV
  rw [hk]
/-- A reference's text. -/
theorem ref_back {s : ByteArray} {p n : Nat} {r : List UInt8} (h1n : 1 ≤ n) (hn : n ≤ 60) (h : s.data.toList.drop p = Lib.decDigits n ++ 32 :: 48 :: 32 :: 82 :: r) (hr : Stop r) : otherV s p = (V0 7 n eB, 0, p + (Lib.decDigits n).length + 4) := by
  have hst : Stop (32 :: 48 :: 32 :: 82 :: r) := .inr ⟨32, _, rfl, by decide⟩
  have hw := wordB_back h (fun c hc => (numB_word c (numB_dec n c hc)).1) hst
  obtain ⟨h1, h2, h3⟩ := word_num (numB_dec n) (dec_ne n)
  have hz : (⟨(Lib.decDigits n).toArray⟩ : ByteArray).size = (Lib.decDigits n).length := by simp [ByteArray.size]
  have d0 : s.data.toList.drop (p + (Lib.decDigits n).length) = 32 :: 48 :: 32 :: 82 :: r := drop_succ_of h rfl
  obtain ⟨j, hj⟩ : ∃ j, j = p + (Lib.decDigits n).length := ⟨_, rfl⟩
  rw [← hj] at d0
  have d1 : s.data.toList.drop (j + 1) = 48 :: 32 :: 82 :: r := drop_succ_of (n := 1) (a := [32]) d0 rfl
  have d2 : s.data.toList.drop (j + 1 + 1) = 32 :: 82 :: r := drop_succ_of (n := 1) (a := [48]) d1 rfl
  have d3 : s.data.toList.drop (j + 1 + 1 + 1) = 82 :: r := drop_succ_of (n := 1) (a := [32]) d2 rfl
  have hf : refP s j = some (j + 4) := by
    unfold refP
    have e0 : wordP s (j + 1) = w0 := wordB_back (W := [48]) d1 (by decide) (.inr ⟨32, _, rfl, by decide⟩)
    have eR : wordP s (j + 1 + 1 + 1) = wR := wordB_back (W := [82]) d3 (by decide) hr
    rw [skip_next d0 (by decide) (by decide), e0, if_pos rfl, skip_next d2 (by decide) (by decide), eR, if_pos rfl]
  have hk : otherK s p = (7, (n : Int), 0, p + (Lib.decDigits n).length + 4) := by
    unfold otherK
    simp only [hw, hz, ← hj, hf]
    rw [if_neg h1, if_neg h2, if_neg h3, if_pos ⟨by rw [obj_dec h1n hn]; omega, rfl⟩, obj_dec h1n hn]
    rfl
  unfold otherV
  rw [hk]
end Go.Proofs.YtflcibmjblioaaaGreatDoor

/-
  A value's text: its first sign, and where a number has no reference behind it. Plain.
-/
namespace Go.Proofs.YtflcibmjblioaaaGreatDoor
open Go.RowKit
set_option maxRecDepth 100000

/-- A sign that may open a value's text. -/
def opB (c : UInt8) : Bool := c != 37 && !isBl c && c != 82 && c != 93 && c != 62
theorem opB_out {c : UInt8} (h : opB c = true) : c ≠ 37 ∧ isBl c = false ∧ c ≠ 82 ∧ c ≠ 93 ∧ c ≠ 62 := by
  unfold opB at h
  simp only [Bool.and_eq_true, bne_iff_ne, ne_eq, Bool.not_eq_true'] at h
  exact ⟨h.1.1.1.1, h.1.1.1.2, h.1.1.2, h.1.2, h.2⟩
theorem opB_num : ∀ c : UInt8, numB c = true → opB c = true := u8_all (by decide +kernel)
theorem head_num {W : List UInt8} (hW : ∀ c ∈ W, numB c = true) (hne : W ≠ []) : ∃ c t, W = c :: t ∧ opB c = true := by
  match W, hW, hne with
  | c :: l, hW, _ => exact ⟨c, l, rfl, opB_num c (hW c (by simp))⟩
theorem txt_head {v : V} (h : Own v) : ∃ c t, v.txt = c :: t ∧ opB c = true := by
  rw [txt_eq]
  rcases h with ⟨hk, _⟩ | ⟨hk, _⟩ | ⟨hk, hn, _⟩ | ⟨hk, _⟩ | ⟨hk, _⟩ | ⟨hk, _⟩ | ⟨hk, _⟩ | ⟨hk, h1, h2, _⟩ <;> rw [hk]
  · exact ⟨110, _, rfl, by decide⟩
  · rw [if_pos rfl]; split
    · exact ⟨116, _, rfl, by decide⟩
    · exact ⟨102, _, rfl, by decide⟩
  · rw [if_neg (by decide), if_pos rfl, txtB_ok hn]
    exact head_num (numB_fix v.n) (fix_ne v.n)
  · exact ⟨40, _, rfl, by decide⟩
  · exact ⟨47, _, rfl, by decide⟩
  · exact ⟨91, _, rfl, by decide⟩
  · exact ⟨60, _, rfl, by decide⟩
  · rw [if_neg (by decide), if_neg (by decide), if_neg (by decide), if_neg (by decide), if_neg (by decide), if_neg (by decide), if_pos rfl]
    obtain ⟨c, t, e, hc⟩ := head_num (numB_dec (v.n.toNat % 100)) (dec_ne _)
    exact ⟨c, t ++ [32, 48, 32, 82], by rw [e]; rfl, hc⟩
/-- A word of one sign begins with it. -/
theorem word_first {s : ByteArray} {p : Nat} {c x : UInt8} {t : List UInt8} (h : s.data.toList.drop p = c :: t) (hw : wordP s p = ⟨#[x]⟩) : c = x := by
  have e : (wordP s p).data.toList = (c :: t).take (wordL (c :: t)) := by
    unfold wordP
    rw [h, ByteArray.data_extract, Array.toList_extract]
    show List.extract _ _ _ = _
    rw [List.extract_eq_take_drop, h]
    simp
  rw [hw] at e
  have e' : [x] = (c :: t).take (wordL (c :: t)) := e
  cases hq : wordL (c :: t) with
  | zero => rw [hq] at e'; simp at e'
  | succ k => rw [hq, List.take_succ_cons] at e'; injection e' with e' _; exact e'.symm
theorem noref_sign {s : ByteArray} {e : Nat} {c : UInt8} {t : List UInt8} (h : s.data.toList.drop e = c :: t) (h1 : c ≠ 37) (h2 : isBl c = false) (h3 : c ≠ 48) : refP s e = none := by
  unfold refP
  rw [skip_here h h1 h2, if_neg (fun (q : wordP s e = w0) => h3 (word_first h q))]
theorem noref_next {s : ByteArray} {e : Nat} {c : UInt8} {t : List UInt8} (h : s.data.toList.drop e = 32 :: c :: t) (h1 : c ≠ 37) (h2 : isBl c = false) (h3 : c ≠ 48) : refP s e = none := by
  have d : s.data.toList.drop (e + 1) = c :: t := drop_succ_of (n := 1) (a := [32]) h rfl
  unfold refP
  rw [skip_next h h1 h2, if_neg (fun (q : wordP s (e + 1) = w0) => h3 (word_first d q))]
theorem dec_pos {n : Int} (h1 : 1 ≤ n) (h2 : n ≤ 60) : Lib.decDigits (n.toNat % 100) ≠ [48] := by
  intro h
  have q := dec_val (n.toNat % 100)
  rw [h] at q
  have e : valD 0 [48] = 0 := rfl
  rw [e] at q
  omega
theorem ref_word {s : ByteArray} {p m : Nat} {r : List UInt8} (h : s.data.toList.drop p = Lib.decDigits m ++ [32, 48, 32, 82] ++ r) : (wordP s p).data.toList = Lib.decDigits m :=
  word_back (r := 32 :: ([48, 32, 82] ++ r)) (by rw [h]; simp) (fun c hc => (numB_word c (numB_dec _ c hc)).1) (.inr ⟨32, _, rfl, by decide⟩)
theorem txt_ref {v : V} (hk : v.k = 7) : v.txt = Lib.decDigits (v.n.toNat % 100) ++ [32, 48, 32, 82] := by
  rw [txt_eq, hk, if_neg (by decide), if_neg (by decide), if_neg (by decide), if_neg (by decide), if_neg (by decide), if_neg (by decide), if_pos rfl]
theorem txt_num {v : V} (hk : v.k = 2) (hn : okF v.n = true) : v.txt = fixTxt v.n := by
  rw [txt_eq, hk, if_neg (by decide), if_pos rfl, txtB_ok hn]
/-- A value's text that begins with a nought and is one word of one sign is just that. -/
theorem txt_nought {y : V} (hy : Own y) {s : ByteArray} {p : Nat} {r : List UInt8} (d : s.data.toList.drop p = y.txt ++ r) (hst : Stop r) (hw : wordP s p = w0) : y.txt = [48] := by
  have hw' : (wordP s p).data.toList = [48] := by rw [hw]; rfl
  obtain ⟨c, t, ht, _⟩ := txt_head hy
  have c48 : c = 48 := word_first (by rw [d, ht]; rfl) hw
  subst c48
  rcases hy with ⟨hk, _⟩ | ⟨hk, _⟩ | ⟨hk, hn, _⟩ | ⟨hk, _⟩ | ⟨hk, _⟩ | ⟨hk, _⟩ | ⟨hk, _⟩ | ⟨hk, h1, h2, _⟩
  · rw [txt_eq, hk] at ht; injection ht with q _; exact absurd q (by decide)
  · rw [txt_eq, hk, if_pos rfl] at ht
    split at ht
    · injection ht with q _; exact absurd q (by decide)
    · injection ht with q _; exact absurd q (by decide)
  · rw [txt_num hk hn] at d ⊢
    rw [word_back d (fun c hc => (numB_word c (numB_fix _ c hc)).1) hst] at hw'
    exact hw'
  · rw [txt_eq, hk] at ht; injection ht with q _; exact absurd q (by decide)
  · rw [txt_eq, hk] at ht; injection ht with q _; exact absurd q (by decide)
  · rw [txt_eq, hk] at ht; injection ht with q _; exact absurd q (by decide)
  · rw [txt_eq, hk] at ht; injection ht with q _; exact absurd q (by decide)
  · rw [txt_ref hk] at d
    rw [ref_word d] at hw'
    exact absurd hw' (dec_pos h1 h2)
/-- What stands behind a number in a list is no reference's end. -/
theorem noref_list {s : ByteArray} {e : Nat} {l : List V} {r : List UInt8} (hl : ∀ x ∈ l, Own x) (h : s.data.toList.drop e = sepsL l ++ 93 :: r) : refP s e = none := by
  match l, hl, h with
  | [], _, h => exact noref_sign (c := 93) (t := r) h (by decide) (by decide) (by decide)
  | y :: l, hl, h =>
    have hy := hl y (by simp)
    have h' : s.data.toList.drop e = 32 :: (y.txt ++ (sepsL l ++ 93 :: r)) := by rw [h, sepsL]; simp
    have d : s.data.toList.drop (e + 1) = y.txt ++ (sepsL l ++ 93 :: r) := drop_succ_of (n := 1) (a := [32]) h' rfl
    obtain ⟨c, t, ht, hc⟩ := txt_head hy
    obtain ⟨c1, c2, c3, c4, c5⟩ := opB_out hc
    have hsk : skipP s e = e + 1 := by
      rw [ht] at h'
      exact skip_next h' c1 c2
    by_cases hw : wordP s (e + 1) = w0
    · have hst : Stop (sepsL l ++ 93 :: r) := by
        cases l with
        | nil => exact .inr ⟨93, r, rfl, by decide⟩
        | cons z l => exact .inr ⟨32, z.txt ++ sepsL l ++ 93 :: r, by rw [sepsL]; simp, by decide⟩
      have key : y.txt = [48] := txt_nought hy d hst hw
      have d2 : s.data.toList.drop (e + 1 + 1) = sepsL l ++ 93 :: r := drop_succ_of (n := 1) (a := [48]) (by rw [d, key]) rfl
      have hR : wordP s (skipP s (e + 1 + 1)) ≠ wR := by
        cases l with
        | nil =>
          have d3 : s.data.toList.drop (e + 1 + 1) = 93 :: r := d2
          rw [skip_here d3 (by decide) (by decide)]
          exact fun q => absurd (word_first d3 q) (by decide)
        | cons z l =>
          obtain ⟨c', t', ht', hc'⟩ := txt_head (hl z (by simp))
          obtain ⟨e1, e2, e3, _⟩ := opB_out hc'
          have d3 : s.data.toList.drop (e + 1 + 1) = 32 :: c' :: (t' ++ (sepsL l ++ 93 :: r)) := by rw [d2, sepsL, ht']; simp
          rw [skip_next d3 e1 e2]
          exact fun q => e3 (word_first (drop_succ_of (n := 1) (a := [32]) d3 rfl) q)
      unfold refP
      rw [hsk, if_pos hw, if_neg hR]
    · unfold refP
      rw [hsk, if_neg hw]
end Go.Proofs.YtflcibmjblioaaaGreatDoor

/-
  A list's text, read again. Plain.
-/
namespace Go.Proofs.YtflcibmjblioaaaGreatDoor
open Go.RowKit
set_option maxRecDepth 100000

/-- A value's text is read as it, wherever it stands. -/
def Back (f : Nat → Rd) (s : ByteArray) (x : V) : Prop :=
  ∀ (j p : Nat) (r : List UInt8), skipP s j = p → s.data.toList.drop p = x.txt ++ r → Stop r → (x.k = 2 → refP s (p + x.txt.length) = none) → f j = (x, 0, p + x.txt.length)
theorem not_end {s : ByteArray} {p : Nat} {c : UInt8} {t : List UInt8} (h : s.data.toList.drop p = c :: t) : p < s.size := by
  have q := congrArg List.length h
  simp at q
  omega
theorem ends_yes {s : ByteArray} {j p : Nat} {t : List UInt8} (hs : skipP s j = p) (h : s.data.toList.drop p = 93 :: t) : endsR s wEnd j = (0, true, p + 1) := by
  have q := not_end h
  unfold endsR
  rw [hs, if_neg (by omega), h, if_pos (by rfl)]
  rfl
theorem ends_no {s : ByteArray} {j p : Nat} {c : UInt8} {t : List UInt8} (hs : skipP s j = p) (h : s.data.toList.drop p = c :: t) (hc : c ≠ 93) : endsR s wEnd j = (0, false, p) := by
  have q := not_end h
  have e : Lib.hasPrefix (c :: t) wEnd.data.toList = false := by
    show List.isPrefixOf [93] (c :: t) = false
    simp [List.isPrefixOf, Ne.symm hc]
  unfold endsR
  rw [hs, if_neg (by omega), h, e, if_neg (by simp)]
theorem stop_seps (l : List V) (r : List UInt8) : Stop (sepsL l ++ 93 :: r) := by
  cases l with
  | nil => exact .inr ⟨93, r, rfl, by decide⟩
  | cons z l => exact .inr ⟨32, z.txt ++ sepsL l ++ 93 :: r, by rw [sepsL]; simp, by decide⟩
theorem rdL_back {f : Nat → Rd} {s : ByteArray} : ∀ (l acc : List V) (j fuel : Nat) (T r : List UInt8), (∀ x ∈ l, Own x ∧ Back f s x) → s.data.toList.drop j = T ++ 93 :: r → (T = sepsL l ∨ T = (sepsL l).drop 1) → acc.length + l.length ≤ 300 → l.length < fuel →
    rdL f s fuel acc j = (acc ++ l, 0, j + T.length + 1)
  | _, _, _, 0, _, _, _, _, _, _, hf => by omega
  | [], acc, j, fuel + 1, T, r, _, h, hT, _, _ => by
    obtain rfl : T = [] := by rcases hT with rfl | rfl <;> rfl
    have h' : s.data.toList.drop j = 93 :: r := h
    rw [rdL_step (ends_yes (skip_here h' (by decide) (by decide)) h')]
    simp
  | x :: l, acc, j, fuel + 1, T, r, hx, h, hT, ha, hf => by
    obtain ⟨ho, hb⟩ := hx x (by simp)
    obtain ⟨c, t, ht, hc⟩ := txt_head ho
    obtain ⟨c1, c2, _, c4, _⟩ := opB_out hc
    obtain ⟨q, hq, hd, hl⟩ : ∃ q, skipP s j = q ∧ s.data.toList.drop q = x.txt ++ (sepsL l ++ 93 :: r) ∧ q + x.txt.length + (sepsL l).length = j + T.length := by
      rcases hT with rfl | rfl
      · have h' : s.data.toList.drop j = 32 :: (x.txt ++ (sepsL l ++ 93 :: r)) := by rw [h, sepsL]; simp
        refine ⟨j + 1, ?_, drop_succ_of (n := 1) (a := [32]) h' rfl, ?_⟩
        · rw [ht] at h'
          exact skip_next h' c1 c2
        · rw [sepsL]; simp; omega
      · have h' : s.data.toList.drop j = x.txt ++ (sepsL l ++ 93 :: r) := by rw [h, sepsL]; simp
        refine ⟨j, ?_, h', ?_⟩
        · rw [ht] at h'
          exact skip_here h' c1 c2
        · rw [sepsL]; simp; omega
    have hd' : s.data.toList.drop q = c :: (t ++ (sepsL l ++ 93 :: r)) := by rw [hd, ht]; rfl
    have hn : s.data.toList.drop (q + x.txt.length) = sepsL l ++ 93 :: r := drop_succ_of hd rfl
    have hfx := hb q q _ (skip_here hd' c1 c2) hd (stop_seps l r) (fun _ => noref_list (fun y hy => (hx y (by simp [hy])).1) hn)
    have ih := rdL_back l (acc ++ [x]) (q + x.txt.length) fuel (sepsL l) r (fun y hy => hx y (by simp [hy])) hn (.inl rfl) (by simp at ha ⊢; omega) (by simp at hf; omega)
    rw [rdL_step (ends_no hq hd' c4), hfx, ih]
    simp at ha
    simp only [ne_eq, not_true_eq_false, if_false, Bool.false_eq_true]
    rw [if_neg (by omega), hl]
    simp
theorem listV_back {f : Nat → Rd} {s : ByteArray} {p : Nat} {l : List V} {r : List UInt8} (h : s.data.toList.drop p = 91 :: (sepsL l).drop 1 ++ [93] ++ r) (hx : ∀ x ∈ l, Own x ∧ Back f s x) (hl : l.length ≤ 300) :
    listV f s p = (⟨5, 0, eB, l, []⟩, 0, p + (91 :: (sepsL l).drop 1 ++ [93]).length) := by
  have hd : s.data.toList.drop (p + 1) = (sepsL l).drop 1 ++ 93 :: r := drop_succ_of (n := 1) (a := [91]) (by rw [h]; simp) rfl
  unfold listV
  rw [rdL_back l [] (p + 1) 302 _ r hx hd (.inr rfl) (by simpa using hl) (by omega)]
  simp
  omega
end Go.Proofs.YtflcibmjblioaaaGreatDoor
