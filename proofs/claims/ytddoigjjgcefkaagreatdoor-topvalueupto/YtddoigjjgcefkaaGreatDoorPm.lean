/-
  Joined: Vo, Pk, Pm.
-/
import Derived.Test.YtddoigjjgcefkaaGreatDoorPj
import Derived.Test.YtddoigjjgcefkaaGreatDoorVd1

/-
  A value's text; the document's own.
-/
namespace Go.Proofs.YtddoigjjgcefkaaGreatDoor
open Go.RowKit
set_option maxRecDepth 100000

mutual
/-- The text of a value that may be. -/
def V.txt : V → List UInt8
  | ⟨k, n, s, l, f⟩ =>
    if k = 1 then (if n = 1 then [116, 114, 117, 101] else [102, 97, 108, 115, 101])
    else if k = 2 then (txtB n).data.toList
    else if k = 3 then strT s.data.toList
    else if k = 4 then nameT s.data.toList
    else if k = 5 then 91 :: (sepsL l).drop 1 ++ [93]
    else if k = 6 then 60 :: 60 :: sepsF f ++ [32, 62, 62]
    else if k = 7 then Lib.decDigits (n.toNat % 100) ++ [32, 48, 32, 82]
    else [110, 117, 108, 108]
def sepsL : List V → List UInt8
  | [] => []
  | x :: l => 32 :: V.txt x ++ sepsL l
def sepsF : List (ByteArray × V) → List UInt8
  | [] => []
  | q :: l => 32 :: fieldT q ++ sepsF l
def fieldT : ByteArray × V → List UInt8
  | (n, x) => nameT n.data.toList ++ 32 :: V.txt x
end
theorem txt_eq (v : V) : v.txt = (if v.k = 1 then (if v.n = 1 then [116, 114, 117, 101] else [102, 97, 108, 115, 101])
    else if v.k = 2 then (txtB v.n).data.toList
    else if v.k = 3 then strT v.s.data.toList
    else if v.k = 4 then nameT v.s.data.toList
    else if v.k = 5 then 91 :: (sepsL v.l).drop 1 ++ [93]
    else if v.k = 6 then 60 :: 60 :: sepsF v.f ++ [32, 62, 62]
    else if v.k = 7 then Lib.decDigits (v.n.toNat % 100) ++ [32, 48, 32, 82]
    else [110, 117, 108, 108]) := by cases v; rw [V.txt]
theorem fieldT_eq (q : ByteArray × V) : fieldT q = nameT q.1.data.toList ++ 32 :: q.2.txt := by cases q; rw [fieldT]
theorem sepsL_take : ∀ (l : List V) (j : Nat) (x : V), l[j]? = some x → sepsL (l.take (j + 1)) = sepsL (l.take j) ++ 32 :: x.txt
  | [], j, x, h => by simp at h
  | y :: l, 0, x, h => by simp at h; subst h; simp [sepsL]
  | y :: l, j + 1, x, h => by
    have := sepsL_take l j x (by simpa using h)
    rw [List.take_succ_cons, List.take_succ_cons, sepsL, sepsL, this, List.append_assoc]
theorem sepsF_take : ∀ (l : List (ByteArray × V)) (j : Nat) (q : ByteArray × V), l[j]? = some q → sepsF (l.take (j + 1)) = sepsF (l.take j) ++ 32 :: fieldT q
  | [], j, x, h => by simp at h
  | y :: l, 0, x, h => by simp at h; subst h; simp [sepsF]
  | y :: l, j + 1, x, h => by
    have := sepsF_take l j x (by simpa using h)
    rw [List.take_succ_cons, List.take_succ_cons, sepsF, sepsF, this, List.append_assoc]
theorem drop_seps {l : List V} {j : Nat} {x : V} (h : l[j]? = some x) : (sepsL (l.take (j + 1))).drop 1 = if j = 0 then x.txt else (sepsL (l.take j)).drop 1 ++ 32 :: x.txt := by
  rw [sepsL_take l j x h]
  by_cases hj : j = 0
  · subst hj; simp [sepsL]
  · rw [if_neg hj, List.drop_append_of_le_length]
    cases l with
    | nil => simp at h
    | cons y l =>
      obtain ⟨i, rfl⟩ : ∃ i, j = i + 1 := ⟨j - 1, by omega⟩
      rw [List.take_succ_cons, sepsL]; simp
theorem dec_small (n : Nat) (h : n < 100) : (Lib.decDigits n).length ≤ 2 := by
  by_cases h1 : n < 10
  · rw [Lib.decDigits_one h1]; simp
  · rw [dec_big h1, Lib.decDigits_one (by omega)]; simp
theorem sepsL_len : ∀ (l : List V), (∀ x ∈ l, x.txt.length + 1 ≤ 50 * x.bulk) → (sepsL l).length ≤ 50 * bulkL l
  | [], _ => by simp [sepsL]
  | y :: l, h => by
    have := sepsL_len l (fun x hx => h x (by simp [hx]))
    have := h y (by simp)
    rw [sepsL, bulkL]; simp; omega
theorem nameT_len (s : ByteArray) : (nameT s.data.toList).length ≤ 1 + 3 * s.size := by
  have := flatN_len s.data.toList
  have e : s.data.toList.length = s.size := by simp
  unfold nameT; simp at *; omega
theorem strT_len (s : ByteArray) : (strT s.data.toList).length ≤ 2 + 4 * s.size := by
  have := flat_len s.data.toList
  have e : s.data.toList.length = s.size := by simp
  unfold strT; simp at *; omega
theorem sepsF_len : ∀ (l : List (ByteArray × V)), (∀ q ∈ l, q.2.txt.length + 1 ≤ 50 * q.2.bulk) → (sepsF l).length ≤ 50 * bulkF l
  | [], _ => by simp [sepsF]
  | y :: l, h => by
    have := sepsF_len l (fun x hx => h x (by simp [hx]))
    have := h y (by simp)
    have := nameT_len y.1
    rw [sepsF, bulkF_cons, fieldT_eq]; simp; omega
theorem txtB_len (n : Int) : (txtB n).data.toList.length ≤ 40 := by
  cases h : okF n
  · rw [txtB_bad h]; simp
  · rw [txtB_ok h]; have := fixTxt_len n h; simpa using this
theorem txt_len (v : V) : v.txt.length + 1 ≤ 50 * v.bulk := by
  induction v using V.ind with
  | h v hl hf =>
    have a := sepsL_len v.l hl
    have b := sepsF_len v.f hf
    have c := nameT_len v.s
    have d := strT_len v.s
    have e := txtB_len v.n
    have g := dec_small (v.n.toNat % 100) (by omega)
    rw [txt_eq, bulk_eq']
    split
    · split <;> simp <;> omega
    split
    · omega
    split
    · omega
    split
    · omega
    split
    · simp; omega
    split
    · simp; omega
    split
    · simp; omega
    · simp; omega
theorem add_huge {x y z : List UInt8} (hx : x.length ≤ 8000000) (hy : y.length ≤ 8000000) (hz : z = x ++ y) (w : World) : (Op.stringOp .add ⟨x.toArray⟩ ⟨y.toArray⟩).run Tryz.prog w = .ok (.string ⟨z.toArray⟩) w := by
  rw [hz]; exact run_string_add_lists w x y (by omega) (by omega)
theorem nmOk_sizeV {s : ByteArray} (h : nmOk s = true) : s.size ≤ 200 := by
  by_cases hs : s.size ≤ 200
  · exact hs
  · rw [nmOk_len (by omega)] at h; cases h
theorem own_s {v : V} (h : Own v) : v.s.size ≤ 200 := by
  rcases h with h | h | h | h | h | h | h | h
  · omega
  · omega
  · omega
  · omega
  · exact nmOk_sizeV h.2.2.1
  · omega
  · omega
  · omega
theorem bulkL_shp : ∀ (l : List V), (∀ x ∈ l, x.bulk ≤ 402 * x.cnt) → bulkL l ≤ 402 * cntL l
  | [], _ => by simp [bulkL]
  | y :: l, h => by
    have := bulkL_shp l (fun x hx => h x (by simp [hx]))
    have := h y (by simp)
    rw [bulkL, cntL]; omega
/-- What may be is no more than its parts allow. -/
theorem bulk_shp (v : V) : v.Shp → v.bulk + 201 ≤ 402 * v.cnt := by
  induction v using V.ind with
  | h v hl hf =>
    intro hs
    have ho := (shp_eq v).1 hs
    have e1 := own_s ho.1
    have hL := (shpL_iff v.l).1 ho.2.1
    have hF := (shpF_iff v.f).1 ho.2.2
    have hN := own_names ho.1
    have a := bulkL_shp v.l (fun x hx => by
      obtain ⟨i, hi⟩ := List.getElem?_of_mem hx
      have := hl x hx (hL i x hi); omega)
    have b : ∀ (l : List (ByteArray × V)), (∀ q ∈ l, q.1.size ≤ 200 ∧ q.2.bulk + 201 ≤ 402 * q.2.cnt) → bulkF l ≤ 402 * cntF l := fun l => by
      induction l with
      | nil => intro _; simp [bulkF]
      | cons y l ih =>
        intro h
        have := ih (fun x hx => h x (by simp [hx]))
        have := h y (by simp)
        rw [bulkF_cons, cntF_cons]; omega
    have b' := b v.f (fun q hq => by
      obtain ⟨i, hi⟩ := List.getElem?_of_mem hq
      exact ⟨nmOk_sizeV (hN i q hi).1, hf q hq (hF i q hi)⟩)
    rw [bulk_eq', cnt_eq]; omega

end Go.Proofs.YtddoigjjgcefkaaGreatDoor

/-
  The leaves of a value's text, read again: names and strings at a place of a text. Plain.
-/
namespace Go.Proofs.YtddoigjjgcefkaaGreatDoor
open Go.RowKit
set_option maxRecDepth 100000

/-- What may stand behind a word. -/
def Stop (r : List UInt8) : Prop := r = [] ∨ ∃ c t, r = c :: t ∧ (!isBl c && !isSg c) = false
theorem skip_here {s : ByteArray} {p : Nat} {c : UInt8} {r : List UInt8} (h : s.data.toList.drop p = c :: r) (h1 : c ≠ 37) (h2 : isBl c = false) : skipP s p = p := by
  unfold skipP
  rw [h]
  unfold skipL
  have e : (c == 37) = false := by simpa using h1
  rw [e, h2]
  rfl
theorem drop_succ_of {s : ByteArray} {p n : Nat} {a b : List UInt8} (h : s.data.toList.drop p = a ++ b) (hn : a.length = n) : s.data.toList.drop (p + n) = b := by
  rw [← List.drop_drop, h, ← hn, List.drop_left]
theorem skip_next {s : ByteArray} {p : Nat} {c : UInt8} {r : List UInt8} (h : s.data.toList.drop p = 32 :: c :: r) (h1 : c ≠ 37) (h2 : isBl c = false) : skipP s p = p + 1 := by
  have q : skipP s (p + 1) = p + 1 := skip_here (drop_succ_of (n := 1) (a := [32]) (b := c :: r) h rfl) h1 h2
  unfold skipP at q ⊢
  rw [h]
  have e : s.data.toList.drop (p + 1) = c :: r := drop_succ_of (a := [32]) h rfl
  rw [e] at q
  have e2 : skipL (32 :: c :: r) false = skipL (c :: r) false + 1 := by
    conv => lhs; unfold skipL
    rw [if_neg (by decide)]; rfl
  omega
theorem word_back {s : ByteArray} {p : Nat} {W r : List UInt8} (h : s.data.toList.drop p = W ++ r) (hW : ∀ c ∈ W, (!isBl c && !isSg c) = true) (hr : Stop r) : (wordP s p).data.toList = W := by
  have e : wordL (W ++ r) = W.length := by
    unfold wordL
    rw [List.takeWhile_append_of_pos hW]
    rcases hr with rfl | ⟨c, t, rfl, hc⟩
    · simp
    · rw [List.takeWhile_cons_of_neg (by rw [hc]; simp)]; simp
  unfold wordP
  rw [h, e]
  rw [ByteArray.data_extract, Array.toList_extract]
  show List.extract _ _ _ = _
  rw [List.extract_eq_take_drop, h]
  simp
theorem escN_word : ∀ c d : UInt8, d ∈ escN c → (!isBl d && !isSg d) = true := by
  intro c
  revert c
  exact u8_all (by decide +kernel)
theorem names_word (l : List UInt8) : ∀ d ∈ l.flatMap escN, (!isBl d && !isSg d) = true := fun d hd => by
  obtain ⟨c, _, hc⟩ := List.mem_flatMap.1 hd
  exact escN_word c d hc
theorem nameV_back {s : ByteArray} {p : Nat} {l r : List UInt8} (h : s.data.toList.drop p = nameT l ++ r) (hr : Stop r) (hn : nmOk ⟨l.toArray⟩ = true) : nameV s p = (V0 4 0 ⟨l.toArray⟩, 0, p + (nameT l).length) := by
  have hw : (wordP s (p + 1)).data.toList = l.flatMap escN := word_back (drop_succ_of (n := 1) (a := [47]) (b := l.flatMap escN ++ r) h rfl) (names_word l) hr
  have hz : (wordP s (p + 1)).size = (l.flatMap escN).length := by rw [← hw]; simp
  have hR : nameR (wordP s (p + 1)).data.toList = some l := by
    unfold nameR
    rw [hw, nameL_back]
    show (if nmOk ⟨l.toArray⟩ = true then some l else none) = _
    rw [if_pos hn]
  unfold nameV
  rw [hR, hz]
  simp [nameT]; omega
theorem litV_back {s : ByteArray} {p : Nat} {l r : List UInt8} (h : s.data.toList.drop p = strT l ++ r) (hl : l.length ≤ 200) : litV s p = (V0 3 0 ⟨l.toArray⟩, 0, p + (strT l).length) := by
  have hd : s.data.toList.drop (p + 1) = l.flatMap escS ++ 41 :: r := drop_succ_of (a := [40]) (by rw [h]; simp [strT]) rfl
  have e := litT_back l r [] (p + 1)
  unfold litV
  rw [hd, e]
  unfold textR
  simp only [List.nil_append]
  rw [if_neg (by simp), if_neg (by omega)]
  simp [strT]; omega
end Go.Proofs.YtddoigjjgcefkaaGreatDoor

/-
  The leaves of a value's text, read again: words and numbers. Plain.
-/
namespace Go.Proofs.YtddoigjjgcefkaaGreatDoor
open Go.RowKit
set_option maxRecDepth 100000

/-- The signs of a number's text. -/
def numB (c : UInt8) : Bool := (48 ≤ c.toNat && c.toNat ≤ 57) || c == 45 || c == 46
theorem numB_word : ∀ c : UInt8, numB c = true → (!isBl c && !isSg c) = true ∧ c ≠ 110 ∧ c ≠ 116 ∧ c ≠ 102 ∧ c ≠ 37 ∧ isBl c = false ∧ isSg c = false ∧ c ≠ 82 := u8_all (by decide +kernel)
theorem numB_dgt {d : Nat} (h : d < 10) : numB (dgt d) = true := by
  have e : ∀ k : Fin 10, numB (dgt k.val) = true := by decide +kernel
  exact e ⟨d, h⟩
theorem numB_digs : ∀ (f n : Nat), n < 1000 → ∀ c ∈ digs f n, numB c = true
  | 0, _, _, c, hc => by simp [digs] at hc
  | f + 1, n, hn, c, hc => by
    unfold digs at hc
    split at hc
    · simp at hc
    · rcases List.mem_cons.1 hc with rfl | hc
      · exact numB_dgt (by omega)
      · exact numB_digs f _ (by omega) c hc
theorem numB_dec (n : Nat) : ∀ c ∈ Lib.decDigits n, numB c = true := by
  induction n using Nat.strongRecOn with
  | ind n ih =>
    by_cases h : n < 10
    · intro c hc; rw [dec_one h] at hc
      obtain rfl := List.mem_singleton.1 hc
      exact numB_dgt h
    · intro c hc
      rw [dec_big h] at hc
      rcases List.mem_append.1 hc with hc | hc
      · exact ih (n / 10) (by omega) c hc
      · obtain rfl := List.mem_singleton.1 hc
        exact numB_dgt (by omega)
theorem numB_fix (n : Int) : ∀ c ∈ fixTxt n, numB c = true := by
  intro c hc
  unfold fixTxt at hc
  rcases List.mem_append.1 hc with hc | hc
  · rcases List.mem_append.1 hc with hc | hc
    · split at hc
      · obtain rfl := List.mem_singleton.1 hc; decide
      · simp at hc
    · exact numB_dec _ c hc
  · unfold frac at hc
    split at hc
    · simp at hc
    · rcases List.mem_cons.1 hc with rfl | hc
      · decide
      · exact numB_digs 3 _ (by omega) c hc
theorem fix_ne (n : Int) : fixTxt n ≠ [] := by
  unfold fixTxt
  intro h
  have := (List.append_eq_nil_iff.1 (List.append_eq_nil_iff.1 h).1).2
  exact dec_ne _ this
theorem wordB_back {s : ByteArray} {p : Nat} {W r : List UInt8} (h : s.data.toList.drop p = W ++ r) (hW : ∀ c ∈ W, (!isBl c && !isSg c) = true) (hr : Stop r) : wordP s p = ⟨W.toArray⟩ :=
  ba_ext (by rw [word_back h hW hr])
theorem word_num {W : List UInt8} (hW : ∀ c ∈ W, numB c = true) (hne : W ≠ []) : (⟨W.toArray⟩ : ByteArray) ≠ wNull ∧ (⟨W.toArray⟩ : ByteArray) ≠ wTrue ∧ (⟨W.toArray⟩ : ByteArray) ≠ wFalse := by
  match W, hW, hne with
  | c :: l, hW, _ =>
    obtain ⟨_, h1, h2, h3, _⟩ := numB_word c (hW c (by simp))
    refine ⟨fun q => h1 ?_, fun q => h2 ?_, fun q => h3 ?_⟩ <;>
      (have := congrArg (fun b : ByteArray => b.data.toList.head?) q; simpa [wNull, wTrue, wFalse] using this)
theorem null_back {s : ByteArray} {p : Nat} {r : List UInt8} (h : s.data.toList.drop p = [110, 117, 108, 108] ++ r) (hr : Stop r) : otherV s p = (V0 0 0 eB, 0, p + 4) := by
  have hw := wordB_back h (by decide) hr
  have hk : otherK s p = (0, 0, 0, p + 4) := by
    unfold otherK
    simp only [hw]
    exact if_pos rfl
  unfold otherV
  rw [hk]
theorem true_back {s : ByteArray} {p : Nat} {r : List UInt8} (h : s.data.toList.drop p = [116, 114, 117, 101] ++ r) (hr : Stop r) : otherV s p = (V0 1 1 eB, 0, p + 4) := by
  have hw := wordB_back h (by decide) hr
  have hk : otherK s p = (1, 1, 0, p + 4) := by
    unfold otherK
    simp only [hw]
    exact (if_neg (by decide)).trans (if_pos rfl)
  unfold otherV
  rw [hk]
theorem false_back {s : ByteArray} {p : Nat} {r : List UInt8} (h : s.data.toList.drop p = [102, 97, 108, 115, 101] ++ r) (hr : Stop r) : otherV s p = (V0 1 0 eB, 0, p + 5) := by
  have hw := wordB_back h (by decide) hr
  have hk : otherK s p = (1, 0, 0, p + 5) := by
    unfold otherK
    simp only [hw]
    exact (if_neg (by decide)).trans ((if_neg (by decide)).trans (if_pos rfl))
  unfold otherV
  rw [hk]
/-- A number's text, where no reference stands. -/
theorem num_back {s : ByteArray} {p : Nat} {n : Int} {r : List UInt8} (hn : okF n = true) (h : s.data.toList.drop p = fixTxt n ++ r) (hr : Stop r) (hf : refP s (p + (fixTxt n).length) = none) : otherV s p = (V0 2 n eB, 0, p + (fixTxt n).length) := by
  have hw := wordB_back h (fun c hc => (numB_word c (numB_fix n c hc)).1) hr
  obtain ⟨h1, h2, h3⟩ := word_num (numB_fix n) (fix_ne n)
  have hz : (⟨(fixTxt n).toArray⟩ : ByteArray).size = (fixTxt n).length := by simp [ByteArray.size]
  have hk : otherK s p = (2, n, 0, p + (fixTxt n).length) := by
    unfold otherK
    simp only [hw, hz, hf]
    rw [if_neg h1, if_neg h2, if_neg h3, if_neg (by simp), (read_text n hn).1, (read_text n hn).2]
  unfold otherV
  rw [hk]
/-- A reference's text. -/
theorem ref_back {s : ByteArray} {p n : Nat} {r : List UInt8} (h1n : 1 ≤ n) (hn : n ≤ 60) (h : s.data.toList.drop p = Lib.decDigits n ++ 32 :: 48 :: 32 :: 82 :: r) (hr : Stop r) : otherV s p = (V0 7 n eB, 0, p + (Lib.decDigits n).length + 4) := by
  have hst : Stop (32 :: 48 :: 32 :: 82 :: r) := .inr ⟨32, _, rfl, by decide⟩
  have hw := wordB_back h (fun c hc => (numB_word c (numB_dec n c hc)).1) hst
  obtain ⟨h1, h2, h3⟩ := word_num (numB_dec n) (dec_ne n)
  have hz : (⟨(Lib.decDigits n).toArray⟩ : ByteArray).size = (Lib.decDigits n).length := by simp [ByteArray.size]
  have d0 : s.data.toList.drop (p + (Lib.decDigits n).length) = 32 :: 48 :: 32 :: 82 :: r := drop_succ_of h rfl
  obtain ⟨j, hj⟩ : ∃ j, j = p + (Lib.decDigits n).length := ⟨_, rfl⟩
  rw [← hj] at d0
  have d1 : s.data.toList.drop (j + 1) = 48 :: 32 :: 82 :: r := drop_succ_of (n := 1) (a := [32]) d0 rfl
  have d2 : s.data.toList.drop (j + 1 + 1) = 32 :: 82 :: r := drop_succ_of (n := 1) (a := [48]) d1 rfl
  have d3 : s.data.toList.drop (j + 1 + 1 + 1) = 82 :: r := drop_succ_of (n := 1) (a := [32]) d2 rfl
  have hf : refP s j = some (j + 4) := by
    unfold refP
    have e0 : wordP s (j + 1) = w0 := wordB_back (W := [48]) d1 (by decide) (.inr ⟨32, _, rfl, by decide⟩)
    have eR : wordP s (j + 1 + 1 + 1) = wR := wordB_back (W := [82]) d3 (by decide) hr
    rw [skip_next d0 (by decide) (by decide), e0, if_pos rfl, skip_next d2 (by decide) (by decide), eR, if_pos rfl]
  have hk : otherK s p = (7, (n : Int), 0, p + (Lib.decDigits n).length + 4) := by
    unfold otherK
    simp only [hw, hz, ← hj, hf]
    rw [if_neg h1, if_neg h2, if_neg h3, if_pos ⟨by rw [obj_dec h1n hn]; omega, rfl⟩, obj_dec h1n hn]
    rfl
  unfold otherV
  rw [hk]
end Go.Proofs.YtddoigjjgcefkaaGreatDoor
