/-
  Joined: Pj, Vo, Pk.
-/
import Derived.Test.YtflcibmjblioaaaGreatDoorVn
import Derived.Test.YtflcibmjblioaaaGreatDoorVf

/-
  What value.Text makes of strings and names, read again. Plain: no program in it.
-/
namespace Go.Proofs.YtflcibmjblioaaaGreatDoor
open Go.RowKit
set_option maxRecDepth 100000

theorem u8_all {P : UInt8 → Prop} (h : ∀ k : Fin 256, P (UInt8.ofNat k.val)) (c : UInt8) : P c := by
  have q := h ⟨c.toNat, c.toNat_lt⟩
  simpa using q
theorem oct3 (c : UInt8) : isOct (UInt8.ofNat (48 + c.toNat / 64)) = true ∧ isOct (UInt8.ofNat (48 + c.toNat / 8 % 8)) = true ∧ isOct (UInt8.ofNat (48 + c.toNat % 8)) = true ∧
    UInt8.ofNat ((8 * (8 * (8 * 0 + ((UInt8.ofNat (48 + c.toNat / 64)).toNat - 48)) + ((UInt8.ofNat (48 + c.toNat / 8 % 8)).toNat - 48)) + ((UInt8.ofNat (48 + c.toNat % 8)).toNat - 48)) % 256) = c := by
  revert c
  exact u8_all (by decide +kernel)
theorem escL_oct (c : UInt8) (r : List UInt8) : escL (UInt8.ofNat (48 + c.toNat / 64) :: UInt8.ofNat (48 + c.toNat / 8 % 8) :: UInt8.ofNat (48 + c.toNat % 8) :: r) = some ([c], 3) := by
  obtain ⟨h1, h2, h3, h4⟩ := oct3 c
  unfold escL
  dsimp only
  rw [if_pos h1]
  have e1 : octN 3 (UInt8.ofNat (48 + c.toNat / 64) :: UInt8.ofNat (48 + c.toNat / 8 % 8) :: UInt8.ofNat (48 + c.toNat % 8) :: r) = 3 := by
    simp only [octN, h1, h2, h3, if_true]
  have e2 : octV 3 (UInt8.ofNat (48 + c.toNat / 64) :: UInt8.ofNat (48 + c.toNat / 8 % 8) :: UInt8.ofNat (48 + c.toNat % 8) :: r) 0 = 8 * (8 * (8 * 0 + ((UInt8.ofNat (48 + c.toNat / 64)).toNat - 48)) + ((UInt8.ofNat (48 + c.toNat / 8 % 8)).toNat - 48)) + ((UInt8.ofNat (48 + c.toNat % 8)).toNat - 48) := by
    simp only [octV, h1, h2, h3, if_true]
  rw [e1, e2, h4]
/-- A string's text, read from behind its opening bracket. -/
theorem litT_back : ∀ (l r b : List UInt8) (k : Nat), litT (l.flatMap escS ++ 41 :: r) 1 b k = (0, b ++ l, k + (l.flatMap escS).length + 1)
  | [], r, b, k => by
    show litT (41 :: r) 1 b k = _
    rw [litT_cons]; simp
  | c :: l, r, b, k => by
    have ih := fun b' k' => litT_back l r b' k'
    rw [List.flatMap_cons, List.append_assoc]
    by_cases h1 : c = 40 ∨ c = 41 ∨ c = 92
    · rw [show escS c = [92, c] by unfold escS; rw [if_pos h1]]
      have e : escL (c :: (l.flatMap escS ++ 41 :: r)) = some ([c], 1) := by
        rcases h1 with rfl | rfl | rfl <;> rfl
      show litT (92 :: c :: (l.flatMap escS ++ 41 :: r)) 1 b k = _
      rw [litT_cons, if_neg (by decide), if_neg (by decide), if_pos (by decide), e]
      show litT (l.flatMap escS ++ 41 :: r) 1 (b ++ [c]) (k + 1 + 1) = _
      rw [ih]
      simp; omega
    · by_cases h2 : 32 ≤ c.toNat ∧ c.toNat < 127
      · rw [show escS c = [c] by unfold escS; rw [if_neg h1, if_pos h2]]
        simp only [not_or] at h1
        show litT (c :: (l.flatMap escS ++ 41 :: r)) 1 b k = _
        rw [litT_cons, if_neg (by simpa using h1.2.1), if_neg (by simpa using h1.1), if_neg (by simpa using h1.2.2), ih]
        simp; omega
      · rw [show escS c = [92, UInt8.ofNat (48 + c.toNat / 64), UInt8.ofNat (48 + c.toNat / 8 % 8), UInt8.ofNat (48 + c.toNat % 8)] by unfold escS; rw [if_neg h1, if_neg h2]]
        show litT (92 :: UInt8.ofNat (48 + c.toNat / 64) :: UInt8.ofNat (48 + c.toNat / 8 % 8) :: UInt8.ofNat (48 + c.toNat % 8) :: (l.flatMap escS ++ 41 :: r)) 1 b k = _
        rw [litT_cons, if_neg (by decide), if_neg (by decide), if_pos (by decide), escL_oct]
        show litT (l.flatMap escS ++ 41 :: r) 1 (b ++ [c]) (k + 1 + 3) = _
        rw [ih]
        simp; omega
theorem hex2 (c : UInt8) : ¬ (hexV (hexD (c.toNat / 16)) < 0 ∨ hexV (hexD (c.toNat % 16)) < 0) ∧ UInt8.ofNat (16 * (hexV (hexD (c.toNat / 16))).toNat + (hexV (hexD (c.toNat % 16))).toNat) = c := by
  revert c
  exact u8_all (by decide +kernel)
/-- A name's text, read. -/
theorem nameL_back : ∀ l : List UInt8, nameL (l.flatMap escN) = some l
  | [] => nameL_nil
  | c :: l => by
    have ih := nameL_back l
    rw [List.flatMap_cons]
    by_cases h : 32 < c.toNat ∧ c.toNat < 127 ∧ hardN c = false
    · rw [show escN c = [c] by unfold escN; rw [if_pos h]]
      have h35 : (c == 35) = false := by
        have q := h.2.2
        unfold hardN at q
        simp only [Bool.or_eq_false_iff] at q
        exact q.2
      show nameL (c :: l.flatMap escN) = _
      rw [nameL_plain h35, ih]; rfl
    · rw [show escN c = [35, hexD (c.toNat / 16), hexD (c.toNat % 16)] by unfold escN; rw [if_neg h]]
      obtain ⟨h1, h2⟩ := hex2 c
      show nameL (35 :: hexD (c.toNat / 16) :: hexD (c.toNat % 16) :: l.flatMap escN) = _
      rw [nameL_pair, if_neg h1, ih, h2]; rfl
end Go.Proofs.YtflcibmjblioaaaGreatDoor

/-
  A value's text; the document's own.
-/
namespace Go.Proofs.YtflcibmjblioaaaGreatDoor
open Go.RowKit
set_option maxRecDepth 100000

mutual
/-- The text of a value that may be. -/
def V.txt : V → List UInt8
  | ⟨k, n, s, l, f⟩ =>
    if k = 1 then (if n = 1 then [116, 114, 117, 101] else [102, 97, 108, 115, 101])
    else if k = 2 then (txtB n).data.toList
    else if k = 3 then strT s.data.toList
    else if k = 4 then nameT s.data.toList
    else if k = 5 then 91 :: (sepsL l).drop 1 ++ [93]
    else if k = 6 then 60 :: 60 :: sepsF f ++ [32, 62, 62]
    else if k = 7 then Lib.decDigits (n.toNat % 100) ++ [32, 48, 32, 82]
    else [110, 117, 108, 108]
def sepsL : List V → List UInt8
  | [] => []
  | x :: l => 32 :: V.txt x ++ sepsL l
def sepsF : List (ByteArray × V) → List UInt8
  | [] => []
  | q :: l => 32 :: fieldT q ++ sepsF l
def fieldT : ByteArray × V → List UInt8
  | (n, x) => nameT n.data.toList ++ 32 :: V.txt x
end
theorem txt_eq (v : V) : v.txt = (if v.k = 1 then (if v.n = 1 then [116, 114, 117, 101] else [102, 97, 108, 115, 101])
    else if v.k = 2 then (txtB v.n).data.toList
    else if v.k = 3 then strT v.s.data.toList
    else if v.k = 4 then nameT v.s.data.toList
    else if v.k = 5 then 91 :: (sepsL v.l).drop 1 ++ [93]
    else if v.k = 6 then 60 :: 60 :: sepsF v.f ++ [32, 62, 62]
    else if v.k = 7 then Lib.decDigits (v.n.toNat % 100) ++ [32, 48, 32, 82]
    else [110, 117, 108, 108]) := by cases v; rw [V.txt]
theorem fieldT_eq (q : ByteArray × V) : fieldT q = nameT q.1.data.toList ++ 32 :: q.2.txt := by cases q; rw [fieldT]
theorem sepsL_take : ∀ (l : List V) (j : Nat) (x : V), l[j]? = some x → sepsL (l.take (j + 1)) = sepsL (l.take j) ++ 32 :: x.txt
  | [], j, x, h => by simp at h
  | y :: l, 0, x, h => by simp at h; subst h; simp [sepsL]
  | y :: l, j + 1, x, h => by
    have := sepsL_take l j x (by simpa using h)
    rw [List.take_succ_cons, List.take_succ_cons, sepsL, sepsL, this, List.append_assoc]
theorem sepsF_take : ∀ (l : List (ByteArray × V)) (j : Nat) (q : ByteArray × V), l[j]? = some q → sepsF (l.take (j + 1)) = sepsF (l.take j) ++ 32 :: fieldT q
  | [], j, x, h => by simp at h
  | y :: l, 0, x, h => by simp at h; subst h; simp [sepsF]
  | y :: l, j + 1, x, h => by
    have := sepsF_take l j x (by simpa using h)
    rw [List.take_succ_cons, List.take_succ_cons, sepsF, sepsF, this, List.append_assoc]
theorem drop_seps {l : List V} {j : Nat} {x : V} (h : l[j]? = some x) : (sepsL (l.take (j + 1))).drop 1 = if j = 0 then x.txt else (sepsL (l.take j)).drop 1 ++ 32 :: x.txt := by
  rw [sepsL_take l j x h]
  by_cases hj : j = 0
  · subst hj; simp [sepsL]
  · rw [if_neg hj, List.drop_append_of_le_length]
    cases l with
    | nil => simp at h
    | cons y l =>
      obtain ⟨i, rfl⟩ : ∃ i, j = i + 1 := ⟨j - 1, by omega⟩
      rw [List.take_succ_cons, sepsL]; simp
theorem dec_small (n : Nat) (h : n < 100) : (Lib.decDigits n).length ≤ 2 := by
  by_cases h1 : n < 10
  · rw [Lib.decDigits_one h1]; simp
  · rw [dec_big h1, Lib.decDigits_one (by omega)]; simp
theorem sepsL_len : ∀ (l : List V), (∀ x ∈ l, x.txt.length + 1 ≤ 50 * x.bulk) → (sepsL l).length ≤ 50 * bulkL l
  | [], _ => by simp [sepsL]
  | y :: l, h => by
    have := sepsL_len l (fun x hx => h x (by simp [hx]))
    have := h y (by simp)
    rw [sepsL, bulkL]; simp; omega
theorem nameT_len (s : ByteArray) : (nameT s.data.toList).length ≤ 1 + 3 * s.size := by
  have := flatN_len s.data.toList
  have e : s.data.toList.length = s.size := by simp
  unfold nameT; simp at *; omega
theorem strT_len (s : ByteArray) : (strT s.data.toList).length ≤ 2 + 4 * s.size := by
  have := flat_len s.data.toList
  have e : s.data.toList.length = s.size := by simp
  unfold strT; simp at *; omega
theorem sepsF_len : ∀ (l : List (ByteArray × V)), (∀ q ∈ l, q.2.txt.length + 1 ≤ 50 * q.2.bulk) → (sepsF l).length ≤ 50 * bulkF l
  | [], _ => by simp [sepsF]
  | y :: l, h => by
    have := sepsF_len l (fun x hx => h x (by simp [hx]))
    have := h y (by simp)
    have := nameT_len y.1
    rw [sepsF, bulkF_cons, fieldT_eq]; simp; omega
theorem txtB_len (n : Int) : (txtB n).data.toList.length ≤ 40 := by
  cases h : okF n
  · rw [txtB_bad h]; simp
  · rw [txtB_ok h]; have := fixTxt_len n h; simpa using this
theorem txt_len (v : V) : v.txt.length + 1 ≤ 50 * v.bulk := by
  induction v using V.ind with
  | h v hl hf =>
    have a := sepsL_len v.l hl
    have b := sepsF_len v.f hf
    have c := nameT_len v.s
    have d := strT_len v.s
    have e := txtB_len v.n
    have g := dec_small (v.n.toNat % 100) (by omega)
    rw [txt_eq, bulk_eq']
    split
    · split <;> simp <;> omega
    split
    · omega
    split
    · omega
    split
    · omega
    split
    · simp; omega
    split
    · simp; omega
    split
    · simp; omega
    · simp; omega
theorem nmOk_sizeV {s : ByteArray} (h : nmOk s = true) : s.size ≤ 200 := by
  by_cases hs : s.size ≤ 200
  · exact hs
  · rw [nmOk_len (by omega)] at h; cases h
theorem own_s {v : V} (h : Own v) : v.s.size ≤ 200 := by
  rcases h with h | h | h | h | h | h | h | h
  · omega
  · omega
  · omega
  · omega
  · exact nmOk_sizeV h.2.2.1
  · omega
  · omega
  · omega
theorem bulkL_shp : ∀ (l : List V), (∀ x ∈ l, x.bulk ≤ 402 * x.cnt) → bulkL l ≤ 402 * cntL l
  | [], _ => by simp [bulkL]
  | y :: l, h => by
    have := bulkL_shp l (fun x hx => h x (by simp [hx]))
    have := h y (by simp)
    rw [bulkL, cntL]; omega
/-- What may be is no more than its parts allow. -/
theorem bulk_shp (v : V) : v.Shp → v.bulk + 201 ≤ 402 * v.cnt := by
  induction v using V.ind with
  | h v hl hf =>
    intro hs
    have ho := (shp_eq v).1 hs
    have e1 := own_s ho.1
    have hL := (shpL_iff v.l).1 ho.2.1
    have hF := (shpF_iff v.f).1 ho.2.2
    have hN := own_names ho.1
    have a := bulkL_shp v.l (fun x hx => by
      obtain ⟨i, hi⟩ := List.getElem?_of_mem hx
      have := hl x hx (hL i x hi); omega)
    have b : ∀ (l : List (ByteArray × V)), (∀ q ∈ l, q.1.size ≤ 200 ∧ q.2.bulk + 201 ≤ 402 * q.2.cnt) → bulkF l ≤ 402 * cntF l := fun l => by
      induction l with
      | nil => intro _; simp [bulkF]
      | cons y l ih =>
        intro h
        have := ih (fun x hx => h x (by simp [hx]))
        have := h y (by simp)
        rw [bulkF_cons, cntF_cons]; omega
    have b' := b v.f (fun q hq => by
      obtain ⟨i, hi⟩ := List.getElem?_of_mem hq
      exact ⟨nmOk_sizeV (hN i q hi).1, hf q hq (hF i q hi)⟩)
    rw [bulk_eq', cnt_eq]; omega

end Go.Proofs.YtflcibmjblioaaaGreatDoor

/-
  The leaves of a value's text, read again: names and strings at a place of a text. Plain.
-/
namespace Go.Proofs.YtflcibmjblioaaaGreatDoor
open Go.RowKit
set_option maxRecDepth 100000

/-- What may stand behind a word. -/
def Stop (r : List UInt8) : Prop := r = [] ∨ ∃ c t, r = c :: t ∧ (!isBl c && !isSg c) = false
theorem skip_here {s : ByteArray} {p : Nat} {c : UInt8} {r : List UInt8} (h : s.data.toList.drop p = c :: r) (h1 : c ≠ 37) (h2 : isBl c = false) : skipP s p = p := by
  unfold skipP
  rw [h]
  unfold skipL
  have e : (c == 37) = false := by simpa using h1
  rw [e, h2]
  rfl
theorem drop_succ_of {s : ByteArray} {p n : Nat} {a b : List UInt8} (h : s.data.toList.drop p = a ++ b) (hn : a.length = n) : s.data.toList.drop (p + n) = b := by
  rw [← List.drop_drop, h, ← hn, List.drop_left]
theorem skip_next {s : ByteArray} {p : Nat} {c : UInt8} {r : List UInt8} (h : s.data.toList.drop p = 32 :: c :: r) (h1 : c ≠ 37) (h2 : isBl c = false) : skipP s p = p + 1 := by
  have q : skipP s (p + 1) = p + 1 := skip_here (drop_succ_of (n := 1) (a := [32]) (b := c :: r) h rfl) h1 h2
  unfold skipP at q ⊢
  rw [h]
  have e : s.data.toList.drop (p + 1) = c :: r := drop_succ_of (a := [32]) h rfl
  rw [e] at q
  have e2 : skipL (32 :: c :: r) false = skipL (c :: r) false + 1 := by
    conv => lhs; unfold skipL
    rw [if_neg (by decide)]; rfl
  omega
theorem word_back {s : ByteArray} {p : Nat} {W r : List UInt8} (h : s.data.toList.drop p = W ++ r) (hW : ∀ c ∈ W, (!isBl c && !isSg c) = true) (hr : Stop r) : (wordP s p).data.toList = W := by
  have e : wordL (W ++ r) = W.length := by
    unfold wordL
    rw [List.takeWhile_append_of_pos hW]
    rcases hr with rfl | ⟨c, t, rfl, hc⟩
    · simp
    · rw [List.takeWhile_cons_of_neg (by rw [hc]; simp)]; simp
  unfold wordP
  rw [h, e]
  rw [ByteArray.data_extract, Array.toList_extract]
  show List.extract _ _ _ = _
  rw [List.extract_eq_take_drop, h]
  simp
theorem escN_word : ∀ c d : UInt8, d ∈ escN c → (!isBl d && !isSg d) = true := by
  intro c
  revert c
  exact u8_all (by decide +kernel)
theorem names_word (l : List UInt8) : ∀ d ∈ l.flatMap escN, (!isBl d && !isSg d) = true := fun d hd => by
  obtain ⟨c, _, hc⟩ := List.mem_flatMap.1 hd
  exact escN_word c d hc
theorem nameV_back {s : ByteArray} {p : Nat} {l r : List UInt8} (h : s.data.toList.drop p = nameT l ++ r) (hr : Stop r) (hn : nmOk ⟨l.toArray⟩ = true) : nameV s p = (V0 4 0 ⟨l.toArray⟩, 0, p + (nameT l).length) := by
  have hw : (wordP s (p + 1)).data.toList = l.flatMap escN := word_back (drop_succ_of (n := 1) (a := [47]) (b := l.flatMap escN ++ r) h rfl) (names_word l) hr
  have hz : (wordP s (p + 1)).size = (l.flatMap escN).length := by rw [← hw]; simp
  have hR : nameR (wordP s (p + 1)).data.toList = some l := by
    unfold nameR
    rw [hw, nameL_back]
    show (if nmOk ⟨l.toArray⟩ = true then some l else none) = _
    rw [if_pos hn]
  unfold nameV
  rw [hR, hz]
  simp [nameT]; omega
theorem litV_back {s : ByteArray} {p : Nat} {l r : List UInt8} (h : s.data.toList.drop p = strT l ++ r) (hl : l.length ≤ 200) : litV s p = (V0 3 0 ⟨l.toArray⟩, 0, p + (strT l).length) := by
  have hd : s.data.toList.drop (p + 1) = l.flatMap escS ++ 41 :: r := drop_succ_of (a := [40]) (by rw [h]; simp [strT]) rfl
  have e := litT_back l r [] (p + 1)
  unfold litV
  rw [hd, e]
  unfold textR
  simp only [List.nil_append]
  rw [if_neg (by simp), if_neg (by omega)]
  simp [strT]; omega
end Go.Proofs.YtflcibmjblioaaaGreatDoor
