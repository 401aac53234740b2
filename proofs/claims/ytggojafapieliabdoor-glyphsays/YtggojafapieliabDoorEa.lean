/-
  Tokens of a text that is told piece by piece.
-/
import Derived.Test.YtggojafapieliabDoorDc
namespace Go.Proofs.YtggojafapieliabDoor
open Go.RowKit
set_option maxRecDepth 100000

def isWd (c : UInt8) : Bool := !isBl c && !isSg c
theorem skipL_bl : ∀ (ws r : List UInt8), (∀ c ∈ ws, isBl c = true ∧ c ≠ 37) → skipL (ws ++ r) false = ws.length + skipL r false
  | [], r, _ => by simp
  | c :: ws, r, h => by
    have q := skipL_bl ws r (fun x hx => h x (by simp [hx]))
    obtain ⟨h1, h2⟩ := h c (by simp)
    have h3 : (c == 37) = false := by simpa using h2
    have e : skipL (c :: (ws ++ r)) false = if !(c == 37 || (false && c != 10 && c != 13)) && !isBl c then 0 else skipL (ws ++ r) (c == 37 || (false && c != 10 && c != 13)) + 1 := rfl
    show skipL (c :: (ws ++ r)) false = _
    rw [e, h3, h1]
    simp only [Bool.false_or, Bool.false_and, Bool.not_false, Bool.not_true, Bool.and_false, Bool.false_eq_true, if_false, q, List.length_cons]
    omega
theorem skipL_stop {c : UInt8} {r : List UInt8} (h1 : isBl c = false) (h2 : c ≠ 37) : skipL (c :: r) false = 0 := by
  have h3 : (c == 37) = false := by simpa using h2
  unfold skipL
  rw [h3, h1]
  simp
theorem exL (s : ByteArray) (p : Nat) : (s.extract p s.size).data.toList = s.data.toList.drop p := by
  have e : s.size = s.data.toList.length := by simp
  rw [e]
  simp only [ByteArray.data_extract, Array.toList_extract, List.extract_eq_take_drop]
  rw [List.take_of_length_le (by rw [List.length_drop]; exact Nat.le_refl _)]
theorem exT (s : ByteArray) (n : Nat) : (s.extract 0 n).data.toList = s.data.toList.take n := by simp
theorem szL (s : ByteArray) : s.size = s.data.toList.length := by simp
theorem bytesE {s : ByteArray} {l : List UInt8} (h : s.data.toList = l) : s = ⟨l.toArray⟩ := by
  apply Go.WideShapes.bytes_inj
  simpa using h
theorem skipP_at {s : ByteArray} {pre ws r : List UInt8} (he : s.data.toList = pre ++ (ws ++ r)) (hw : ∀ c ∈ ws, isBl c = true ∧ c ≠ 37) (hr : skipL r false = 0) : skipP s pre.length = pre.length + ws.length := by
  unfold skipP
  rw [he, List.drop_left, skipL_bl _ _ hw, hr]; omega
theorem tokWord (P : Nat) (s : ByteArray) (pre ws tok suf : List UInt8) (b : Nat) (hs : s.size ≤ 50000) (he : s.data.toList = pre ++ (ws ++ (tok ++ suf))) (hw : ∀ c ∈ ws, isBl c = true ∧ c ≠ 37)
    (ht : tok ≠ []) (hr : ∀ c ∈ tok, isWd c = true) (hf : suf.takeWhile isWd = []) (hb : b = pre.length + ws.length + tok.length) : Tok P s pre.length ⟨tok.toArray⟩ b := by
  intro W bt sp hA
  have hlen : s.size = pre.length + ws.length + tok.length + suf.length := by rw [szL, he]; simp only [List.length_append]; omega
  have ht0 : 0 < tok.length := List.length_pos_iff.2 ht
  obtain ⟨c, tk, rfl⟩ : ∃ c tk, tok = c :: tk := by
    cases tok with
    | nil => exact absurd rfl ht
    | cons c tk => exact ⟨c, tk, rfl⟩
  have hc := hr c (by simp)
  unfold isWd at hc
  simp only [Bool.and_eq_true, Bool.not_eq_true'] at hc
  have hc37 : c ≠ 37 := fun q => by rw [q] at hc; exact absurd hc.2 (by decide)
  have hc60 : c ≠ 60 := fun q => by rw [q] at hc; exact absurd hc.2 (by decide)
  have hk : skipP s pre.length = pre.length + ws.length := skipP_at he hw (skipL_stop hc.1 hc37)
  obtain ⟨rest, hrest⟩ : ∃ r, s.extract (pre.length + ws.length) s.size = r := ⟨_, rfl⟩
  have hrl : rest.data.toList = (c :: tk) ++ suf := by
    rw [← hrest, exL, he, ← List.append_assoc, ← List.length_append, List.drop_left]
  have hrs : rest.size = s.size - (pre.length + ws.length) := by rw [szL rest, hrl, List.length_append]; omega
  have h0 : 0 < rest.size := by omega
  have hz : rest[0] = c := by
    have := bytesE hrl
    subst this
    rfl
  have hwd : wordP rest 0 = ⟨(c :: tk).toArray⟩ := by
    apply bytesE
    unfold wordP
    rw [List.drop_zero, hrl, Nat.zero_add, exT, hrl]
    have q : wordL (c :: tk ++ suf) = (c :: tk).length := by
      show ((c :: tk ++ suf).takeWhile isWd).length = _
      rw [List.takeWhile_append_of_pos hr, hf, List.append_nil]
    rw [q, List.take_left]
  have hex : rest.extract 0 (c :: tk).length = ⟨(c :: tk).toArray⟩ := by
    apply bytesE
    rw [exT, hrl, List.take_left]
  have q := token_word s rest ⟨(c :: tk).toArray⟩ pre.length (pre.length + ws.length) (c :: tk).length bt sp P W hs (by omega) hk (by omega) hrest hrs h0
    (by rw [hz]; intro q; apply hc60; apply UInt8.toNat_inj.1; show c.toNat = 60; omega) ⟨(c :: tk).toArray⟩ hwd (by show (c :: tk).toArray.size = _; simp) ht0 (by rw [hrs]; omega) hex hA
  rw [hb]
  exact q
theorem indexByte_at (body suf : List UInt8) (h : ∀ c ∈ body, c ≠ 62) : Lib.indexByte (body ++ 62 :: suf) 62 = (body.length : Int) := by
  induction body with
  | nil => rfl
  | cons c body ih =>
    have q := ih (fun x hx => h x (by simp [hx]))
    have hc : (c == 62) = false := by simpa using h c (by simp)
    show Lib.indexByte (c :: (body ++ 62 :: suf)) 62 = _
    have e : Lib.indexByte (c :: (body ++ 62 :: suf)) 62 = if c == 62 then 0 else if Lib.indexByte (body ++ 62 :: suf) 62 == -1 then -1 else Lib.indexByte (body ++ 62 :: suf) 62 + 1 := rfl
    rw [e, hc, q]
    have e2 : ((body.length : Int) == -1) = false := by simp
    rw [e2]
    simp
theorem tokAngle (P : Nat) (s : ByteArray) (pre ws body suf : List UInt8) (b : Nat) (hs : s.size ≤ 50000) (he : s.data.toList = pre ++ (ws ++ ((60 :: (body ++ [62])) ++ suf))) (hw : ∀ c ∈ ws, isBl c = true ∧ c ≠ 37)
    (hbd : ∀ c ∈ body, c ≠ 62) (hb : b = pre.length + ws.length + (body.length + 2)) : Tok P s pre.length ⟨(60 :: (body ++ [62])).toArray⟩ b := by
  intro W bt sp hA
  have hlen : s.size = pre.length + ws.length + (body.length + 2) + suf.length := by rw [szL, he]; simp only [List.length_append, List.length_cons, List.length_nil]; omega
  have hk : skipP s pre.length = pre.length + ws.length := skipP_at he hw (skipL_stop (by decide) (by decide))
  obtain ⟨rest, hrest⟩ : ∃ r, s.extract (pre.length + ws.length) s.size = r := ⟨_, rfl⟩
  have hrl : rest.data.toList = 60 :: (body ++ [62]) ++ suf := by
    rw [← hrest, exL, he, ← List.append_assoc, ← List.length_append, List.drop_left]
  have hrs : rest.size = s.size - (pre.length + ws.length) := by rw [szL rest, hrl]; simp only [List.length_append, List.length_cons, List.length_nil]; omega
  have h0 : 0 < rest.size := by omega
  have hz : rest[0] = 60 := by
    have := bytesE hrl
    subst this
    rfl
  have hix : Lib.indexByte rest.data.toList 62 = ((body.length + 1 : Nat) : Int) := by
    rw [hrl]
    have q := indexByte_at (60 :: body) suf (fun c hc => by
      rcases List.mem_cons.1 hc with rfl | hc
      · decide
      · exact hbd c hc)
    simpa using q
  have hex : rest.extract 0 (1 + (body.length + 1)) = ⟨(60 :: (body ++ [62])).toArray⟩ := by
    apply bytesE
    rw [exT, hrl]
    have : 1 + (body.length + 1) = (60 :: (body ++ [62])).length := by simp; omega
    rw [this, List.take_left]
  have q := token_angle s rest ⟨(60 :: (body ++ [62])).toArray⟩ pre.length (pre.length + ws.length) (body.length + 1) bt sp P W hs (by omega) hk (by omega) hrest hrs h0
    (by rw [hz]; rfl) hix (by rw [hrs]; omega) hex hA
  rw [hb]
  rw [show pre.length + ws.length + (1 + (body.length + 1)) = pre.length + ws.length + (body.length + 2) by omega] at q
  exact q
theorem tokEnd (P : Nat) (s : ByteArray) (pre ws : List UInt8) (hs : s.size ≤ 50000) (he : s.data.toList = pre ++ ws) (hw : ∀ c ∈ ws, isBl c = true ∧ c ≠ 37) : Tok P s pre.length ⟨#[]⟩ s.size := by
  intro W bt sp hA
  have hk : skipP s pre.length = s.size := by
    have q := skipP_at (s := s) (pre := pre) (ws := ws) (r := []) (by rw [List.append_nil]; exact he) hw rfl
    rw [q, szL, he, List.length_append]
  exact token_end s pre.length bt sp P W hs (by rw [szL, he, List.length_append]; omega) hk hA
end Go.Proofs.YtggojafapieliabDoor
