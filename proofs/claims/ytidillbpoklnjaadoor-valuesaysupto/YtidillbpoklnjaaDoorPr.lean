/-
  Plain: the document's reading of a number, byte by byte: what has been seen at each step, and what it comes to.
-/
import Derived.Test.YtidillbpoklnjaaDoorPp
namespace Go.Proofs.YtidillbpoklnjaaDoor
open Go.RowKit

/-- Ahead of the point: the digits seen so far. -/
def Mode1 (r : List UInt8) (j whole : Nat) : Prop := ∃ a rest, r = a ++ rest ∧ allD a = true ∧ j = a.length ∧ whole = satW 0 a
/-- Behind the point. -/
def Mode2 (r : List UInt8) (j whole part wo digits : Nat) : Prop :=
  ∃ a b rest, r = a ++ 46 :: (b ++ rest) ∧ allD a = true ∧ allD b = true ∧ j = a.length + 1 + b.length ∧ whole = satW 0 a ∧ part = frac3 b ∧ wo = worth b.length ∧ digits = a.length + b.length
theorem allD_snoc {a : List UInt8} {c : UInt8} (ha : allD a = true) (hc : isD c = true) : allD (a ++ [c]) = true := by
  unfold allD at *; rw [List.all_append, ha]; simp [hc]
theorem mode1_start (r : List UInt8) : Mode1 r 0 0 := ⟨[], r, rfl, rfl, rfl, rfl⟩
theorem split_at {r a rest : List UInt8} {c : UInt8} (h : r = a ++ rest) (hc : r[a.length]? = some c) : ∃ rest', rest = c :: rest' := by
  subst h
  rw [List.getElem?_append_right (Nat.le_refl _), Nat.sub_self] at hc
  cases rest with
  | nil => simp at hc
  | cons d l => simp at hc; exact ⟨l, by rw [hc]⟩
theorem mode1_digit {r : List UInt8} {j whole : Nat} {c : UInt8} (h : Mode1 r j whole) (hc : r[j]? = some c) (hd : isD c = true) : Mode1 r (j + 1) (if whole < 10000000 then 10 * whole + (c.toNat - 48) else whole) := by
  obtain ⟨a, rest, h1, h2, rfl, rfl⟩ := h
  obtain ⟨rest', rfl⟩ := split_at h1 hc
  exact ⟨a ++ [c], rest', by rw [h1]; simp, allD_snoc h2 hd, by simp, by rw [satW_snoc]⟩
theorem mode1_dot {r : List UInt8} {j whole : Nat} (h : Mode1 r j whole) (hc : r[j]? = some 46) : Mode2 r (j + 1) whole 0 100 j := by
  obtain ⟨a, rest, h1, h2, rfl, rfl⟩ := h
  obtain ⟨rest', rfl⟩ := split_at h1 hc
  exact ⟨a, [], rest', by rw [h1]; rfl, h2, rfl, by simp, rfl, rfl, rfl, by simp⟩
theorem mode1_bad {r : List UInt8} {j whole : Nat} {c : UInt8} (h : Mode1 r j whole) (hc : r[j]? = some c) (hd : isD c = false) (h46 : c ≠ 46) : goodF r = false := by
  obtain ⟨a, rest, h1, h2, rfl, rfl⟩ := h
  obtain ⟨rest', rfl⟩ := split_at h1 hc
  rw [h1]; exact bad_whole rest' h2 hd h46
theorem split_at2 {r a b rest : List UInt8} {c : UInt8} (h : r = a ++ 46 :: (b ++ rest)) (hc : r[a.length + 1 + b.length]? = some c) : ∃ rest', rest = c :: rest' := by
  have h' : r = (a ++ 46 :: b) ++ rest := by rw [h]; simp
  refine split_at h' ?_
  rw [← hc]; congr 1; simp; omega
theorem mode2_digit {r : List UInt8} {j whole part wo digits : Nat} {c : UInt8} (h : Mode2 r j whole part wo digits) (hc : r[j]? = some c) (hd : isD c = true) : Mode2 r (j + 1) whole (part + wo * (c.toNat - 48)) (wo / 10) (digits + 1) := by
  obtain ⟨a, b, rest, h1, h2, h3, rfl, rfl, rfl, rfl, rfl⟩ := h
  obtain ⟨rest', rfl⟩ := split_at2 h1 hc
  exact ⟨a, b ++ [c], rest', by rw [h1]; simp, h2, allD_snoc h3 hd, by simp; omega, rfl, by rw [frac3_snoc], by rw [worth_step]; simp, by simp; omega⟩
theorem mode2_bad {r : List UInt8} {j whole part wo digits : Nat} {c : UInt8} (h : Mode2 r j whole part wo digits) (hc : r[j]? = some c) (hd : isD c = false) : goodF r = false := by
  obtain ⟨a, b, rest, h1, h2, h3, rfl, rfl, rfl, rfl, rfl⟩ := h
  obtain ⟨rest', rfl⟩ := split_at2 h1 hc
  rw [h1]; exact bad_part rest' h2 hd
theorem mode1_bd {r : List UInt8} {j whole : Nat} (h : Mode1 r j whole) : whole ≤ 100000000 ∧ j ≤ r.length := by
  obtain ⟨a, rest, h1, h2, rfl, rfl⟩ := h
  exact ⟨satW_le a 0 h2 (by omega), by rw [h1]; simp⟩
theorem worth_le (k : Nat) : worth k ≤ 100 := by unfold worth; split <;> (try split) <;> (try split) <;> omega
theorem mode2_bd {r : List UInt8} {j whole part wo digits : Nat} (h : Mode2 r j whole part wo digits) : whole ≤ 100000000 ∧ part ≤ 999 ∧ wo ≤ 100 ∧ j ≤ r.length ∧ digits ≤ r.length := by
  obtain ⟨a, b, rest, h1, h2, h3, rfl, rfl, rfl, rfl, rfl⟩ := h
  refine ⟨satW_le a 0 h2 (by omega), frac3_lt b h3, worth_le _, ?_, ?_⟩ <;> rw [h1] <;> simp <;> omega
/-- What it comes to in the end: the same as the text is. -/
def EndIs (r : List UInt8) (whole part digits : Nat) : Prop :=
  (digits = 0 → goodF r = false) ∧ (digits ≠ 0 → goodF r = true ∧ (1000 * whole + part ≤ 1000000000 → magF r = 1000 * whole + part) ∧ (1000000000 < 1000 * whole + part → 1000000000 < magF r))
theorem end_of {r a b : List UInt8} (h1 : wholeOf r = a) (h2 : partOf r = b) (ha : allD a = true) (hb : allD b = true) : EndIs r (satW 0 a) (frac3 b) (a.length + b.length) := by
  have hs := satW_sat a 0 0 (Or.inl rfl)
  have hf := frac3_lt b hb
  refine ⟨fun h0 => by simp [goodF, h1, h2, h0], fun h0 => ⟨goodF_iff.2 ⟨by rw [h1]; exact ha, by rw [h2]; exact hb, by rw [h1, h2]; exact h0⟩, ?_, ?_⟩⟩
  · intro hle; unfold magF; rw [h1, h2]
    rcases hs with hs | hs
    · rw [hs]
    · omega
  · intro hgt; unfold magF; rw [h1, h2]
    rcases hs with hs | hs
    · rw [← hs]; exact hgt
    · omega
theorem mode1_end {r : List UInt8} {whole : Nat} (h : Mode1 r r.length whole) : EndIs r whole 0 r.length := by
  obtain ⟨a, rest, h1, h2, h3, rfl⟩ := h
  have : rest = [] := by
    have := congrArg List.length h1; rw [List.length_append] at this; exact List.length_eq_zero_iff.1 (by omega)
  subst this
  rw [List.append_nil] at h1; subst h1
  have hw := whole_none h2
  have := end_of hw.1 hw.2 h2 rfl
  simpa [frac3] using this
theorem mode2_end {r : List UInt8} {whole part wo digits : Nat} (h : Mode2 r r.length whole part wo digits) : EndIs r whole part digits := by
  obtain ⟨a, b, rest, h1, h2, h3, h4, rfl, rfl, rfl, rfl⟩ := h
  have : rest = [] := by
    have := congrArg List.length h1; rw [List.length_append, List.length_cons, List.length_append] at this; exact List.length_eq_zero_iff.1 (by omega)
  subst this
  rw [List.append_nil] at h1
  have hw := whole_dot b h2
  rw [← h1] at hw
  exact end_of hw.1 hw.2 h2 h3
end Go.Proofs.YtidillbpoklnjaaDoor
