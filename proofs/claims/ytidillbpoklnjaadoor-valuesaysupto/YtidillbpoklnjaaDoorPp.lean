/-
  Plain: what a text is as a number (A2), by its whole digits and those behind the point; two ways to reckon it that stop at great numbers.
-/
import Derived.Test.YtidillbpoklnjaaDoorPl
import Derived.Lib.IndexMore
namespace Go.Proofs.YtidillbpoklnjaaDoor
open Go.RowKit

def isD (c : UInt8) : Bool := decide (48 ≤ c.toNat) && decide (c.toNat ≤ 57)
def allD (l : List UInt8) : Bool := l.all isD
def valD (acc : Nat) : List UInt8 → Nat
  | [] => acc
  | c :: l => valD (10 * acc + (c.toNat - 48)) l
def satD (acc : Nat) : List UInt8 → Nat
  | [] => acc
  | c :: l => if 1000000000 < acc then acc else satD (10 * acc + (c.toNat - 48)) l
def satW (acc : Nat) : List UInt8 → Nat
  | [] => acc
  | c :: l => satW (if acc < 10000000 then 10 * acc + (c.toNat - 48) else acc) l
def wholeOf (r : List UInt8) : List UInt8 := r.takeWhile (· != 46)
def partOf (r : List UInt8) : List UInt8 := (r.dropWhile (· != 46)).drop 1
def goodF (r : List UInt8) : Bool := allD (wholeOf r) && allD (partOf r) && !((wholeOf r).length + (partOf r).length == 0)
def worth (k : Nat) : Nat := if k = 0 then 100 else if k = 1 then 10 else if k = 2 then 1 else 0
def frac3 : List UInt8 → Nat
  | [] => 0
  | [a] => 100 * (a.toNat - 48)
  | [a, b] => 100 * (a.toNat - 48) + 10 * (b.toNat - 48)
  | a :: b :: c :: _ => 100 * (a.toNat - 48) + 10 * (b.toNat - 48) + (c.toNat - 48)
def magF (r : List UInt8) : Nat := 1000 * valD 0 (wholeOf r) + frac3 (partOf r)
/-- What is behind a sign, if there is one. -/
def bodyF : List UInt8 → List UInt8
  | [] => []
  | c :: l => if c = 45 ∨ c = 43 then l else c :: l
def negF : List UInt8 → Bool
  | [] => false
  | c :: _ => c == 45
def parseE (s : List UInt8) : Int := if goodF (bodyF s) = false then 4 else if 1000000000 < magF (bodyF s) then 1 else 0
def parseN (s : List UInt8) : Int := if parseE s = 0 then (if negF s then -(magF (bodyF s) : Int) else magF (bodyF s)) else 0

theorem valD_le : ∀ (l : List UInt8) (acc : Nat), acc ≤ valD acc l
  | [], _ => Nat.le_refl _
  | c :: l, acc => by have := valD_le l (10 * acc + (c.toNat - 48)); unfold valD; omega
theorem valD_mono : ∀ (l : List UInt8) (a b : Nat), a ≤ b → valD a l ≤ valD b l
  | [], _, _, h => h
  | c :: l, a, b, h => valD_mono l _ _ (by omega)
def Sat (m x y : Nat) : Prop := x = y ∨ (m < x ∧ m < y)
theorem satD_sat : ∀ (l : List UInt8) (x y : Nat), Sat 1000000000 x y → Sat 1000000000 (satD x l) (valD y l)
  | [], _, _, h => h
  | c :: l, x, y, h => by
    unfold satD valD
    split
    · rename_i hx
      refine Or.inr ⟨hx, ?_⟩
      have := valD_le l (10 * y + (c.toNat - 48))
      rcases h with rfl | h <;> omega
    · rename_i hx
      rcases h with rfl | h
      · exact satD_sat l _ _ (Or.inl rfl)
      · omega
theorem satD_le : ∀ (l : List UInt8) (x : Nat), allD l = true → x ≤ 10000000009 → satD x l ≤ 10000000009
  | [], _, _, h => h
  | c :: l, x, hd, h => by
    unfold satD
    simp only [allD, List.all_cons, Bool.and_eq_true, isD, decide_eq_true_eq] at hd
    split
    · exact h
    · exact satD_le l _ hd.2 (by omega)
theorem satW_sat : ∀ (l : List UInt8) (x y : Nat), Sat 9999999 x y → Sat 9999999 (satW x l) (valD y l)
  | [], _, _, h => h
  | c :: l, x, y, h => by
    unfold satW valD
    refine satW_sat l _ _ ?_
    split
    · rcases h with rfl | h
      · exact Or.inl rfl
      · omega
    · rcases h with rfl | h
      · exact Or.inr (by omega)
      · exact Or.inr (by omega)
theorem satW_le : ∀ (l : List UInt8) (x : Nat), allD l = true → x ≤ 100000000 → satW x l ≤ 100000000
  | [], _, _, h => h
  | c :: l, x, hd, h => by
    unfold satW
    simp only [allD, List.all_cons, Bool.and_eq_true, isD, decide_eq_true_eq] at hd
    refine satW_le l _ hd.2 ?_
    split <;> omega
theorem satW_snoc : ∀ (l : List UInt8) (x : Nat) (c : UInt8), satW x (l ++ [c]) = if satW x l < 10000000 then 10 * satW x l + (c.toNat - 48) else satW x l
  | [], _, _ => rfl
  | _ :: l, _, c => by rw [List.cons_append, satW, satW]; exact satW_snoc l _ c
theorem frac3_snoc : ∀ (l : List UInt8) (c : UInt8), frac3 (l ++ [c]) = frac3 l + worth l.length * (c.toNat - 48)
  | [], c => by simp [frac3, worth]
  | [a], c => by simp [frac3, worth]
  | [a, b], c => by simp [frac3, worth]
  | a :: b :: d :: l, c => by simp [frac3, worth]
theorem frac3_lt : ∀ (l : List UInt8), allD l = true → frac3 l ≤ 999
  | [], _ => by simp [frac3]
  | [a], h => by simp [allD, isD] at h; simp [frac3]; omega
  | [a, b], h => by simp [allD, isD] at h; simp [frac3]; omega
  | a :: b :: d :: l, h => by simp only [allD, List.all_cons, Bool.and_eq_true, isD, decide_eq_true_eq] at h; simp only [frac3]; omega
theorem worth_step (k : Nat) : worth k / 10 = worth (k + 1) := by
  unfold worth
  by_cases h0 : k = 0
  · subst h0; rfl
  · by_cases h1 : k = 1
    · subst h1; rfl
    · by_cases h2 : k = 2
      · subst h2; rfl
      · rw [if_neg h0, if_neg h1, if_neg h2, if_neg (by omega), if_neg (by omega), if_neg (by omega)]

theorem not46 {c : UInt8} (h : isD c = true) : c ≠ 46 := by
  rintro rfl; simp [isD] at h
theorem no46 {a : List UInt8} (h : allD a = true) : ∀ c ∈ a, (c != 46) = true := by
  intro c hc
  have := not46 (List.all_eq_true.1 h c hc)
  simpa using this
theorem whole_none {a : List UInt8} (h : allD a = true) : wholeOf a = a ∧ partOf a = [] := by
  have h' := no46 h
  constructor
  · have := List.takeWhile_append_of_pos (l₂ := []) h'
    simpa [wholeOf] using this
  · have := List.dropWhile_append_of_pos (l₂ := []) h'
    have h2 : a.dropWhile (· != 46) = [] := by simpa using this
    unfold partOf; rw [h2]; rfl
theorem whole_dot {a : List UInt8} (b : List UInt8) (h : allD a = true) : wholeOf (a ++ 46 :: b) = a ∧ partOf (a ++ 46 :: b) = b := by
  have h' := no46 h
  constructor
  · unfold wholeOf; rw [List.takeWhile_append_of_pos h']; simp
  · unfold partOf; rw [List.dropWhile_append_of_pos h']; simp
/-- A byte that is neither a digit nor the point, behind digits: no number. -/
theorem bad_whole {a : List UInt8} {c : UInt8} (b : List UInt8) (h : allD a = true) (hc : isD c = false) (h46 : c ≠ 46) : goodF (a ++ c :: b) = false := by
  have h' := no46 h
  have : allD (wholeOf (a ++ c :: b)) = false := by
    unfold wholeOf; rw [List.takeWhile_append_of_pos h', List.takeWhile_cons_of_pos (by simpa using h46)]
    simp [allD, hc]
  simp [goodF, this]
theorem bad_part {a b : List UInt8} {c : UInt8} (d : List UInt8) (h : allD a = true) (hc : isD c = false) : goodF (a ++ 46 :: (b ++ c :: d)) = false := by
  have h2 := (whole_dot (b ++ c :: d) h).2
  have : allD (partOf (a ++ 46 :: (b ++ c :: d))) = false := by rw [h2]; simp [allD, hc]
  simp [goodF, this]
theorem cut_dot : ∀ r : List UInt8, (Lib.cut r [46]).1 = wholeOf r ∧ (Lib.cut r [46]).2.1 = partOf r
  | [] => ⟨rfl, rfl⟩
  | c :: l => by
    have ih := cut_dot l
    have hge := Lib.index_ge l [46]
    by_cases hc : c = 46
    · subst hc
      have hi : Lib.index (46 :: l) [46] = 0 := by simp [Lib.index]
      unfold Lib.cut; rw [hi]; simp [wholeOf, partOf]
    · have hp : ([46] : List UInt8).isPrefixOf (c :: l) = false := by
        simp [List.isPrefixOf]; exact fun h => hc h.symm
      have hw : wholeOf (c :: l) = c :: wholeOf l := by unfold wholeOf; rw [List.takeWhile_cons_of_pos (by simpa using hc)]
      have hq : partOf (c :: l) = partOf l := by unfold partOf; rw [List.dropWhile_cons_of_pos (by simpa using hc)]
      rw [hw, hq]
      unfold Lib.cut at *
      by_cases hl : Lib.index l [46] = -1
      · have hi : Lib.index (c :: l) [46] = -1 := by rw [Lib.index, hp]; simp [hl]
        rw [hl] at ih; rw [hi]
        simp at *; exact ih
      · have hi : Lib.index (c :: l) [46] = Lib.index l [46] + 1 := by rw [Lib.index, hp]; simp [hl]
        rw [if_pos (by omega)] at ih
        rw [if_pos (by omega), hi]
        have e : (Lib.index l [46] + 1).toNat = (Lib.index l [46]).toNat + 1 := by omega
        rw [e]
        simp at *
        refine ⟨ih.1, ?_⟩
        rw [← ih.2]
theorem satD_snoc : ∀ (l : List UInt8) (x : Nat) (c : UInt8), satD x (l ++ [c]) = satD (satD x l) [c]
  | [], _, _ => rfl
  | d :: l, x, c => by
    rw [List.cons_append, satD, satD.eq_def x (d :: l)]
    dsimp only
    by_cases h : 1000000000 < x
    · rw [if_pos h, if_pos h]; simp [satD, h]
    · rw [if_neg h, if_neg h]; exact satD_snoc l _ c
theorem satD_append : ∀ (l m : List UInt8) (x : Nat), satD x (l ++ m) = satD (satD x l) m
  | [], _, _ => rfl
  | d :: l, m, x => by
    rw [List.cons_append, satD, satD.eq_def x (d :: l)]
    dsimp only
    by_cases h : 1000000000 < x
    · rw [if_pos h, if_pos h]
      cases m with
      | nil => rfl
      | cons c m => rw [satD, if_pos h]
    · rw [if_neg h, if_neg h]; exact satD_append l m _
theorem valD_append : ∀ (l m : List UInt8) (x : Nat), valD x (l ++ m) = valD (valD x l) m
  | [], _, _ => rfl
  | _ :: l, m, _ => valD_append l m _
theorem z48 : (48 : UInt8).toNat - 48 = 0 := rfl
theorem valD3 (w : Nat) (a b c : UInt8) : valD w [a, b, c] = 1000 * w + (100 * (a.toNat - 48) + 10 * (b.toNat - 48) + (c.toNat - 48)) := by
  show 10 * (10 * (10 * w + (a.toNat - 48)) + (b.toNat - 48)) + (c.toNat - 48) = _
  generalize a.toNat - 48 = x
  generalize b.toNat - 48 = y
  generalize c.toNat - 48 = z
  omega
theorem mag_val (w : Nat) (p : List UInt8) : valD w (p.take 3 ++ List.replicate (3 - (p.take 3).length) 48) = 1000 * w + frac3 p := by
  rcases p with _ | ⟨a, _ | ⟨b, _ | ⟨c, l⟩⟩⟩
  · have e : ([] : List UInt8).take 3 ++ List.replicate (3 - (([] : List UInt8).take 3).length) 48 = [48, 48, 48] := by simp [List.replicate]
    rw [e, valD3, z48]; simp only [frac3]
  · have e : [a].take 3 ++ List.replicate (3 - ([a].take 3).length) 48 = [a, 48, 48] := by simp [List.replicate]
    rw [e, valD3, z48]; simp only [frac3]; omega
  · have e : [a, b].take 3 ++ List.replicate (3 - ([a, b].take 3).length) 48 = [a, b, 48] := by simp
    rw [e, valD3, z48]; simp only [frac3]; omega
  · have e : (a :: b :: c :: l).take 3 ++ List.replicate (3 - ((a :: b :: c :: l).take 3).length) 48 = [a, b, c] := by simp
    rw [e, valD3]; simp only [frac3]
/-- What the program reckons, round by round, against what the text is. -/
theorem sat_mag (r : List UInt8) : Sat 1000000000 (satD (satD (satD 0 (wholeOf r)) ((partOf r).take 3)) (List.replicate (3 - ((partOf r).take 3).length) 48)) (magF r) := by
  rw [← satD_append, ← satD_append]
  have h := satD_sat (wholeOf r ++ ((partOf r).take 3 ++ List.replicate (3 - ((partOf r).take 3).length) 48)) 0 0 (Or.inl rfl)
  rw [valD_append, mag_val] at h
  exact h
theorem bodyF_neg (l : List UInt8) : bodyF (45 :: l) = l := by simp [bodyF]
theorem bodyF_pos (l : List UInt8) : bodyF (43 :: l) = l := by simp [bodyF]
theorem bodyF_else {c : UInt8} (l : List UInt8) (h1 : c ≠ 45) (h2 : c ≠ 43) : bodyF (c :: l) = c :: l := by simp [bodyF, h1, h2]
theorem goodF_iff {r : List UInt8} : goodF r = true ↔ allD (wholeOf r) = true ∧ allD (partOf r) = true ∧ (wholeOf r).length + (partOf r).length ≠ 0 := by
  simp [goodF, and_assoc]
end Go.Proofs.YtidillbpoklnjaaDoor
