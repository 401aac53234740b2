/-
  Joined: Fd, Pp, Fe.
-/
import Derived.Test.YtflcibmjblioaaaGreatDoorFc
import Derived.Test.YtflcibmjblioaaaGreatDoorFa
import Derived.Lib.IndexMore
import Derived.PlainAid
import Derived.Deep.QuietTactic
import Derived.BigQuiet

/-
  Contracts: the text of any number, of the program and of the document's answer: the same.
-/
namespace Go.Proofs.YtflcibmjblioaaaGreatDoor
open Go.RowKit
set_option maxRecDepth 100000

theorem fixTxt_nonneg (u : Nat) : fixTxt (u : Int) = Lib.decDigits (u / 1000) ++ frac (u % 1000) := by
  unfold fixTxt; rw [if_neg (by omega)]; simp
theorem fixTxt_neg (u : Nat) (h : 1 ≤ u) : fixTxt (-(u : Int)) = 45 :: (Lib.decDigits (u / 1000) ++ frac (u % 1000)) := by
  unfold fixTxt; rw [if_pos (by omega)]; simp
theorem body_len (u : Nat) (h : u ≤ 1000000000) : (Lib.decDigits (u / 1000) ++ frac (u % 1000)).length ≤ 30 := by
  have h1 := dec_len' (u / 1000) (by omega)
  have h2 := frac_len (u % 1000)
  rw [List.length_append]; omega

theorem below_grow (w : World) (k : Nat) (os : Array Obj) : Below w.heap.size w (Sort.grow (w.drewN k) os) :=
  ⟨rfl, rfl, rfl, by simp [Sort.grow, World.drewN], fun i hi => by simp [Sort.grow, World.drewN, Array.getElem?_append, hi]⟩
theorem fraction_any (m : Nat) (w : World) (h : m < 1000) :
    Calls Tryz.prog 160 #[.int .i64 m] w fun e w' => e = .returned (.string ⟨(frac m).toArray⟩) ∧ Below w.heap.size w w' := by
  by_cases h0 : m = 0
  · subst h0
    refine (fraction_zero w).mono ?_
    rintro e w' ⟨rfl, rfl⟩
    exact ⟨rfl, Below.refl _ _⟩
  · exact fraction_pos m w h0 h

theorem ret2_str {a b : ByteArray} {v : Value} (h : a = b) : Ending.returned (.tuple #[.string a, v]) = .returned (.tuple #[.string b, v]) := by rw [h]
theorem cat3 (a b c : List UInt8) : (⟨a.toArray⟩ ++ ⟨b.toArray⟩ ++ ⟨c.toArray⟩ : ByteArray) = ⟨(a ++ (b ++ c)).toArray⟩ := by rw [ba_append, ba_append, List.append_assoc]
abbrev Tab (w : World) : Prop := Lib.TabIs Tryz.prog w "internal/strconv.uint64pow10" .u64 Lib.pow10Tab

set_option maxHeartbeats 400000 in
theorem text_nonneg (u : Nat) (w : World) (htab : Tab w) (hu : u ≤ 1000000000) :
    Calls Tryz.prog 105 #[.int .i64 u] w fun e w' => e = .returned (.tuple #[.string ⟨(Lib.decDigits (u / 1000) ++ frac (u % 1000)).toArray⟩, .nilIface]) ∧ Below w.heap.size w w' := by
  have hc := fun w => check_ok (u : Int) w (by omega) (by omega)
  have hi := Tryz.strconv_Itoa ((u / 1000 : Nat) : Int) (by omega) (by omega) w htab
  rw [Lib.itoa_nonneg, show ((u / 1000 : Nat) : Int) = (u : Int) / 1000 by omega] at hi
  have hf := fun w => fraction_any (u % 1000) w (by omega)
  rw [show ((u % 1000 : Nat) : Int) = (u : Int) % 1000 by omega] at hf
  have l1 := dec_len' (u / 1000) (by omega)
  have l2 := frac_len (u % 1000)
  generalize Lib.decDigits (u / 1000) = x at *
  generalize frac (u % 1000) = y at *
  go_enter Tryz.func105, Tryz.ntmps105
  go_wp2_with (first
    | (go_at_call 156; refine (hc _).mono ?_; rintro e w' ⟨rfl, rfl⟩)
    | (go_at_call 27; refine hi.mono ?_; rintro e w' ⟨rfl, k, os, hw1⟩)
    | (go_at_call 160; refine (hf _).mono ?_; rintro e w' ⟨rfl, hb⟩))
  go_ret2
  exact ⟨ret2_str (cat3 [] x y), (below_grow _ k os).trans (hb.mono (below_grow _ k os).size)⟩

set_option maxHeartbeats 400000 in
theorem text_neg (u : Nat) (w : World) (htab : Tab w) (hu : u ≤ 1000000000) (h1 : 1 ≤ u) :
    Calls Tryz.prog 105 #[.int .i64 (-(u : Int))] w fun e w' => e = .returned (.tuple #[.string ⟨(45 :: (Lib.decDigits (u / 1000) ++ frac (u % 1000))).toArray⟩, .nilIface]) ∧ Below w.heap.size w w' := by
  have hc := fun w => check_ok (-(u : Int)) w (by omega) (by omega)
  have hi := Tryz.strconv_Itoa ((u / 1000 : Nat) : Int) (by omega) (by omega) w htab
  rw [Lib.itoa_nonneg, show ((u / 1000 : Nat) : Int) = (u : Int) / 1000 by omega] at hi
  have hf := fun w => fraction_any (u % 1000) w (by omega)
  rw [show ((u % 1000 : Nat) : Int) = (u : Int) % 1000 by omega] at hf
  have l1 := dec_len' (u / 1000) (by omega)
  have l2 := frac_len (u % 1000)
  generalize Lib.decDigits (u / 1000) = x at *
  generalize frac (u % 1000) = y at *
  have hneg : -(u : Int) < 0 := by omega
  go_enter Tryz.func105, Tryz.ntmps105
  go_wp2_with (first
    | (go_at_call 156; refine (hc _).mono ?_; rintro e w' ⟨rfl, rfl⟩)
    | (go_at_call 27; refine hi.mono ?_; rintro e w' ⟨rfl, k, os, hw1⟩)
    | (go_at_call 160; refine (hf _).mono ?_; rintro e w' ⟨rfl, hb⟩))
  go_ret2
  exact ⟨ret2_str (cat3 [45] x y), (below_grow _ k os).trans (hb.mono (below_grow _ k os).size)⟩

theorem text_ok (n : Int) (w : World) (htab : Tab w) (h : okF n = true) :
    Calls Tryz.prog 105 #[.int .i64 n] w fun e w' => e = .returned (.tuple #[.string ⟨(fixTxt n).toArray⟩, .nilIface]) ∧ Below w.heap.size w w' := by
  have h' := okF_iff.1 h
  by_cases hn : 0 ≤ n
  · obtain ⟨u, rfl⟩ : ∃ u : Nat, n = u := ⟨n.toNat, by omega⟩
    rw [fixTxt_nonneg]; exact text_nonneg u w htab (by omega)
  · obtain ⟨u, rfl⟩ : ∃ u : Nat, n = -(u : Int) := ⟨n.natAbs, by omega⟩
    rw [fixTxt_neg u (by omega)]; exact text_neg u w htab (by omega) (by omega)

set_option maxHeartbeats 400000 in
theorem text_bad (n : Int) (w : World) (h : okF n = false) :
    Calls Tryz.prog 105 #[.int .i64 n] w fun e w' => e = .returned (.tuple #[.string ⟨#[]⟩, errV 1]) ∧ w' = w := by
  have hc : ∀ w, Calls Tryz.prog 156 #[.int .i64 n] w fun e w' => e = .returned (.iface 50 (.int .i64 1)) ∧ w' = w := fun w => by have := check_any n w; rwa [flt_bad h, errN_1] at this
  go_enter Tryz.func105, Tryz.ntmps105
  go_wp2_with (go_at_call 156; refine (hc _).mono ?_; rintro e w' ⟨rfl, rfl⟩)
  go_ret2
  exact ⟨rfl, rfl⟩
end Go.Proofs.YtflcibmjblioaaaGreatDoor

/-
  Plain: what a text is as a number (A2), by its whole digits and those behind the point; two ways to reckon it that stop at great numbers.
-/
namespace Go.Proofs.YtflcibmjblioaaaGreatDoor
open Go.RowKit

def isD (c : UInt8) : Bool := decide (48 ≤ c.toNat) && decide (c.toNat ≤ 57)
def allD (l : List UInt8) : Bool := l.all isD
def valD (acc : Nat) : List UInt8 → Nat
  | [] => acc
  | c :: l => valD (10 * acc + (c.toNat - 48)) l
def satD (acc : Nat) : List UInt8 → Nat
  | [] => acc
  | c :: l => if 1000000000 < acc then acc else satD (10 * acc + (c.toNat - 48)) l
def wholeOf (r : List UInt8) : List UInt8 := r.takeWhile (· != 46)
def partOf (r : List UInt8) : List UInt8 := (r.dropWhile (· != 46)).drop 1
def goodF (r : List UInt8) : Bool := allD (wholeOf r) && allD (partOf r) && !((wholeOf r).length + (partOf r).length == 0)
def frac3 : List UInt8 → Nat
  | [] => 0
  | [a] => 100 * (a.toNat - 48)
  | [a, b] => 100 * (a.toNat - 48) + 10 * (b.toNat - 48)
  | a :: b :: c :: _ => 100 * (a.toNat - 48) + 10 * (b.toNat - 48) + (c.toNat - 48)
def magF (r : List UInt8) : Nat := 1000 * valD 0 (wholeOf r) + frac3 (partOf r)
/-- What is behind a sign, if there is one. -/
def bodyF : List UInt8 → List UInt8
  | [] => []
  | c :: l => if c = 45 ∨ c = 43 then l else c :: l
def negF : List UInt8 → Bool
  | [] => false
  | c :: _ => c == 45
def parseE (s : List UInt8) : Int := if goodF (bodyF s) = false then 4 else if 1000000000 < magF (bodyF s) then 1 else 0
def parseN (s : List UInt8) : Int := if parseE s = 0 then (if negF s then -(magF (bodyF s) : Int) else magF (bodyF s)) else 0

theorem valD_le : ∀ (l : List UInt8) (acc : Nat), acc ≤ valD acc l
  | [], _ => Nat.le_refl _
  | c :: l, acc => by have := valD_le l (10 * acc + (c.toNat - 48)); unfold valD; omega
def Sat (m x y : Nat) : Prop := x = y ∨ (m < x ∧ m < y)
theorem satD_sat : ∀ (l : List UInt8) (x y : Nat), Sat 1000000000 x y → Sat 1000000000 (satD x l) (valD y l)
  | [], _, _, h => h
  | c :: l, x, y, h => by
    unfold satD valD
    split
    · rename_i hx
      refine Or.inr ⟨hx, ?_⟩
      have := valD_le l (10 * y + (c.toNat - 48))
      rcases h with rfl | h <;> omega
    · rename_i hx
      rcases h with rfl | h
      · exact satD_sat l _ _ (Or.inl rfl)
      · omega
theorem satD_le : ∀ (l : List UInt8) (x : Nat), allD l = true → x ≤ 10000000009 → satD x l ≤ 10000000009
  | [], _, _, h => h
  | c :: l, x, hd, h => by
    unfold satD
    simp only [allD, List.all_cons, Bool.and_eq_true, isD, decide_eq_true_eq] at hd
    split
    · exact h
    · exact satD_le l _ hd.2 (by omega)
theorem not46 {c : UInt8} (h : isD c = true) : c ≠ 46 := by
  rintro rfl; simp [isD] at h
theorem no46 {a : List UInt8} (h : allD a = true) : ∀ c ∈ a, (c != 46) = true := by
  intro c hc
  have := not46 (List.all_eq_true.1 h c hc)
  simpa using this
theorem whole_none {a : List UInt8} (h : allD a = true) : wholeOf a = a ∧ partOf a = [] := by
  have h' := no46 h
  constructor
  · have := List.takeWhile_append_of_pos (l₂ := []) h'
    simpa [wholeOf] using this
  · have := List.dropWhile_append_of_pos (l₂ := []) h'
    have h2 : a.dropWhile (· != 46) = [] := by simpa using this
    unfold partOf; rw [h2]; rfl
theorem whole_dot {a : List UInt8} (b : List UInt8) (h : allD a = true) : wholeOf (a ++ 46 :: b) = a ∧ partOf (a ++ 46 :: b) = b := by
  have h' := no46 h
  constructor
  · unfold wholeOf; rw [List.takeWhile_append_of_pos h']; simp
  · unfold partOf; rw [List.dropWhile_append_of_pos h']; simp
theorem cut_dot : ∀ r : List UInt8, (Lib.cut r [46]).1 = wholeOf r ∧ (Lib.cut r [46]).2.1 = partOf r
  | [] => ⟨rfl, rfl⟩
  | c :: l => by
    have ih := cut_dot l
    have hge := Lib.index_ge l [46]
    by_cases hc : c = 46
    · subst hc
      have hi : Lib.index (46 :: l) [46] = 0 := by simp [Lib.index]
      unfold Lib.cut; rw [hi]; simp [wholeOf, partOf]
    · have hp : ([46] : List UInt8).isPrefixOf (c :: l) = false := by
        simp [List.isPrefixOf]; exact fun h => hc h.symm
      have hw : wholeOf (c :: l) = c :: wholeOf l := by unfold wholeOf; rw [List.takeWhile_cons_of_pos (by simpa using hc)]
      have hq : partOf (c :: l) = partOf l := by unfold partOf; rw [List.dropWhile_cons_of_pos (by simpa using hc)]
      rw [hw, hq]
      unfold Lib.cut at *
      by_cases hl : Lib.index l [46] = -1
      · have hi : Lib.index (c :: l) [46] = -1 := by rw [Lib.index, hp]; simp [hl]
        rw [hl] at ih; rw [hi]
        simp at *; exact ih
      · have hi : Lib.index (c :: l) [46] = Lib.index l [46] + 1 := by rw [Lib.index, hp]; simp [hl]
        rw [if_pos (by omega)] at ih
        rw [if_pos (by omega), hi]
        have e : (Lib.index l [46] + 1).toNat = (Lib.index l [46]).toNat + 1 := by omega
        rw [e]
        simp at *
        refine ⟨ih.1, ?_⟩
        rw [← ih.2]
theorem satD_snoc : ∀ (l : List UInt8) (x : Nat) (c : UInt8), satD x (l ++ [c]) = satD (satD x l) [c]
  | [], _, _ => rfl
  | d :: l, x, c => by
    rw [List.cons_append, satD, satD.eq_def x (d :: l)]
    dsimp only
    by_cases h : 1000000000 < x
    · rw [if_pos h, if_pos h]; simp [satD, h]
    · rw [if_neg h, if_neg h]; exact satD_snoc l _ c
theorem satD_append : ∀ (l m : List UInt8) (x : Nat), satD x (l ++ m) = satD (satD x l) m
  | [], _, _ => rfl
  | d :: l, m, x => by
    rw [List.cons_append, satD, satD.eq_def x (d :: l)]
    dsimp only
    by_cases h : 1000000000 < x
    · rw [if_pos h, if_pos h]
      cases m with
      | nil => rfl
      | cons c m => rw [satD, if_pos h]
    · rw [if_neg h, if_neg h]; exact satD_append l m _
theorem valD_append : ∀ (l m : List UInt8) (x : Nat), valD x (l ++ m) = valD (valD x l) m
  | [], _, _ => rfl
  | _ :: l, m, _ => valD_append l m _
theorem z48 : (48 : UInt8).toNat - 48 = 0 := rfl
theorem valD3 (w : Nat) (a b c : UInt8) : valD w [a, b, c] = 1000 * w + (100 * (a.toNat - 48) + 10 * (b.toNat - 48) + (c.toNat - 48)) := by
  show 10 * (10 * (10 * w + (a.toNat - 48)) + (b.toNat - 48)) + (c.toNat - 48) = _
  generalize a.toNat - 48 = x
  generalize b.toNat - 48 = y
  generalize c.toNat - 48 = z
  omega
theorem mag_val (w : Nat) (p : List UInt8) : valD w (p.take 3 ++ List.replicate (3 - (p.take 3).length) 48) = 1000 * w + frac3 p := by
  rcases p with _ | ⟨a, _ | ⟨b, _ | ⟨c, l⟩⟩⟩
  · have e : ([] : List UInt8).take 3 ++ List.replicate (3 - (([] : List UInt8).take 3).length) 48 = [48, 48, 48] := by simp [List.replicate]
    rw [e, valD3, z48]; simp only [frac3]
  · have e : [a].take 3 ++ List.replicate (3 - ([a].take 3).length) 48 = [a, 48, 48] := by simp [List.replicate]
    rw [e, valD3, z48]; simp only [frac3]; omega
  · have e : [a, b].take 3 ++ List.replicate (3 - ([a, b].take 3).length) 48 = [a, b, 48] := by simp
    rw [e, valD3, z48]; simp only [frac3]; omega
  · have e : (a :: b :: c :: l).take 3 ++ List.replicate (3 - ((a :: b :: c :: l).take 3).length) 48 = [a, b, c] := by simp
    rw [e, valD3]; simp only [frac3]
/-- What the program reckons, round by round, against what the text is. -/
theorem sat_mag (r : List UInt8) : Sat 1000000000 (satD (satD (satD 0 (wholeOf r)) ((partOf r).take 3)) (List.replicate (3 - ((partOf r).take 3).length) 48)) (magF r) := by
  rw [← satD_append, ← satD_append]
  have h := satD_sat (wholeOf r ++ ((partOf r).take 3 ++ List.replicate (3 - ((partOf r).take 3).length) 48)) 0 0 (Or.inl rfl)
  rw [valD_append, mag_val] at h
  exact h
theorem bodyF_neg (l : List UInt8) : bodyF (45 :: l) = l := by simp [bodyF]
theorem bodyF_pos (l : List UInt8) : bodyF (43 :: l) = l := by simp [bodyF]
theorem bodyF_else {c : UInt8} (l : List UInt8) (h1 : c ≠ 45) (h2 : c ≠ 43) : bodyF (c :: l) = c :: l := by simp [bodyF, h1, h2]
theorem goodF_iff {r : List UInt8} : goodF r = true ↔ allD (wholeOf r) = true ∧ allD (partOf r) = true ∧ (wholeOf r).length + (partOf r).length ≠ 0 := by
  simp [goodF, and_assoc]
end Go.Proofs.YtflcibmjblioaaaGreatDoor

/-
  Contracts of the reading of numbers: are all bytes digits, digits written behind a number.
-/
namespace Go.Proofs.YtflcibmjblioaaaGreatDoor
open Go.RowKit
set_option maxRecDepth 100000

theorem all_stop (s : ByteArray) {k : Nat} (h : k < s.size) (ht : s.data.toList.take (k + 1) = s.data.toList.take k ++ [s[k]]) (hd : isD s[k] = false) : false = allD s.data.toList := by
  have h1 : allD (s.data.toList.take (k + 1)) = false := by rw [ht]; simp [allD, hd]
  cases h2 : allD s.data.toList
  · rfl
  · exfalso
    rw [show allD (s.data.toList.take (k + 1)) = true from List.all_eq_true.2 fun x hx => List.all_eq_true.1 h2 x (List.mem_of_mem_take hx)] at h1
    cases h1
theorem all_go (s : ByteArray) {k : Nat} (h : k < s.size) (ht : s.data.toList.take (k + 1) = s.data.toList.take k ++ [s[k]]) (ha : allD (s.data.toList.take k) = true) (hd : isD s[k] = true) : allD (s.data.toList.take (k + 1)) = true := by
  rw [ht]; unfold allD at *; rw [List.all_append, ha]; simp [hd]

set_option maxHeartbeats 400000 in
theorem allDigits_any (s : ByteArray) (w : World) (hs : s.size ≤ 1000000) :
    Calls Tryz.prog 185 #[.string s] w fun e w' => e = .returned (.bool (allD s.data.toList)) ∧ w' = w := by
  go_enter Tryz.func185, Tryz.ntmps185
  go_wp2
  go_loop [6] (fun i => ∃ k : Nat, k ≤ s.size ∧ i = .int .i64 k ∧ allD (s.data.toList.take k) = true) (fun i => s.size - (intOf i).toNat)
  case atStart => exact ⟨0, Nat.zero_le _, rfl, rfl⟩
  case round =>
    obtain ⟨k, hk, rfl, hd⟩ := hrel
    have HD := hid hd
    clear hd
    by_cases hlt : k < s.size
    · have HT := hid (take_snoc s k hlt)
      by_cases h1 : (s[k].toNat : Int) < 48
      · go_wp2
        go_ret
        exact ⟨ret_bool (all_stop s hlt HT.out (by simp [isD]; omega)), rfl⟩
      · by_cases h2 : (57 : Int) < (s[k].toNat : Int)
        · go_wp2
          go_ret
          exact ⟨ret_bool (all_stop s hlt HT.out (by simp [isD]; omega)), rfl⟩
        · go_wp2
          go_round
          case rel => exact ⟨k + 1, by omega, by go_num, all_go s hlt HT.out HD.out (by simp [isD]; omega)⟩
          case measure => simp [intOf]; omega
    · go_wp2
      go_ret
      exact ⟨ret_bool (by have := HD.out; rw [List.take_of_length_le (by simp; omega)] at this; exact this.symm), rfl⟩

theorem satD_big {m : Nat} (h : 1000000000 < m) (l : List UInt8) : satD m l = m := by
  cases l with
  | nil => rfl
  | cons c l => rw [satD, if_pos h]
theorem drop_cons (s : ByteArray) (k : Nat) (h : k < s.size) : s.data.toList.drop k = s[k] :: s.data.toList.drop (k + 1) := by
  rw [List.drop_eq_getElem_cons (by simpa using h)]; rfl
theorem digit_of (s : ByteArray) (hd : allD s.data.toList = true) (k : Nat) (h : k < s.size) : 48 ≤ s[k].toNat ∧ s[k].toNat ≤ 57 := by
  have := List.all_eq_true.1 hd s[k] (by
    have : s[k] = s.data.toList[k]'(by simpa using h) := rfl
    rw [this]; exact List.getElem_mem _)
  simpa [isD] using this
set_option maxHeartbeats 400000 in
theorem withDigits_any (n : Nat) (s : ByteArray) (w : World) (hn : n ≤ 10000000009) (hs : s.size ≤ 1000000) (hd : allD s.data.toList = true) :
    Calls Tryz.prog 186 #[.int .i64 n, .string s] w fun e w' => e = .returned (.int .i64 (satD n s.data.toList : Nat)) ∧ w' = w := by
  go_enter Tryz.func186, Tryz.ntmps186
  go_wp2
  go_loop [0, 8] (fun t i => ∃ k m : Nat, k ≤ s.size ∧ i = .int .i64 k ∧ t = .int .i64 m ∧ satD n s.data.toList = satD m (s.data.toList.drop k) ∧ m ≤ 10000000009) (fun _ i => s.size - (intOf i).toNat)
  case atStart => exact ⟨0, n, Nat.zero_le _, rfl, rfl, rfl, hn⟩
  case round =>
    obtain ⟨k, m, hk, rfl, rfl, he, hm⟩ := hrel
    have HE := hid he
    clear he
    by_cases hlt : k < s.size
    · have HT := hid (drop_cons s k hlt)
      obtain ⟨c1, c2⟩ := digit_of s hd k hlt
      by_cases hbig : 1000000000 < m
      · have hbig' : (1000000000 : Int) < m := by omega
        go_wp2
        go_ret
        exact ⟨ret_int (by rw [HE.out, satD_big hbig]), rfl⟩
      · have hbig' : ¬ (1000000000 : Int) < m := by omega
        have c1' : (48 : Int) ≤ s[k].toNat := by omega
        have c2' : (s[k].toNat : Int) ≤ 57 := by omega
        go_wp2
        go_round
        case rel =>
          refine ⟨k + 1, 10 * m + (s[k].toNat - 48), by omega, by go_num, by congr 1; omega, ?_, by omega⟩
          rw [HE.out, HT.out, satD, if_neg hbig]
        case measure => simp [intOf]; omega
    · go_wp2
      go_ret
      exact ⟨ret_int (by rw [HE.out, List.drop_of_length_le (by simp; omega)]; rfl), rfl⟩
end Go.Proofs.YtflcibmjblioaaaGreatDoor
