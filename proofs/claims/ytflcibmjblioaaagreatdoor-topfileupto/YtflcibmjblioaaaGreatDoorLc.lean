/-
  Joined: La, Lb, Lc.
-/
import Derived.Test.YtflcibmjblioaaaGreatDoorRc
import Derived.WalkKit
import Derived.OpenShut
import Derived.Test.YtflcibmjblioaaaGreatDoorPq
import Derived.Lib.AtoiAllCases

/-
  Words of a text that is told piece by piece, plainly.
-/
namespace Go.Proofs.YtflcibmjblioaaaGreatDoor
open Go.RowKit
set_option maxRecDepth 100000

def isWd (c : UInt8) : Bool := !isBl c && !isSg c
theorem skipL_bl : ∀ (ws r : List UInt8), (∀ c ∈ ws, isBl c = true ∧ c ≠ 37) → skipL (ws ++ r) false = ws.length + skipL r false
  | [], r, _ => by simp
  | c :: ws, r, h => by
    have q := skipL_bl ws r (fun x hx => h x (by simp [hx]))
    obtain ⟨h1, h2⟩ := h c (by simp)
    have h3 : (c == 37) = false := by simpa using h2
    have e : skipL (c :: (ws ++ r)) false = if !(c == 37 || (false && c != 10 && c != 13)) && !isBl c then 0 else skipL (ws ++ r) (c == 37 || (false && c != 10 && c != 13)) + 1 := rfl
    show skipL (c :: (ws ++ r)) false = _
    rw [e, h3, h1]
    simp only [Bool.false_or, Bool.false_and, Bool.not_false, Bool.not_true, Bool.and_false, Bool.false_eq_true, if_false, q, List.length_cons]
    omega
theorem skipL_stop {c : UInt8} {r : List UInt8} (h1 : isBl c = false) (h2 : c ≠ 37) : skipL (c :: r) false = 0 := by
  have h3 : (c == 37) = false := by simpa using h2
  unfold skipL
  rw [h3, h1]
  simp
theorem exL (s : ByteArray) (p : Nat) : (s.extract p s.size).data.toList = s.data.toList.drop p := by
  have e : s.size = s.data.toList.length := by simp
  rw [e]
  simp only [ByteArray.data_extract, Array.toList_extract, List.extract_eq_take_drop]
  rw [List.take_of_length_le (by rw [List.length_drop]; exact Nat.le_refl _)]
theorem exT (s : ByteArray) (n : Nat) : (s.extract 0 n).data.toList = s.data.toList.take n := by simp
theorem szL (s : ByteArray) : s.size = s.data.toList.length := by simp
theorem bytesE {s : ByteArray} {l : List UInt8} (h : s.data.toList = l) : s = ⟨l.toArray⟩ := by
  apply Go.WideShapes.bytes_inj
  simpa using h
theorem skipP_at {s : ByteArray} {pre ws r : List UInt8} (he : s.data.toList = pre ++ (ws ++ r)) (hw : ∀ c ∈ ws, isBl c = true ∧ c ≠ 37) (hr : skipL r false = 0) : skipP s pre.length = pre.length + ws.length := by
  unfold skipP
  rw [he, List.drop_left, skipL_bl _ _ hw, hr]; omega
/-- The word that is read from a on, and where it ends. -/
def TokF (s : ByteArray) (a : Nat) (tok : List UInt8) (b : Nat) : Prop := ∃ p, skipP s a = p ∧ p ≤ s.size ∧ wordP s p = ⟨tok.toArray⟩ ∧ p + tok.length = b ∧ b ≤ s.size ∧ a ≤ s.size
theorem wordL_at {tok suf : List UInt8} (ht : ∀ c ∈ tok, isWd c = true) (hf : suf.takeWhile isWd = []) : wordL (tok ++ suf) = tok.length := by
  unfold wordL
  have e : (fun c => !isBl c && !isSg c) = isWd := rfl
  rw [e, List.takeWhile_append_of_pos ht, hf, List.append_nil]
theorem wordP_at {s : ByteArray} {pre tok suf : List UInt8} (he : s.data.toList = pre ++ (tok ++ suf)) (ht : ∀ c ∈ tok, isWd c = true) (hf : suf.takeWhile isWd = []) : wordP s pre.length = ⟨tok.toArray⟩ := by
  unfold wordP
  rw [he, List.drop_left, wordL_at ht hf]
  apply bytesE
  rw [show (s.extract pre.length (pre.length + tok.length)).data.toList = (s.data.toList.drop pre.length).take tok.length by simp [List.extract_eq_take_drop], he, List.drop_left, List.take_left]
theorem wd_head {c : UInt8} (h : isWd c = true) : isBl c = false ∧ c ≠ 37 := by
  unfold isWd at h
  simp only [Bool.and_eq_true, Bool.not_eq_true'] at h
  refine ⟨h.1, fun e => ?_⟩
  subst e
  exact absurd h.2 (by decide)
theorem tokF {s : ByteArray} {pre ws tok suf : List UInt8} {a b : Nat} (he : s.data.toList = pre ++ (ws ++ (tok ++ suf))) (hw : ∀ c ∈ ws, isBl c = true ∧ c ≠ 37) (ht : ∀ c ∈ tok, isWd c = true) (hne : tok ≠ []) (hf : suf.takeWhile isWd = []) (ha : a = pre.length) (hb : b = pre.length + ws.length + tok.length) : TokF s a tok b := by
  subst ha hb
  have hl := congrArg List.length he
  simp only [List.length_append] at hl
  have hz := szL s
  obtain ⟨c, t, rfl⟩ : ∃ c t, tok = c :: t := by cases tok with | nil => exact absurd rfl hne | cons c t => exact ⟨c, t, rfl⟩
  obtain ⟨h1, h2⟩ := wd_head (ht c (by simp))
  refine ⟨pre.length + ws.length, skipP_at he hw (skipL_stop h1 h2), by omega, ?_, rfl, by omega, by omega⟩
  have e2 : s.data.toList = (pre ++ ws) ++ ((c :: t) ++ suf) := by rw [he, List.append_assoc]
  have q := wordP_at e2 ht hf
  rw [List.length_append] at q
  exact q
end Go.Proofs.YtflcibmjblioaaaGreatDoor

/-
  The text of a table of a file, plainly: numbers, entries, spans.
-/
namespace Go.Proofs.YtflcibmjblioaaaGreatDoor
open Go.RowKit
set_option maxRecDepth 100000

theorem valD_ge : ∀ (l : List UInt8) (acc : Nat), acc ≤ valD acc l
  | [], _ => Nat.le_refl _
  | c :: l, acc => by
    have := valD_ge l (10 * acc + (c.toNat - 48))
    show acc ≤ valD (10 * acc + (c.toNat - 48)) l
    omega
theorem parse10 : ∀ (l : List UInt8) (acc : Nat), allD l = true → valD acc l ≤ 100000000000000 → Lib.parseUint10 acc l = .ok (valD acc l)
  | [], _, _, _ => rfl
  | c :: l, acc, h, hb => by
    unfold allD at h
    rw [List.all_cons, Bool.and_eq_true] at h
    obtain ⟨h1, h2⟩ := h
    unfold isD at h1
    simp only [Bool.and_eq_true, decide_eq_true_eq] at h1
    have hb' : valD (10 * acc + (c.toNat - 48)) l ≤ 100000000000000 := hb
    have hg := valD_ge l (10 * acc + (c.toNat - 48))
    have ih := parse10 l (10 * acc + (c.toNat - 48)) h2 hb'
    rw [Lib.parseUint10, if_pos h1, if_neg (by omega), if_neg (by omega), Nat.mul_comm acc 10, ih]
    rfl
/-- What digits are read as. -/
theorem atoi_digits {l : List UInt8} (hne : l ≠ []) (hd : allD l = true) (hb : valD 0 l ≤ 100000000000000) : Lib.atoiAll l = .ok (valD 0 l : Int) := by
  obtain ⟨c, r, rfl⟩ : ∃ c r, l = c :: r := by cases l with | nil => exact absurd rfl hne | cons c r => exact ⟨c, r, rfl⟩
  have h1 : isD c = true := by unfold allD at hd; rw [List.all_cons, Bool.and_eq_true] at hd; exact hd.1
  unfold isD at h1
  simp only [Bool.and_eq_true, decide_eq_true_eq] at h1
  rw [Lib.atoiAll_plain c r (by omega) (by omega)]
  unfold Lib.parseMag
  rw [if_neg (by simp), parse10 _ 0 hd hb]
  unfold Lib.signless
  simp only
  rw [if_neg (by omega)]
/-- Ten digits. -/
def pad10 (n : Nat) : List UInt8 := List.replicate (10 - (Lib.decDigits n).length) 48 ++ Lib.decDigits n
theorem valD_zeros (l : List UInt8) : ∀ k, valD 0 (List.replicate k 48 ++ l) = valD 0 l
  | 0 => rfl
  | k + 1 => by
    rw [List.replicate_succ, List.cons_append]
    show valD (10 * 0 + ((48 : UInt8).toNat - 48)) (List.replicate k 48 ++ l) = _
    exact valD_zeros l k
theorem pad10_val (n : Nat) : valD 0 (pad10 n) = n := by unfold pad10; rw [valD_zeros, dec_val]
theorem pad10_all (n : Nat) : allD (pad10 n) = true := by
  have := dec_all n
  unfold pad10 allD at *
  rw [List.all_append, this, Bool.and_true, List.all_replicate]
  simp [isD]
theorem dec_len5 {n : Nat} (h : n < 100000) : (Lib.decDigits n).length ≤ 5 := by
  rw [Lib.decDigits]
  split
  · simp
  rw [Lib.decDigits]
  split
  · simp
  rw [Lib.decDigits]
  split
  · simp
  rw [Lib.decDigits]
  split
  · simp
  rw [Lib.decDigits]
  split
  · simp
  · omega
theorem pad10_len {n : Nat} (h : n < 100000) : (pad10 n).length = 10 := by
  have := dec_len5 h
  unfold pad10
  rw [List.length_append, List.length_replicate]
  omega
def entT (n : Nat) : List UInt8 := pad10 n ++ [32, 48, 48, 48, 48, 48, 32, 110, 32, 10]
def spT (x : Nat × List Nat) : List UInt8 := Lib.decDigits x.1 ++ 32 :: (Lib.decDigits x.2.length ++ 10 :: x.2.flatMap entT)
def spsT (sp : List (Nat × List Nat)) : List UInt8 := sp.flatMap spT
def xrefW : List UInt8 := [120, 114, 101, 102]
def trailW : List UInt8 := [116, 114, 97, 105, 108, 101, 114]
def startW : List UInt8 := [115, 116, 97, 114, 116, 120, 114, 101, 102]
def eofW : List UInt8 := [37, 37, 69, 79, 70]
/-- What stands behind the last words. -/
def endT (a : Nat) : List UInt8 := startW ++ 10 :: (Lib.decDigits a ++ 10 :: (eofW ++ [10]))
def tabT (sp : List (Nat × List Nat)) (last : List UInt8) (a : Nat) : List UInt8 := xrefW ++ 10 :: (spsT sp ++ (trailW ++ 10 :: (last ++ 10 :: endT a)))
/-- How many follow each other. -/
def runL (a : Nat) : List Nat → Nat
  | [] => 0
  | x :: r => if x = a + 1 then runL (a + 1) r + 1 else 0
theorem runL_le (a : Nat) : ∀ l, runL a l ≤ l.length
  | [] => Nat.le_refl _
  | x :: r => by
    have := runL_le (a + 1) r
    rw [runL]
    split
    · simpa using this
    · exact Nat.zero_le _
theorem runL_at : ∀ (l : List Nat) (a i : Nat), i < runL a l → l[i]? = some (a + 1 + i)
  | [], a, i, h => by simp [runL] at h
  | x :: r, a, i, h => by
    rw [runL] at h
    split at h
    · rename_i e
      subst e
      match i with
      | 0 => rfl
      | i + 1 =>
        have := runL_at r (a + 1) i (by omega)
        rw [List.getElem?_cons_succ, this]
        congr 1
        omega
    · omega
theorem runL_end : ∀ (l : List Nat) (a : Nat), l[runL a l]? ≠ some (a + 1 + runL a l)
  | [], a => by simp
  | x :: r, a => by
    rw [runL]
    split
    · have := runL_end r (a + 1)
      rw [List.getElem?_cons_succ]
      rw [show a + 1 + (runL (a + 1) r + 1) = a + 1 + 1 + runL (a + 1) r by omega]
      exact this
    · rename_i e
      simp
      exact fun q => e (by omega)
/-- Spans of numbers that follow each other, with their places. -/
def grpF (g : Nat → Nat) : Nat → List Nat → List (Nat × List Nat)
  | 0, _ => []
  | _ + 1, [] => []
  | f + 1, a :: r => (a, (a :: r.take (runL a r)).map g) :: grpF g f (r.drop (runL a r))
/-- What spans tell: numbers, and places. -/
def told (sp : List (Nat × List Nat)) : List (Nat × Nat) := sp.flatMap fun x => x.2.zipIdx.map fun y => (x.1 + y.2, y.1)
theorem zip_told (g : Nat → Nat) : ∀ (l : List Nat) (a k : Nat), (∀ i n, l[i]? = some n → n = a + k + i) → ((l.map g).zipIdx k).map (fun y => (a + y.2, y.1)) = l.map fun n => (n, g n)
  | [], _, _, _ => rfl
  | n :: l, a, k, h => by
    have e : n = a + k := by have := h 0 n rfl; omega
    have ih := zip_told g l a (k + 1) (fun i m hm => by have := h (i + 1) m hm; omega)
    rw [List.map_cons, List.zipIdx_cons, List.map_cons, ih, List.map_cons]
    simp only
    rw [e]
theorem told_grp (g : Nat → Nat) : ∀ (f : Nat) (l : List Nat), l.length ≤ f → told (grpF g f l) = l.map fun n => (n, g n)
  | 0, l, h => by
    have : l = [] := List.eq_nil_of_length_eq_zero (by omega)
    subst this; rfl
  | f + 1, [], _ => rfl
  | f + 1, a :: r, h => by
    have hl : r.length ≤ f := by simpa using h
    have ih := told_grp g f (r.drop (runL a r)) (by rw [List.length_drop]; omega)
    have e1 : told (grpF g (f + 1) (a :: r)) = (((a :: r.take (runL a r)).map g).zipIdx.map fun y => (a + y.2, y.1)) ++ told (grpF g f (r.drop (runL a r))) := by
      unfold told
      rw [grpF, List.flatMap_cons]
    rw [e1, ih, zip_told g (a :: r.take (runL a r)) a 0 (fun i n hn => ?_), ← List.map_append, List.cons_append, List.take_append_drop]
    match i, hn with
    | 0, hn => injection hn with hn; omega
    | i + 1, hn =>
      rw [List.getElem?_cons_succ] at hn
      have hi : i < runL a r := by
        have := (List.getElem?_eq_some_iff.1 hn).1
        rw [List.length_take] at this
        omega
      rw [List.getElem?_take_of_lt hi, runL_at r a i hi] at hn
      injection hn with hn
      omega
theorem grp_small (g : Nat → Nat) : ∀ (f : Nat) (l : List Nat), (∀ n ∈ l, n < 100 ∧ g n < 100000) → l.length ≤ 99 → ∀ x ∈ grpF g f l, x.1 < 100 ∧ x.2.length < 100 ∧ ∀ p ∈ x.2, p < 100000
  | 0, _, _, _, x, hx => by simp [grpF] at hx
  | f + 1, [], _, _, x, hx => by simp [grpF] at hx
  | f + 1, a :: r, h, hl, x, hx => by
    rw [grpF] at hx
    rcases List.mem_cons.1 hx with rfl | hx
    · refine ⟨(h a (by simp)).1, ?_, fun p hp => ?_⟩
      · simp only [List.map_cons, List.length_cons, List.length_map, List.length_take]
        simp only [List.length_cons] at hl
        omega
      · obtain ⟨n, hn, rfl⟩ := List.mem_map.1 hp
        refine (h n ?_).2
        rcases List.mem_cons.1 hn with rfl | hn
        · simp
        · exact List.mem_cons_of_mem _ (List.mem_of_mem_take hn)
    · exact grp_small g f _ (fun n hn => h n (List.mem_cons_of_mem _ (List.mem_of_mem_drop hn))) (by rw [List.length_drop]; simp only [List.length_cons] at hl; omega) x hx
end Go.Proofs.YtflcibmjblioaaaGreatDoor

/-
  The words of a table, one by one.
-/
namespace Go.Proofs.YtflcibmjblioaaaGreatDoor
open Go.RowKit
set_option maxRecDepth 100000

def nulW : List UInt8 := [48, 48, 48, 48, 48]
/-- The words of an entry, of entries, of a span, of spans: from where on, and where they end. -/
def RdEnt (s : ByteArray) (a p b : Nat) : Prop := ∃ b1 b2, TokF s a (pad10 p) b1 ∧ TokF s b1 nulW b2 ∧ TokF s b2 [110] b
def RdEnts (s : ByteArray) : Nat → List Nat → Nat → Prop
  | a, [], b => a = b
  | a, p :: ps, b => ∃ c, RdEnt s a p c ∧ RdEnts s c ps b
def RdSpan (s : ByteArray) (a : Nat) (x : Nat × List Nat) (b : Nat) : Prop := ∃ b1 b2, TokF s a (Lib.decDigits x.1) b1 ∧ TokF s b1 (Lib.decDigits x.2.length) b2 ∧ RdEnts s b2 x.2 b
def RdSps (s : ByteArray) : Nat → List (Nat × List Nat) → Nat → Prop
  | a, [], b => a = b
  | a, x :: sp, b => ∃ c, RdSpan s a x c ∧ RdSps s c sp b
def Blk (ws : List UInt8) : Prop := ∀ c ∈ ws, isBl c = true ∧ c ≠ 37
theorem digit_wd : ∀ {c : UInt8}, isD c = true → isWd c = true := by
  have q : ∀ n : Fin 256, isD (UInt8.ofNat n.val) = true → isWd (UInt8.ofNat n.val) = true := by decide +kernel
  intro c h
  have e : UInt8.ofNat c.toNat = c := by simp
  have := q ⟨c.toNat, c.toNat_lt⟩
  rw [e] at this
  exact this h
theorem digits_wd {l : List UInt8} (h : allD l = true) : ∀ c ∈ l, isWd c = true := fun c hc => digit_wd ((List.all_eq_true.1 h) c hc)
theorem pad10_ne (n : Nat) : pad10 n ≠ [] := by
  unfold pad10
  intro e
  exact dec_ne n (List.append_eq_nil_iff.1 e).2
theorem ents_rd (s : ByteArray) : ∀ (ps : List Nat) (pre ws suf : List UInt8), s.data.toList = pre ++ (ws ++ (ps.flatMap entT ++ suf)) → Blk ws → ∃ pre' ws', RdEnts s pre.length ps pre'.length ∧ s.data.toList = pre' ++ (ws' ++ suf) ∧ Blk ws'
  | [], pre, ws, suf, h, hw => ⟨pre, ws, rfl, h, hw⟩
  | p :: ps, pre, ws, suf, h, hw => by
    have e : (p :: ps).flatMap entT ++ suf = pad10 p ++ ([32] ++ (nulW ++ ([32] ++ ([110] ++ ([32, 10] ++ (ps.flatMap entT ++ suf)))))) := by
      rw [List.flatMap_cons]
      simp [entT, nulW]
    rw [e] at h
    have t1 : TokF s pre.length (pad10 p) (pre ++ ws ++ pad10 p).length := tokF h hw (digits_wd (pad10_all p)) (pad10_ne p) (by rfl) rfl (by simp only [List.length_append])
    have h2 : s.data.toList = (pre ++ ws ++ pad10 p) ++ ([32] ++ (nulW ++ ([32] ++ ([110] ++ ([32, 10] ++ (ps.flatMap entT ++ suf)))))) := by rw [h]; simp only [List.append_assoc]
    have t2 : TokF s (pre ++ ws ++ pad10 p).length nulW (pre ++ ws ++ pad10 p ++ [32] ++ nulW).length := tokF h2 (by decide) (by decide) (by decide) (by rfl) rfl (by simp only [List.length_append])
    have h3 : s.data.toList = (pre ++ ws ++ pad10 p ++ [32] ++ nulW) ++ ([32] ++ ([110] ++ ([32, 10] ++ (ps.flatMap entT ++ suf)))) := by rw [h]; simp only [List.append_assoc]
    have t3 : TokF s (pre ++ ws ++ pad10 p ++ [32] ++ nulW).length [110] (pre ++ ws ++ pad10 p ++ [32] ++ nulW ++ [32] ++ [110]).length := tokF h3 (by decide) (by decide) (by decide) (by rfl) rfl (by simp only [List.length_append])
    have h4 : s.data.toList = (pre ++ ws ++ pad10 p ++ [32] ++ nulW ++ [32] ++ [110]) ++ ([32, 10] ++ (ps.flatMap entT ++ suf)) := by rw [h]; simp only [List.append_assoc]
    obtain ⟨pre', ws', r1, r2, r3⟩ := ents_rd s ps _ _ suf h4 (by unfold Blk; decide)
    exact ⟨pre', ws', ⟨_, ⟨_, _, t1, t2, t3⟩, r1⟩, r2, r3⟩
theorem sps_rd (s : ByteArray) : ∀ (sp : List (Nat × List Nat)) (pre ws suf : List UInt8), s.data.toList = pre ++ (ws ++ (spsT sp ++ suf)) → Blk ws → ∃ pre' ws', RdSps s pre.length sp pre'.length ∧ s.data.toList = pre' ++ (ws' ++ suf) ∧ Blk ws'
  | [], pre, ws, suf, h, hw => ⟨pre, ws, rfl, h, hw⟩
  | x :: sp, pre, ws, suf, h, hw => by
    have e : spsT (x :: sp) ++ suf = Lib.decDigits x.1 ++ ([32] ++ (Lib.decDigits x.2.length ++ ([10] ++ (x.2.flatMap entT ++ (spsT sp ++ suf))))) := by
      unfold spsT
      rw [List.flatMap_cons]
      simp [spT]
    rw [e] at h
    have t1 : TokF s pre.length (Lib.decDigits x.1) (pre ++ ws ++ Lib.decDigits x.1).length := tokF h hw (digits_wd (dec_all _)) (dec_ne _) (by rfl) rfl (by simp only [List.length_append])
    have h2 : s.data.toList = (pre ++ ws ++ Lib.decDigits x.1) ++ ([32] ++ (Lib.decDigits x.2.length ++ ([10] ++ (x.2.flatMap entT ++ (spsT sp ++ suf))))) := by rw [h]; simp only [List.append_assoc]
    have t2 : TokF s (pre ++ ws ++ Lib.decDigits x.1).length (Lib.decDigits x.2.length) (pre ++ ws ++ Lib.decDigits x.1 ++ [32] ++ Lib.decDigits x.2.length).length := tokF h2 (by decide) (digits_wd (dec_all _)) (dec_ne _) (by rfl) rfl (by simp only [List.length_append])
    have h3 : s.data.toList = (pre ++ ws ++ Lib.decDigits x.1 ++ [32] ++ Lib.decDigits x.2.length) ++ ([10] ++ (x.2.flatMap entT ++ (spsT sp ++ suf))) := by rw [h]; simp only [List.append_assoc]
    obtain ⟨p1, w1, r1, r2, r3⟩ := ents_rd s x.2 _ _ _ h3 (by unfold Blk; decide)
    obtain ⟨p2, w2, q1, q2, q3⟩ := sps_rd s sp _ _ suf r2 r3
    exact ⟨p2, w2, ⟨_, ⟨_, _, t1, t2, r1⟩, q1⟩, q2, q3⟩
end Go.Proofs.YtflcibmjblioaaaGreatDoor
