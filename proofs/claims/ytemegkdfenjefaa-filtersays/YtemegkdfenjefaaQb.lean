/-
  Filters, plain: runs; one filter, and several.
-/
import Derived.Test.YtemegkdfenjefaaQa
namespace Go.Proofs.Ytemegkdfenjefaa
open Go.RowKit

/-- How often c stands at the beginning. -/
def eqRun (c : UInt8) : List UInt8 → Nat
  | [] => 0
  | d :: r => if d == c then eqRun c r + 1 else 0
/-- How many stand ahead of two that are the same. -/
def apartN : List UInt8 → Nat
  | [] => 0
  | [_] => 1
  | a :: b :: r => if a == b then 0 else apartN (b :: r) + 1
def sameN (l : List UInt8) : Nat := min (eqRun (l.headD 0) l) 128
def apN (l : List UInt8) : Nat := min (apartN l) 128
def runsF : Nat → List UInt8 → List UInt8
  | 0, _ => [128]
  | _ + 1, [] => [128]
  | f + 1, c :: r => if 1 < sameN (c :: r) then UInt8.ofNat (257 - sameN (c :: r)) :: c :: runsF f ((c :: r).drop (sameN (c :: r)))
      else UInt8.ofNat (apN (c :: r) - 1) :: ((c :: r).take (apN (c :: r)) ++ runsF f ((c :: r).drop (apN (c :: r))))
def runsM (l : List UInt8) : List UInt8 := runsF l.length l
theorem eqRun_le (c : UInt8) : ∀ l, eqRun c l ≤ l.length
  | [] => Nat.le_refl _
  | d :: r => by have := eqRun_le c r; unfold eqRun; split <;> simp <;> omega
theorem apartN_le : ∀ l, apartN l ≤ l.length
  | [] => Nat.le_refl _
  | [_] => Nat.le_refl _
  | a :: b :: r => by have := apartN_le (b :: r); unfold apartN; split <;> simp at * <;> omega
theorem sameN_pos (c : UInt8) (r : List UInt8) : 1 ≤ sameN (c :: r) := by
  unfold sameN; simp [eqRun]; omega
theorem sameN_le (l : List UInt8) : sameN l ≤ l.length ∧ sameN l ≤ 128 := by
  have := eqRun_le (l.headD 0) l; unfold sameN; omega
theorem apN_le (l : List UInt8) : apN l ≤ l.length ∧ apN l ≤ 128 := by
  have := apartN_le l; unfold apN; omega
theorem apN_pos {c : UInt8} {r : List UInt8} (h : ¬ 1 < sameN (c :: r)) : 1 ≤ apN (c :: r) := by
  cases r with
  | nil => simp [apN, apartN]
  | cons d r =>
    unfold apN apartN
    by_cases e : c = d
    · subst e; exfalso; apply h; simp [sameN, eqRun]; omega
    · rw [if_neg (by simpa using e)]; omega
theorem runsF_fuel : ∀ (f g : Nat) (l : List UInt8), l.length ≤ f → l.length ≤ g → runsF f l = runsF g l
  | 0, 0, _, _, _ => rfl
  | 0, g + 1, [], _, _ => rfl
  | f + 1, 0, [], _, _ => rfl
  | f + 1, g + 1, [], _, _ => rfl
  | f + 1, g + 1, c :: r, hf, hg => by
    have h1 := sameN_pos c r
    unfold runsF
    by_cases h : 1 < sameN (c :: r)
    · rw [if_pos h, if_pos h, runsF_fuel f g _ (by simp at *; omega) (by simp at *; omega)]
    · have h2 := apN_pos h
      rw [if_neg h, if_neg h, runsF_fuel f g _ (by simp at *; omega) (by simp at *; omega)]
theorem runsM_nil : runsM [] = [128] := rfl
theorem runsM_same {c : UInt8} {r : List UInt8} (h : 1 < sameN (c :: r)) : runsM (c :: r) = UInt8.ofNat (257 - sameN (c :: r)) :: c :: runsM ((c :: r).drop (sameN (c :: r))) := by
  unfold runsM
  rw [List.length_cons, runsF, if_pos h, runsF_fuel r.length (List.drop (sameN (c :: r)) (c :: r)).length _ (by simp; omega) (Nat.le_refl _)]
theorem runsM_apart {c : UInt8} {r : List UInt8} (h : ¬ 1 < sameN (c :: r)) : runsM (c :: r) = UInt8.ofNat (apN (c :: r) - 1) :: ((c :: r).take (apN (c :: r)) ++ runsM ((c :: r).drop (apN (c :: r)))) := by
  have h2 := apN_pos h
  unfold runsM
  rw [List.length_cons, runsF, if_neg h, runsF_fuel r.length (List.drop (apN (c :: r)) (c :: r)).length _ (by simp; omega) (Nat.le_refl _)]
theorem runsM_len : ∀ (n : Nat) (l : List UInt8), l.length ≤ n → (runsM l).length ≤ 2 * l.length + 1
  | _, [], _ => by simp [runsM_nil]
  | 0, c :: r, h => by simp at h
  | n + 1, c :: r, hl => by
    have h1 := sameN_pos c r
    have h3 := sameN_le (c :: r)
    by_cases h : 1 < sameN (c :: r)
    · have := runsM_len n ((c :: r).drop (sameN (c :: r))) (by simp at *; omega)
      rw [runsM_same h]; simp at *; omega
    · have h2 := apN_pos h
      have h4 := apN_le (c :: r)
      have := runsM_len n ((c :: r).drop (apN (c :: r))) (by simp at *; omega)
      rw [runsM_apart h]; simp at *; omega
/-- Runs are taken apart. -/
def runsT : Nat → List UInt8 → List UInt8 → Int × List UInt8
  | 0, _, _ => (5, [])
  | _ + 1, [], _ => (5, [])
  | f + 1, n :: r, b =>
    if n.toNat = 128 then (0, b)
    else if n.toNat < 128 then
      if r.length < n.toNat + 1 then (5, []) else if 20000 < (b ++ r.take (n.toNat + 1)).length then (2, []) else runsT f (r.drop (n.toNat + 1)) (b ++ r.take (n.toNat + 1))
    else
      if r.length < 1 then (5, []) else if 20000 < (b ++ List.replicate (257 - n.toNat) (r.headD 0)).length then (2, []) else runsT f (r.drop 1) (b ++ List.replicate (257 - n.toNat) (r.headD 0))
theorem runsT_fuel : ∀ (f g : Nat) (l b : List UInt8), l.length ≤ f → l.length ≤ g → runsT f l b = runsT g l b
  | 0, 0, _, _, _, _ => rfl
  | 0, g + 1, [], _, _, _ => rfl
  | f + 1, 0, [], _, _, _ => rfl
  | f + 1, g + 1, [], _, _, _ => rfl
  | f + 1, g + 1, c :: r, b, hf, hg => by
    unfold runsT
    rw [runsT_fuel f g (r.drop (c.toNat + 1)) _ (by simp at *; omega) (by simp at *; omega), runsT_fuel f g (r.drop 1) _ (by simp at *; omega) (by simp at *; omega)]
def runsTk (l b : List UInt8) : Int × List UInt8 := runsT l.length l b
theorem runsTk_nil (b : List UInt8) : runsTk [] b = (5, []) := rfl
theorem runsTk_cons (n : UInt8) (r b : List UInt8) : runsTk (n :: r) b =
    if n.toNat = 128 then (0, b)
    else if n.toNat < 128 then
      if r.length < n.toNat + 1 then (5, []) else if 20000 < (b ++ r.take (n.toNat + 1)).length then (2, []) else runsTk (r.drop (n.toNat + 1)) (b ++ r.take (n.toNat + 1))
    else
      if r.length < 1 then (5, []) else if 20000 < (b ++ List.replicate (257 - n.toNat) (r.headD 0)).length then (2, []) else runsTk (r.drop 1) (b ++ List.replicate (257 - n.toNat) (r.headD 0)) := by
  unfold runsTk
  rw [List.length_cons, runsT, runsT_fuel r.length (List.drop (n.toNat + 1) r).length _ _ (by simp) (Nat.le_refl _), runsT_fuel r.length (List.drop 1 r).length _ _ (by simp) (Nat.le_refl _)]
theorem eqRun_take (c : UInt8) : ∀ (l : List UInt8) (n : Nat), n ≤ eqRun c l → l.take n = List.replicate n c
  | _, 0, _ => by simp
  | [], n + 1, h => by simp [eqRun] at h
  | d :: r, n + 1, h => by
    unfold eqRun at h
    split at h
    · rename_i e
      rw [List.take_succ_cons, eqRun_take c r n (by omega), eq_of_beq e, List.replicate_succ]
    · omega
theorem runsTk_mk : ∀ (m : Nat) (l r b : List UInt8), l.length ≤ m → b.length + l.length ≤ 20000 → runsTk (runsM l ++ r) b = (0, b ++ l)
  | _, [], r, b, _, _ => by
    rw [runsM_nil]
    show runsTk (128 :: r) b = _
    rw [runsTk_cons, if_pos (by decide)]; simp
  | 0, c :: l, r, b, h, _ => by simp at h
  | m + 1, c :: l, r, b, hm, hb => by
    have h1 := sameN_pos c l
    have h3 := sameN_le (c :: l)
    have h4 := apN_le (c :: l)
    by_cases h : 1 < sameN (c :: l)
    · rw [runsM_same h]
      show runsTk (UInt8.ofNat (257 - sameN (c :: l)) :: c :: (runsM ((c :: l).drop (sameN (c :: l))) ++ r)) b = _
      have e : (UInt8.ofNat (257 - sameN (c :: l))).toNat = 257 - sameN (c :: l) := by simp only [UInt8.toNat_ofNat']; omega
      have e2 : List.replicate (sameN (c :: l)) c = (c :: l).take (sameN (c :: l)) := (eqRun_take c _ _ (by unfold sameN; simp; omega)).symm
      rw [runsTk_cons, e, if_neg (by omega), if_neg (by omega), if_neg (by simp), show 257 - (257 - sameN (c :: l)) = sameN (c :: l) by omega]
      simp only [List.headD_cons, List.drop_succ_cons, List.drop_zero]
      rw [e2, if_neg (by simp at *; omega), runsTk_mk m _ r _ (by simp at *; omega) (by simp at *; omega), List.append_assoc, List.take_append_drop]
    · have h2 := apN_pos h
      rw [runsM_apart h]
      show runsTk (UInt8.ofNat (apN (c :: l) - 1) :: (((c :: l).take (apN (c :: l)) ++ runsM ((c :: l).drop (apN (c :: l)))) ++ r)) b = _
      have e : (UInt8.ofNat (apN (c :: l) - 1)).toNat = apN (c :: l) - 1 := by simp only [UInt8.toNat_ofNat']; omega
      have hl : ((c :: l).take (apN (c :: l))).length = apN (c :: l) := by rw [List.length_take]; omega
      rw [runsTk_cons, e, if_neg (by omega), if_pos (by omega), show apN (c :: l) - 1 + 1 = apN (c :: l) by omega, List.append_assoc]
      rw [List.take_left' hl, List.drop_left' hl]
      rw [if_neg (by simp at *; omega), if_neg (by rw [List.length_append, hl]; omega)]
      rw [runsTk_mk m _ r _ (by simp at *; omega) (by rw [List.length_append, hl, List.length_drop]; omega), List.append_assoc, List.take_append_drop]

/-- The filters' names. -/
def hexN : ByteArray := ⟨#[65, 83, 67, 73, 73, 72, 101, 120, 68, 101, 99, 111, 100, 101]⟩
def fiveN : ByteArray := ⟨#[65, 83, 67, 73, 73, 56, 53, 68, 101, 99, 111, 100, 101]⟩
def runsN : ByteArray := ⟨#[82, 117, 110, 76, 101, 110, 103, 116, 104, 68, 101, 99, 111, 100, 101]⟩
def fit (r : Int × List UInt8) : Int × List UInt8 := if r.1 ≠ 0 then (r.1, []) else if 20000 < r.2.length then (2, []) else r
/-- What one filter makes. -/
def mkBy (n : ByteArray) (l : List UInt8) : Int × List UInt8 :=
  if n = hexN then fit (0, hexMk l) else if n = fiveN then fit (0, fiveMk l) else if n = runsN then fit (0, runsM l) else (9, [])
def hexT (l : List UInt8) : Int × List UInt8 := ((hexTk l none [] 0).1, (hexTk l none [] 0).2.1)
def tkBy (n : ByteArray) (l : List UInt8) : Int × List UInt8 :=
  if n = hexN then fit (hexT l) else if n = fiveN then fit (fiveTk l [] []) else if n = runsN then fit (runsTk l []) else (9, [])
/-- By one behind the other, the last one first. -/
def mkAll : List ByteArray → List UInt8 → Int × List UInt8
  | [], l => (0, l)
  | n :: ns, l => if (mkAll ns l).1 = 0 then mkBy n (mkAll ns l).2 else (( mkAll ns l).1, [])
def tkAll : List ByteArray → List UInt8 → Int × List UInt8
  | [], l => (0, l)
  | n :: ns, l => if (tkBy n l).1 = 0 then tkAll ns (tkBy n l).2 else ((tkBy n l).1, [])
def chkF (ns : List ByteArray) (l : List UInt8) : Bool := decide (8 < ns.length) || decide (20000 < l.length)
def makeF (ns : List ByteArray) (l : List UInt8) : Int × List UInt8 := if chkF ns l then (2, []) else mkAll ns l
def takeF (ns : List ByteArray) (l : List UInt8) : Int × List UInt8 := if chkF ns l then (2, []) else tkAll ns l
theorem fit_ok {l : List UInt8} (h : (fit (0, l)).1 = 0) : fit (0, l) = (0, l) ∧ l.length ≤ 20000 := by
  unfold fit at *
  by_cases e : 20000 < l.length
  · simp [e] at h
  · simp [e]; omega
theorem back_one {n : ByteArray} {l : List UInt8} (hl : l.length ≤ 20000) (h : (mkBy n l).1 = 0) : (mkBy n l).2.length ≤ 20000 ∧ tkBy n (mkBy n l).2 = (0, l) := by
  have hf : fit (0, l) = (0, l) := by unfold fit; simp [hl]
  unfold mkBy at *
  unfold tkBy
  by_cases h1 : n = hexN
  · rw [if_pos h1] at *
    obtain ⟨e, e2⟩ := fit_ok h
    rw [e]
    refine ⟨e2, ?_⟩
    have q := hexTk_mk l [] [] 0
    show (if n = hexN then _ else if n = fiveN then _ else if n = runsN then _ else _) = _
    rw [if_pos h1]
    show fit (hexT (hexMk l)) = _
    unfold hexT hexMk
    rw [q]; exact hf
  rw [if_neg h1] at *
  by_cases h2 : n = fiveN
  · rw [if_pos h2] at *
    obtain ⟨e, e2⟩ := fit_ok h
    rw [e]
    refine ⟨e2, ?_⟩
    have q := fiveTk_mk l [] []
    rw [List.append_nil] at q
    show (if n = hexN then _ else if n = fiveN then _ else if n = runsN then _ else _) = _
    rw [if_neg h1]
    rw [if_pos h2]
    show fit (fiveTk (fiveMk l) [] []) = _
    rw [q]; exact hf
  rw [if_neg h2] at *
  by_cases h3 : n = runsN
  · rw [if_pos h3] at *
    obtain ⟨e, e2⟩ := fit_ok h
    rw [e]
    refine ⟨e2, ?_⟩
    have q := runsTk_mk _ l [] [] (Nat.le_refl _) (by simpa using hl)
    rw [List.append_nil] at q
    show (if n = hexN then _ else if n = fiveN then _ else if n = runsN then _ else _) = _
    rw [if_neg h1]
    rw [if_neg h2]
    rw [if_pos h3]
    show fit (runsTk (runsM l) []) = _
    rw [q]; exact hf
  rw [if_neg h3] at h
  cases h
theorem back_all : ∀ (ns : List ByteArray) (l : List UInt8), l.length ≤ 20000 → (mkAll ns l).1 = 0 → (mkAll ns l).2.length ≤ 20000 ∧ tkAll ns (mkAll ns l).2 = (0, l)
  | [], l, hl, _ => ⟨hl, rfl⟩
  | n :: ns, l, hl, h => by
    unfold mkAll at *
    by_cases e : (mkAll ns l).1 = 0
    · rw [if_pos e] at *
      obtain ⟨i1, i2⟩ := back_all ns l hl e
      obtain ⟨j1, j2⟩ := back_one i1 h
      refine ⟨j1, ?_⟩
      unfold tkAll
      rw [j2, if_pos rfl]; exact i2
    · rw [if_neg e] at h; exact absurd h e
/-- What filters made they take apart. -/
theorem back {ns : List ByteArray} {l : List UInt8} (h : (makeF ns l).1 = 0) : takeF ns (makeF ns l).2 = (0, l) := by
  unfold makeF at *
  by_cases e : chkF ns l = true
  · rw [if_pos e] at h; cases h
  · rw [if_neg e] at *
    have e' := e
    unfold chkF at e'
    simp at e'
    obtain ⟨h1, h2⟩ := back_all ns l e'.2 h
    unfold takeF
    rw [if_neg (by unfold chkF; simp; omega)]; exact h2
theorem fit_bad {r : Int × List UInt8} (h : (fit r).1 ≠ 0) : (fit r).2 = [] := by
  unfold fit at *
  split
  · rfl
  · split
    · rfl
    · rename_i h1 h2; rw [if_neg h1, if_neg h2] at h; exact absurd h h1
theorem mkBy_bad {n : ByteArray} {l : List UInt8} (h : (mkBy n l).1 ≠ 0) : (mkBy n l).2 = [] := by
  unfold mkBy at *
  (repeat' split) <;> simp_all only [if_true, if_false] <;> exact fit_bad h
theorem make_bad {ns : List ByteArray} {l : List UInt8} (h : (makeF ns l).1 ≠ 0) : (makeF ns l).2 = [] := by
  unfold makeF at *
  split
  · rfl
  · rename_i e
    rw [if_neg e] at h
    cases ns with
    | nil => exact absurd rfl h
    | cons n ns =>
      unfold mkAll at *
      split
      · rename_i e2; rw [if_pos e2] at h; exact mkBy_bad h
      · rfl
theorem fit_len (r : Int × List UInt8) : (fit r).2.length ≤ 20000 := by
  unfold fit; split
  · simp
  · split
    · simp
    · omega
theorem mkBy_len (n : ByteArray) (l : List UInt8) : (mkBy n l).2.length ≤ 20000 := by
  unfold mkBy; (repeat' split) <;> first | exact fit_len _ | simp
theorem tkBy_len (n : ByteArray) (l : List UInt8) : (tkBy n l).2.length ≤ 20000 := by
  unfold tkBy; (repeat' split) <;> first | exact fit_len _ | simp
end Go.Proofs.Ytemegkdfenjefaa
