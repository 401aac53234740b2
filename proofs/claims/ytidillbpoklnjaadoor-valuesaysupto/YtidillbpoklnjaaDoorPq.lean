/-
  Plain: a number's text is read as it.
-/
import Derived.Test.YtidillbpoklnjaaDoorPt
import Derived.Test.YtidillbpoklnjaaDoorPp
namespace Go.Proofs.YtidillbpoklnjaaDoor
open Go.RowKit

theorem dgt_val {d : Nat} (h : d < 10) : (dgt d).toNat - 48 = d := by simp [dgt]; omega
theorem dgt_isD {d : Nat} (h : d < 10) : isD (dgt d) = true := by simp [isD, dgt]; omega
theorem dec_one {n : Nat} (h : n < 10) : Lib.decDigits n = [dgt n] := Lib.decDigits_one h
theorem dec_all (n : Nat) : allD (Lib.decDigits n) = true := by
  induction n using Nat.strongRecOn with
  | ind n ih =>
    by_cases h : n < 10
    · rw [dec_one h]; simp [allD, dgt_isD h]
    · rw [dec_big h]; unfold allD at *; rw [List.all_append, ih (n / 10) (by omega)]; simp [dgt_isD (show n % 10 < 10 by omega)]
theorem dec_val (n : Nat) : valD 0 (Lib.decDigits n) = n := by
  induction n using Nat.strongRecOn with
  | ind n ih =>
    by_cases h : n < 10
    · rw [dec_one h]
      show 10 * 0 + ((dgt n).toNat - 48) = n
      rw [dgt_val h]; omega
    · rw [dec_big h, valD_append, ih (n / 10) (by omega)]
      show 10 * (n / 10) + ((dgt (n % 10)).toNat - 48) = n
      rw [dgt_val (by omega)]; omega
theorem dec_ne (n : Nat) : Lib.decDigits n ≠ [] := by
  by_cases h : n < 10
  · rw [dec_one h]; simp
  · rw [dec_big h]; simp
theorem digs_all : ∀ (f n : Nat), n < 1000 → allD (digs f n) = true
  | 0, _, _ => rfl
  | f + 1, n, h => by
    rw [digs]; split
    · rfl
    · have := digs_all f (n % 100 * 10) (by omega)
      unfold allD at *; rw [List.all_cons, this, dgt_isD (by omega)]; rfl
theorem digs_frac (m : Nat) (h : m < 1000) : frac3 (digs 3 m) = m := by
  by_cases h0 : m = 0
  · subst h0; rfl
  rw [digs_step 2 m h0]
  by_cases h1 : m % 100 * 10 = 0
  · rw [h1, digs_zero]; simp only [frac3, dgt_val (show m / 100 < 10 by omega)]; omega
  rw [digs_step 1 _ h1]
  by_cases h2 : m % 100 * 10 % 100 * 10 = 0
  · rw [h2, digs_zero]; simp only [frac3, dgt_val (show m / 100 < 10 by omega), dgt_val (show m % 100 * 10 / 100 < 10 by omega)]; omega
  rw [digs_step 0 _ h2]
  simp only [frac3, dgt_val (show m / 100 < 10 by omega), dgt_val (show m % 100 * 10 / 100 < 10 by omega), dgt_val (show m % 100 * 10 % 100 * 10 / 100 < 10 by omega)]; omega
theorem text_parts (q m : Nat) (h : m < 1000) : wholeOf (Lib.decDigits q ++ frac m) = Lib.decDigits q ∧ allD (partOf (Lib.decDigits q ++ frac m)) = true ∧ frac3 (partOf (Lib.decDigits q ++ frac m)) = m := by
  by_cases h0 : m = 0
  · subst h0
    have := whole_none (dec_all q)
    rw [show frac 0 = [] from rfl, List.append_nil, this.1, this.2]
    exact ⟨rfl, rfl, rfl⟩
  · have := whole_dot (digs 3 m) (dec_all q)
    rw [frac_pos h0, this.1, this.2]
    exact ⟨rfl, digs_all 3 m h, digs_frac m h⟩
theorem text_good (q m : Nat) (h : m < 1000) : goodF (Lib.decDigits q ++ frac m) = true ∧ magF (Lib.decDigits q ++ frac m) = 1000 * q + m := by
  obtain ⟨h1, h2, h3⟩ := text_parts q m h
  have hne := dec_ne q
  have hl : 0 < (Lib.decDigits q).length := List.length_pos_iff.2 hne
  refine ⟨goodF_iff.2 ⟨by rw [h1]; exact dec_all q, h2, by rw [h1]; omega⟩, ?_⟩
  unfold magF; rw [h1, h3, dec_val]
theorem body_dec (q m : Nat) : bodyF (Lib.decDigits q ++ frac m) = Lib.decDigits q ++ frac m ∧ negF (Lib.decDigits q ++ frac m) = false := by
  cases hd : Lib.decDigits q with
  | nil => exact absurd hd (dec_ne q)
  | cons c l =>
    have hc : isD c = true := by have := dec_all q; rw [hd] at this; exact List.all_eq_true.1 this c (by simp)
    have h1 : c ≠ 45 := by rintro rfl; simp [isD] at hc
    have h2 : c ≠ 43 := by rintro rfl; simp [isD] at hc
    exact ⟨bodyF_else _ h1 h2, by simp [negF, h1]⟩
/-- A number's text is read as it. -/
theorem read_text (n : Int) (h : okF n = true) : parseE (fixTxt n) = 0 ∧ parseN (fixTxt n) = n := by
  have h' := okF_iff.1 h
  obtain ⟨u, hu⟩ : ∃ u : Nat, n.natAbs = u := ⟨_, rfl⟩
  obtain ⟨hg, hm⟩ := text_good (u / 1000) (u % 1000) (by omega)
  obtain ⟨hb, hn⟩ := body_dec (u / 1000) (u % 1000)
  by_cases hneg : n < 0
  · have ht : fixTxt n = 45 :: (Lib.decDigits (u / 1000) ++ frac (u % 1000)) := by unfold fixTxt; rw [if_pos hneg, hu]; simp
    have hb2 : bodyF (fixTxt n) = Lib.decDigits (u / 1000) ++ frac (u % 1000) := by rw [ht]; exact bodyF_neg _
    have he : parseE (fixTxt n) = 0 := by unfold parseE; rw [hb2, if_neg (by simp [hg]), if_neg (by omega)]
    refine ⟨he, ?_⟩
    unfold parseN; rw [he, hb2, hm, ht]; simp [negF]; omega
  · have ht : fixTxt n = Lib.decDigits (u / 1000) ++ frac (u % 1000) := by unfold fixTxt; rw [if_neg hneg, hu]; simp
    have he : parseE (fixTxt n) = 0 := by unfold parseE; rw [ht, hb, if_neg (by simp [hg]), if_neg (by omega)]
    refine ⟨he, ?_⟩
    unfold parseN; rw [he, ht, hb, hn, hm]; simp; omega
theorem text_1250 : fixTxt 1250 = [49, 46, 50, 53] := by
  have e : fixTxt 1250 = Lib.decDigits 1 ++ frac 250 := rfl
  rw [e, dec_one (by omega)]; rfl
theorem text_m1500 : fixTxt (-1500) = [45, 49, 46, 53] := by
  have e : fixTxt (-1500) = [45] ++ Lib.decDigits 1 ++ frac 500 := rfl
  rw [e, dec_one (by omega)]; rfl
theorem lin_one {a : Int} (h : okF a = true) : linE a 1000 0 0 0 = 0 ∧ linN a 1000 0 0 0 = a := by
  have e : (a * 1000 + 0 * 0) / 1000 + 0 = a := by omega
  have := lin_ok (c := 0) (y := 0) (e := 0) h (show okF 1000 = true from rfl) rfl rfl rfl (by rw [e]; exact h)
  rw [e] at this; exact this
theorem lin_comm (a b : Int) : linE b a 0 0 0 = linE a b 0 0 0 ∧ linN b a 0 0 0 = linN a b 0 0 0 := by
  unfold linE linN; rw [Int.mul_comm b a, Bool.and_comm (okF b) (okF a)]; exact ⟨rfl, rfl⟩
end Go.Proofs.YtidillbpoklnjaaDoor
