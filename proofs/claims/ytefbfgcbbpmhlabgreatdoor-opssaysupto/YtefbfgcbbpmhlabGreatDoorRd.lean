/-
  Joined: Pq, Fh, Rd.
-/
import Derived.Test.YtefbfgcbbpmhlabGreatDoorPt
import Derived.Test.YtefbfgcbbpmhlabGreatDoorPp
import Derived.Test.YtefbfgcbbpmhlabGreatDoorFg
import Derived.Lib.SmallJoins
import Derived.Test.YtefbfgcbbpmhlabGreatDoorFa
import Derived.Shelf.Vars
import Derived.Stop.LaidErr

/-
  Plain: a number's text is read as it.
-/
namespace Go.Proofs.YtefbfgcbbpmhlabGreatDoor
open Go.RowKit

theorem dgt_val {d : Nat} (h : d < 10) : (dgt d).toNat - 48 = d := by simp [dgt]; omega
theorem dgt_isD {d : Nat} (h : d < 10) : isD (dgt d) = true := by simp [isD, dgt]; omega
theorem dec_one {n : Nat} (h : n < 10) : Lib.decDigits n = [dgt n] := Lib.decDigits_one h
theorem dec_all (n : Nat) : allD (Lib.decDigits n) = true := by
  induction n using Nat.strongRecOn with
  | ind n ih =>
    by_cases h : n < 10
    · rw [dec_one h]; simp [allD, dgt_isD h]
    · rw [dec_big h]; unfold allD at *; rw [List.all_append, ih (n / 10) (by omega)]; simp [dgt_isD (show n % 10 < 10 by omega)]
theorem dec_val (n : Nat) : valD 0 (Lib.decDigits n) = n := by
  induction n using Nat.strongRecOn with
  | ind n ih =>
    by_cases h : n < 10
    · rw [dec_one h]
      show 10 * 0 + ((dgt n).toNat - 48) = n
      rw [dgt_val h]; omega
    · rw [dec_big h, valD_append, ih (n / 10) (by omega)]
      show 10 * (n / 10) + ((dgt (n % 10)).toNat - 48) = n
      rw [dgt_val (by omega)]; omega
theorem dec_ne (n : Nat) : Lib.decDigits n ≠ [] := by
  by_cases h : n < 10
  · rw [dec_one h]; simp
  · rw [dec_big h]; simp
theorem digs_all : ∀ (f n : Nat), n < 1000 → allD (digs f n) = true
  | 0, _, _ => rfl
  | f + 1, n, h => by
    rw [digs]; split
    · rfl
    · have := digs_all f (n % 100 * 10) (by omega)
      unfold allD at *; rw [List.all_cons, this, dgt_isD (by omega)]; rfl
theorem digs_frac (m : Nat) (h : m < 1000) : frac3 (digs 3 m) = m := by
  by_cases h0 : m = 0
  · subst h0; rfl
  rw [digs_step 2 m h0]
  by_cases h1 : m % 100 * 10 = 0
  · rw [h1, digs_zero]; simp only [frac3, dgt_val (show m / 100 < 10 by omega)]; omega
  rw [digs_step 1 _ h1]
  by_cases h2 : m % 100 * 10 % 100 * 10 = 0
  · rw [h2, digs_zero]; simp only [frac3, dgt_val (show m / 100 < 10 by omega), dgt_val (show m % 100 * 10 / 100 < 10 by omega)]; omega
  rw [digs_step 0 _ h2]
  simp only [frac3, dgt_val (show m / 100 < 10 by omega), dgt_val (show m % 100 * 10 / 100 < 10 by omega), dgt_val (show m % 100 * 10 % 100 * 10 / 100 < 10 by omega)]; omega
theorem text_parts (q m : Nat) (h : m < 1000) : wholeOf (Lib.decDigits q ++ frac m) = Lib.decDigits q ∧ allD (partOf (Lib.decDigits q ++ frac m)) = true ∧ frac3 (partOf (Lib.decDigits q ++ frac m)) = m := by
  by_cases h0 : m = 0
  · subst h0
    have := whole_none (dec_all q)
    rw [show frac 0 = [] from rfl, List.append_nil, this.1, this.2]
    exact ⟨rfl, rfl, rfl⟩
  · have := whole_dot (digs 3 m) (dec_all q)
    rw [frac_pos h0, this.1, this.2]
    exact ⟨rfl, digs_all 3 m h, digs_frac m h⟩
theorem text_good (q m : Nat) (h : m < 1000) : goodF (Lib.decDigits q ++ frac m) = true ∧ magF (Lib.decDigits q ++ frac m) = 1000 * q + m := by
  obtain ⟨h1, h2, h3⟩ := text_parts q m h
  have hne := dec_ne q
  have hl : 0 < (Lib.decDigits q).length := List.length_pos_iff.2 hne
  refine ⟨goodF_iff.2 ⟨by rw [h1]; exact dec_all q, h2, by rw [h1]; omega⟩, ?_⟩
  unfold magF; rw [h1, h3, dec_val]
theorem body_dec (q m : Nat) : bodyF (Lib.decDigits q ++ frac m) = Lib.decDigits q ++ frac m ∧ negF (Lib.decDigits q ++ frac m) = false := by
  cases hd : Lib.decDigits q with
  | nil => exact absurd hd (dec_ne q)
  | cons c l =>
    have hc : isD c = true := by have := dec_all q; rw [hd] at this; exact List.all_eq_true.1 this c (by simp)
    have h1 : c ≠ 45 := by rintro rfl; simp [isD] at hc
    have h2 : c ≠ 43 := by rintro rfl; simp [isD] at hc
    exact ⟨bodyF_else _ h1 h2, by simp [negF, h1]⟩
/-- A number's text is read as it. -/
theorem read_text (n : Int) (h : okF n = true) : parseE (fixTxt n) = 0 ∧ parseN (fixTxt n) = n := by
  have h' := okF_iff.1 h
  obtain ⟨u, hu⟩ : ∃ u : Nat, n.natAbs = u := ⟨_, rfl⟩
  obtain ⟨hg, hm⟩ := text_good (u / 1000) (u % 1000) (by omega)
  obtain ⟨hb, hn⟩ := body_dec (u / 1000) (u % 1000)
  by_cases hneg : n < 0
  · have ht : fixTxt n = 45 :: (Lib.decDigits (u / 1000) ++ frac (u % 1000)) := by unfold fixTxt; rw [if_pos hneg, hu]; simp
    have hb2 : bodyF (fixTxt n) = Lib.decDigits (u / 1000) ++ frac (u % 1000) := by rw [ht]; exact bodyF_neg _
    have he : parseE (fixTxt n) = 0 := by unfold parseE; rw [hb2, if_neg (by simp [hg]), if_neg (by omega)]
    refine ⟨he, ?_⟩
    unfold parseN; rw [he, hb2, hm, ht]; simp [negF]; omega
  · have ht : fixTxt n = Lib.decDigits (u / 1000) ++ frac (u % 1000) := by unfold fixTxt; rw [if_neg hneg, hu]; simp
    have he : parseE (fixTxt n) = 0 := by unfold parseE; rw [ht, hb, if_neg (by simp [hg]), if_neg (by omega)]
    refine ⟨he, ?_⟩
    unfold parseN; rw [he, ht, hb, hn, hm]; simp; omega
theorem text_1250 : fixTxt 1250 = [49, 46, 50, 53] := by
  have e : fixTxt 1250 = Lib.decDigits 1 ++ frac 250 := rfl
  rw [e, dec_one (by omega)]; rfl
theorem text_m1500 : fixTxt (-1500) = [45, 49, 46, 53] := by
  have e : fixTxt (-1500) = [45] ++ Lib.decDigits 1 ++ frac 500 := rfl
  rw [e, dec_one (by omega)]; rfl
theorem lin_one {a : Int} (h : okF a = true) : linE a 1000 0 0 0 = 0 ∧ linN a 1000 0 0 0 = a := by
  have e : (a * 1000 + 0 * 0) / 1000 + 0 = a := by omega
  have := lin_ok (c := 0) (y := 0) (e := 0) h (show okF 1000 = true from rfl) rfl rfl rfl (by rw [e]; exact h)
  rw [e] at this; exact this
theorem lin_comm (a b : Int) : linE b a 0 0 0 = linE a b 0 0 0 ∧ linN b a 0 0 0 = linN a b 0 0 0 := by
  unfold linE linN; rw [Int.mul_comm b a, Bool.and_comm (okF b) (okF a)]; exact ⟨rfl, rfl⟩
end Go.Proofs.YtefbfgcbbpmhlabGreatDoor

/-
  Contracts of texts and of reading, with what later calls need: the table of powers, and the word that a search asks for, still stand.
-/
namespace Go.Proofs.YtefbfgcbbpmhlabGreatDoor
open Go.RowKit
set_option maxRecDepth 100000

theorem gPow : Tryz.prog.globalNamed "internal/strconv.uint64pow10" = some 3 := by kernel_rfl
/-- What the calls lean on: the table of powers of ten, and a number in the variable that a search asks. -/
def Rdy (m : Int) (w : World) : Prop := Tab w ∧ w.cell? ⟨0, 0, none⟩ = some (.int .i64 m)
theorem Rdy.below {m : Int} {w w' : World} (h : Rdy m w) (hb : Below w.heap.size w w') : Rdy m w' :=
  ⟨Joins.tab_stays gPow h.1 hb (Nat.le_refl _), cell_later hb h.2⟩
theorem bel_drewN (w : World) (n : Nat) : Below w.heap.size w (w.drewN n) := below_drewN (Below.refl _ _) n

def txtB (n : Int) : ByteArray := ⟨(if okF n then fixTxt n else []).toArray⟩
theorem txtB_ok {n : Int} (h : okF n = true) : txtB n = ⟨(fixTxt n).toArray⟩ := by unfold txtB; rw [h]; rfl
theorem txtB_bad {n : Int} (h : okF n = false) : txtB n = ⟨#[]⟩ := by unfold txtB; rw [h]; rfl

theorem text_any (m n : Int) (w : World) (hr : Rdy m w) :
    Calls Tryz.prog 213 #[.int .i64 n] w fun e w' => e = .returned (.tuple #[.string (txtB n), errN (flt n)]) ∧ Below w.heap.size w w' ∧ Rdy m w' := by
  cases h : okF n
  · rw [txtB_bad h, flt_bad h, errN_1]
    refine (text_bad n w h).mono ?_
    rintro e w' ⟨rfl, rfl⟩
    exact ⟨rfl, Below.refl _ _, hr⟩
  · rw [txtB_ok h, flt_ok h, errN_0]
    refine (text_ok n w hr.1 h).mono ?_
    rintro e w' ⟨rfl, hb⟩
    exact ⟨rfl, hb, hr.below hb⟩
theorem parse_rdy (m : Int) (s : ByteArray) (w : World) (hr : Rdy m w) (hs : s.size ≤ 100000) :
    Calls Tryz.prog 275 #[.string s] w fun e w' => e = .returned (.tuple #[.int .i64 (parseN s.data.toList), errN (parseE s.data.toList)]) ∧ Below w.heap.size w w' ∧ Rdy m w' := by
  refine (parse_any s w hs m hr.2).mono ?_
  rintro e w' ⟨rfl, n, rfl⟩
  exact ⟨rfl, bel_drewN w n, hr.below (bel_drewN w n)⟩
theorem fixTxt_len (n : Int) (h : okF n = true) : (fixTxt n).length ≤ 40 := by
  have h' := okF_iff.1 h
  by_cases hn : 0 ≤ n
  · obtain ⟨u, rfl⟩ : ∃ u : Nat, n = u := ⟨n.toNat, by omega⟩
    rw [fixTxt_nonneg]; have := body_len u (by omega); omega
  · obtain ⟨u, rfl⟩ : ∃ u : Nat, n = -(u : Int) := ⟨n.natAbs, by omega⟩
    rw [fixTxt_neg u (by omega)]; have := body_len u (by omega); simp only [List.length_cons]; omega
/-- A number's text, read by the program: it. -/
theorem parse_text (m n : Int) (w : World) (hr : Rdy m w) (h : okF n = true) :
    Calls Tryz.prog 275 #[.string (txtB n)] w fun e w' => e = .returned (.tuple #[.int .i64 n, .nilIface]) ∧ Below w.heap.size w w' ∧ Rdy m w' := by
  have hl := fixTxt_len n h
  have := parse_rdy m (txtB n) w hr (by rw [txtB_ok h]; simp [ByteArray.size]; omega)
  rw [show (txtB n).data.toList = fixTxt n by rw [txtB_ok h], (read_text n h).1, (read_text n h).2, errN_0] at this
  exact this
end Go.Proofs.YtefbfgcbbpmhlabGreatDoor

/-
  What the row's list and the world's shape give: the table of powers of ten, and some number in the variable that a search asks.
-/
namespace Go.Proofs.YtefbfgcbbpmhlabGreatDoor
open Go.ChangeShapes Go.WideShapes Go.ChangeAt Go.RowKit
set_option maxRecDepth 100000

theorem gPowType : (Tryz.prog.globals[3]?).map (·.type) = some 344 := by kernel_rfl
theorem cellsPow : Tryz.prog.cellsOf 344 = 20 := by kernel_rfl
theorem cellsU64 : Tryz.prog.cellsOf 289 = 1 := by kernel_rfl
theorem rdy_of {W : World} (hL : laidMet Tryz.prog [("math/bits.deBruijn32tab", Rows.laid_math_bits_deBruijn32tab), ("math/bits.deBruijn64tab", Rows.laid_math_bits_deBruijn64tab), ("internal/strconv.uint64pow10", Rows.laid_internal_strconv_uint64pow10)] W) (hsh : W.ShapedOpen Tryz.prog) : ∃ m, Rdy m W := by
  obtain ⟨m, hm⟩ := cell_of_shapedOpen_int (P := Tryz.prog) (g := 0) (t := 3) (zero := #[.int .i64 0]) hsh (of_decide_eq_true (by kernel_rfl)) (by kernel_rfl) rfl (by kernel_rfl) (by kernel_rfl) Tryz.underlying3
  exact ⟨m, Lib.tabIs_of_head (rest := []) gPow gPowType Tryz.underlying344 Tryz.underlying289 cellsU64 cellsPow (laidMet.tail (laidMet.tail hL)), hm⟩
end Go.Proofs.YtefbfgcbbpmhlabGreatDoor
