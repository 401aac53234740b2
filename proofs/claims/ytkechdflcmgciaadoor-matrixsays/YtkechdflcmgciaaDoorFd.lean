/-
  Contracts: the text of any number, of the program and of the document's answer: the same.
-/
import Derived.Test.YtkechdflcmgciaaDoorFc
namespace Go.Proofs.YtkechdflcmgciaaDoor
open Go.RowKit
set_option maxRecDepth 100000

theorem fixText_nonneg (u : Nat) (w : World) (hu : u ≤ 1000000000) :
    Calls Tryd.prog 15 #[.int .i64 u] w fun e w' => e = .returned (.string ⟨(Lib.decDigits (u / 1000) ++ frac (u % 1000)).toArray⟩) ∧ Below w.heap.size w w' := by
  by_cases h : u % 1000 = 0
  · exact fixText_whole u w hu h
  · exact fixText_part u w hu h
theorem fixTxt_nonneg (u : Nat) : fixTxt (u : Int) = Lib.decDigits (u / 1000) ++ frac (u % 1000) := by
  unfold fixTxt; rw [if_neg (by omega)]; simp
theorem fixTxt_neg (u : Nat) (h : 1 ≤ u) : fixTxt (-(u : Int)) = 45 :: (Lib.decDigits (u / 1000) ++ frac (u % 1000)) := by
  unfold fixTxt; rw [if_pos (by omega)]; simp
theorem body_len (u : Nat) (h : u ≤ 1000000000) : (Lib.decDigits (u / 1000) ++ frac (u % 1000)).length ≤ 30 := by
  have h1 := dec_len' (u / 1000) (by omega)
  have h2 := frac_len (u % 1000)
  rw [List.length_append]; omega

set_option maxHeartbeats 400000 in
theorem fixText_neg (u : Nat) (w : World) (hu : u ≤ 1000000000) (h1 : 1 ≤ u) :
    Calls Tryd.prog 15 #[.int .i64 (-(u : Int))] w fun e w' => e = .returned (.string ⟨(45 :: (Lib.decDigits (u / 1000) ++ frac (u % 1000))).toArray⟩) ∧ Below w.heap.size w w' := by
  have hd := fun w => fixText_nonneg u w hu
  have hl := body_len u hu
  generalize hg : Lib.decDigits (u / 1000) ++ frac (u % 1000) = l at *
  have hneg : -(u : Int) < 0 := by omega
  go_enter Tryd.func15, Tryd.ntmps15
  go_wp2_with (go_at_call 15; refine (hd _).mono ?_; rintro e w' ⟨rfl, hb⟩)
  go_ret
  exact ⟨ret_str (ba_append [45] l), hb⟩

theorem fixText_any (n : Int) (w : World) (h : okF n = true) :
    Calls Tryd.prog 15 #[.int .i64 n] w fun e w' => e = .returned (.string ⟨(fixTxt n).toArray⟩) ∧ Below w.heap.size w w' := by
  have h' := okF_iff.1 h
  by_cases hn : 0 ≤ n
  · obtain ⟨u, rfl⟩ : ∃ u : Nat, n = u := ⟨n.toNat, by omega⟩
    rw [fixTxt_nonneg]; exact fixText_nonneg u w (by omega)
  · obtain ⟨u, rfl⟩ : ∃ u : Nat, n = -(u : Int) := ⟨n.natAbs, by omega⟩
    rw [fixTxt_neg u (by omega)]; exact fixText_neg u w (by omega) (by omega)

theorem below_grow (w : World) (k : Nat) (os : Array Obj) : Below w.heap.size w (Sort.grow (w.drewN k) os) :=
  ⟨rfl, rfl, rfl, by simp [Sort.grow, World.drewN], fun i hi => by simp [Sort.grow, World.drewN, Array.getElem?_append, hi]⟩
theorem fraction_any (m : Nat) (w : World) (h : m < 1000) :
    Calls Tryd.prog 46 #[.int .i64 m] w fun e w' => e = .returned (.string ⟨(frac m).toArray⟩) ∧ Below w.heap.size w w' := by
  by_cases h0 : m = 0
  · subst h0
    refine (fraction_zero w).mono ?_
    rintro e w' ⟨rfl, rfl⟩
    exact ⟨rfl, Below.refl _ _⟩
  · exact fraction_pos m w h0 h

theorem ret2_str {a b : ByteArray} {v : Value} (h : a = b) : Ending.returned (.tuple #[.string a, v]) = .returned (.tuple #[.string b, v]) := by rw [h]
theorem cat3 (a b c : List UInt8) : (⟨a.toArray⟩ ++ ⟨b.toArray⟩ ++ ⟨c.toArray⟩ : ByteArray) = ⟨(a ++ (b ++ c)).toArray⟩ := by rw [ba_append, ba_append, List.append_assoc]
abbrev Tab (w : World) : Prop := Lib.TabIs Tryd.prog w "internal/strconv.uint64pow10" .u64 Lib.pow10Tab

set_option maxHeartbeats 400000 in
theorem text_nonneg (u : Nat) (w : World) (htab : Tab w) (hu : u ≤ 1000000000) :
    Calls Tryd.prog 13 #[.int .i64 u] w fun e w' => e = .returned (.tuple #[.string ⟨(Lib.decDigits (u / 1000) ++ frac (u % 1000)).toArray⟩, .nilIface]) ∧ Below w.heap.size w w' := by
  have hc := fun w => check_ok (u : Int) w (by omega) (by omega)
  have hi := Tryd.strconv_Itoa ((u / 1000 : Nat) : Int) (by omega) (by omega) w htab
  rw [Lib.itoa_nonneg, show ((u / 1000 : Nat) : Int) = (u : Int) / 1000 by omega] at hi
  have hf := fun w => fraction_any (u % 1000) w (by omega)
  rw [show ((u % 1000 : Nat) : Int) = (u : Int) % 1000 by omega] at hf
  have l1 := dec_len' (u / 1000) (by omega)
  have l2 := frac_len (u % 1000)
  generalize Lib.decDigits (u / 1000) = x at *
  generalize frac (u % 1000) = y at *
  go_enter Tryd.func13, Tryd.ntmps13
  go_wp2_with (first
    | (go_at_call 14; refine (hc _).mono ?_; rintro e w' ⟨rfl, rfl⟩)
    | (go_at_call 45; refine hi.mono ?_; rintro e w' ⟨rfl, k, os, hw1⟩)
    | (go_at_call 46; refine (hf _).mono ?_; rintro e w' ⟨rfl, hb⟩))
  go_ret2
  exact ⟨ret2_str (cat3 [] x y), (below_grow _ k os).trans (hb.mono (below_grow _ k os).size)⟩

set_option maxHeartbeats 400000 in
theorem text_neg (u : Nat) (w : World) (htab : Tab w) (hu : u ≤ 1000000000) (h1 : 1 ≤ u) :
    Calls Tryd.prog 13 #[.int .i64 (-(u : Int))] w fun e w' => e = .returned (.tuple #[.string ⟨(45 :: (Lib.decDigits (u / 1000) ++ frac (u % 1000))).toArray⟩, .nilIface]) ∧ Below w.heap.size w w' := by
  have hc := fun w => check_ok (-(u : Int)) w (by omega) (by omega)
  have hi := Tryd.strconv_Itoa ((u / 1000 : Nat) : Int) (by omega) (by omega) w htab
  rw [Lib.itoa_nonneg, show ((u / 1000 : Nat) : Int) = (u : Int) / 1000 by omega] at hi
  have hf := fun w => fraction_any (u % 1000) w (by omega)
  rw [show ((u % 1000 : Nat) : Int) = (u : Int) % 1000 by omega] at hf
  have l1 := dec_len' (u / 1000) (by omega)
  have l2 := frac_len (u % 1000)
  generalize Lib.decDigits (u / 1000) = x at *
  generalize frac (u % 1000) = y at *
  have hneg : -(u : Int) < 0 := by omega
  go_enter Tryd.func13, Tryd.ntmps13
  go_wp2_with (first
    | (go_at_call 14; refine (hc _).mono ?_; rintro e w' ⟨rfl, rfl⟩)
    | (go_at_call 45; refine hi.mono ?_; rintro e w' ⟨rfl, k, os, hw1⟩)
    | (go_at_call 46; refine (hf _).mono ?_; rintro e w' ⟨rfl, hb⟩))
  go_ret2
  exact ⟨ret2_str (cat3 [45] x y), (below_grow _ k os).trans (hb.mono (below_grow _ k os).size)⟩

theorem text_ok (n : Int) (w : World) (htab : Tab w) (h : okF n = true) :
    Calls Tryd.prog 13 #[.int .i64 n] w fun e w' => e = .returned (.tuple #[.string ⟨(fixTxt n).toArray⟩, .nilIface]) ∧ Below w.heap.size w w' := by
  have h' := okF_iff.1 h
  by_cases hn : 0 ≤ n
  · obtain ⟨u, rfl⟩ : ∃ u : Nat, n = u := ⟨n.toNat, by omega⟩
    rw [fixTxt_nonneg]; exact text_nonneg u w htab (by omega)
  · obtain ⟨u, rfl⟩ : ∃ u : Nat, n = -(u : Int) := ⟨n.natAbs, by omega⟩
    rw [fixTxt_neg u (by omega)]; exact text_neg u w htab (by omega) (by omega)

set_option maxHeartbeats 400000 in
theorem text_bad (n : Int) (w : World) (h : okF n = false) :
    Calls Tryd.prog 13 #[.int .i64 n] w fun e w' => e = .returned (.tuple #[.string ⟨#[]⟩, errV 1]) ∧ w' = w := by
  have hc : ∀ w, Calls Tryd.prog 14 #[.int .i64 n] w fun e w' => e = .returned (.iface 23 (.int .i64 1)) ∧ w' = w := fun w => by have := check_any n w; rwa [flt_bad h, errN_1] at this
  go_enter Tryd.func13, Tryd.ntmps13
  go_wp2_with (go_at_call 14; refine (hc _).mono ?_; rintro e w' ⟨rfl, rfl⟩)
  go_ret2
  exact ⟨rfl, rfl⟩
end Go.Proofs.YtkechdflcmgciaaDoor
