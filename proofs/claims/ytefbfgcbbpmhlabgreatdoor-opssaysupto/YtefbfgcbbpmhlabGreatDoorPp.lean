/-
  Joined: Fc, Fd, Pp.
-/
import Derived.Test.YtefbfgcbbpmhlabGreatDoorPt
import Derived.Test.YtefbfgcbbpmhlabGreatDoorShelf
import Derived.BigRegion
import Derived.Test.YtefbfgcbbpmhlabGreatDoorFa
import Derived.Lib.IndexMore

/-
  Contracts: the texts of numbers, of the program and of the document's answer.
-/
namespace Go.Proofs.YtefbfgcbbpmhlabGreatDoor
open Go.RowKit
set_option maxRecDepth 100000

theorem conv1 (d : Nat) (hz : d < 10) (W : World) (b c : Nat) (hc : W.cell? ⟨b, 0, none⟩ = some (.int .u8 (48 + (d : Int)))) :
    (convert 149 9 (.slice (some ⟨b, 0, none⟩) 1 c)).run Tryz.prog W = .ok (.string ⟨#[dgt d]⟩) W := by
  have h := run_convert_bytes_back (P := Tryz.prog) W 149 9 5 ⟨b, 0, none⟩ c [dgt d] Tryz.underlying149 Tryz.underlying5 Tryz.underlying9 (fun j hj => by
    have : j = 0 := by simpa using hj
    subst this
    rw [Lib.add_plain, hc]
    simp [dgt]; omega)
  exact h

set_option maxHeartbeats 400000 in
theorem decimal_small (n : Nat) (w : World) (h : n < 10) :
    Calls Tryz.prog 101 #[.int .i64 n] w fun e w' => e = .returned (.string ⟨(Lib.decDigits n).toArray⟩) ∧ Below w.heap.size w w' := by
  have hd : Lib.decDigits n = [dgt n] := Lib.decDigits_one h
  rw [hd]
  clear hd
  have hcv := fun W b c => conv1 n h W b c
  go_enter Tryz.func101, Tryz.ntmps101
  go_wp2
  go_ret
  exact ⟨rfl, (Below.refl _ _).alloc (Nat.le_refl _) _⟩

theorem dgt_toNat {d : Nat} (h : d < 10) : (dgt d).toNat = 48 + d := by simp [dgt]; omega
theorem dig_cell {n : Nat} (h : n < 1000) : Value.int .u8 (48 + (n : Int) * 10 / 1000) = byteV (dgt (n / 100)) := by
  unfold byteV; rw [dgt_toNat (by omega)]; congr 1; omega
set_option maxHeartbeats 400000 in
theorem decimal_big (n : Nat) (w : World) (h : ¬ n < 10) (hm : n ≤ 1000000000000)
   (ih : ∀ w, Calls Tryz.prog 101 #[.int .i64 ((n : Int) / 10)] w fun e w' => e = .returned (.string ⟨(Lib.decDigits (n / 10)).toArray⟩) ∧ Below w.heap.size w w') :
    Calls Tryz.prog 101 #[.int .i64 n] w fun e w' => e = .returned (.string ⟨(Lib.decDigits n).toArray⟩) ∧ Below w.heap.size w w' := by
  have h1 : (10 : Int) ≤ n := by omega
  have hcv := fun W b c => conv1 (n % 10) (by omega) W b c
  have ec : (((n % 10 : Nat) : Int)) = (n : Int) % 10 := by omega
  rw [ec] at hcv
  clear ec
  have e1 : IntKind.i64.wrap ((n : Int) / 10) = (n : Int) / 10 := IntWalk.i64_in _ (by omega)
  have e2 : (n : Int).tmod 10 = (n : Int) % 10 := tm_nonneg (by omega)
  have e3 : IntKind.i64.wrap (48 + (n : Int) % 10) = 48 + (n : Int) % 10 := IntWalk.i64_in _ (by omega)
  have e4 : IntKind.u8.wrap (48 + (n : Int) % 10) = 48 + (n : Int) % 10 := IntWalk.u8_in _ (by omega)
  have hadd : ∀ w, (Op.stringOp .add ⟨(Lib.decDigits (n / 10)).toArray⟩ ⟨#[dgt (n % 10)]⟩).run Tryz.prog w = .ok (.string ⟨(Lib.decDigits n).toArray⟩) w := fun w => by
    rw [dec_big h]; exact run_string_add_lists w (Lib.decDigits (n / 10)) [dgt (n % 10)] (dec_len _ (by omega)) (by simp)
  go_enter Tryz.func101, Tryz.ntmps101
  go_wp2
  go_region_with (go_at_call 101; refine (ih _).mono ?_; rintro e w' ⟨rfl, hb⟩; have hcc := hb.cell (p := ⟨w.heap.size, 0, none⟩))
  all_goals go_wp2
  all_goals go_ret
  all_goals first | exact ⟨rfl, bel1 hb⟩ | exact ⟨rfl, bel2 hb _⟩

theorem decimal_any (n : Nat) (w : World) (hm : n ≤ 1000000000000) :
    Calls Tryz.prog 101 #[.int .i64 n] w fun e w' => e = .returned (.string ⟨(Lib.decDigits n).toArray⟩) ∧ Below w.heap.size w w' := by
  induction n using Nat.strongRecOn generalizing w with
  | ind n ih =>
    by_cases h : n < 10
    · exact decimal_small n w h
    · refine decimal_big n w h hm fun w => ?_
      have := ih (n / 10) (by omega) w (by omega)
      rwa [show ((n / 10 : Nat) : Int) = (n : Int) / 10 by omega] at this

set_option maxHeartbeats 400000 in
theorem fraction_zero (w : World) :
    Calls Tryz.prog 284 #[.int .i64 0] w fun e w' => e = .returned (.string ⟨#[]⟩) ∧ w' = w := by
  go_enter Tryz.func284, Tryz.ntmps284
  go_wp2
  go_ret
  exact ⟨rfl, rfl⟩
set_option maxHeartbeats 400000 in
theorem fraction_pos (m : Nat) (w : World) (h0 : m ≠ 0) (h : m < 1000) :
    Calls Tryz.prog 284 #[.int .i64 m] w fun e w' => e = .returned (.string ⟨(frac m).toArray⟩) ∧ Below w.heap.size w w' := by
  obtain ⟨i0, hi, hz0, hz1, hz2⟩ := info_parts info5
  have hm0 : ((m : Int) == 0) = false := by simp; omega
  go_enter Tryz.func284, Tryz.ntmps284
  go_wp2
  go_loopw [0, 3, 7] (fun t v i wr => ∃ (n k : Nat) (d : List UInt8), Left m d (3 - k) n ∧ t = .int .i64 n ∧ i = .int .i64 k ∧ k ≤ 3 ∧ d.length = k ∧ wr.ownsRow w.heap.size 5 1 v (k + 1) ((46 :: d).map byteV) ∧ Below w.heap.size w wr) (fun _ _ i _ => 3 - (intOf i).toNat)
  case atStart => exact ⟨m, 0, [], left_start m h, rfl, rfl, by omega, rfl, World.ownsRow_lit w #[.int .u8 46] 1 (Nat.le_refl _) (by decide) rfl, (Below.refl _ _).alloc (Nat.le_refl _) _⟩
  case round =>
    obtain ⟨n, k, d, hL, rfl, rfl, hk, hd, hown, hb⟩ := hrel
    by_cases hgo : k < 3 ∧ n ≠ 0
    · obtain ⟨hk3, hn⟩ := hgo
      obtain ⟨g, hg, hL'⟩ := left_step hL hn
      have hn1 := hL.2.1
      have HL := hid hL'
      have hn0 : ((n : Int) == 0) = false := by simp; omega
      have HG := hid hg
      have HD := hid hd
      clear hL hL' hg hd
      go_wp2_with (at_builtin; refine wpList_append_own _ rfl (.tmp 13) (.tmp 18) 149 rfl w.heap.size 5 i0 (.int .u8 0) 1 1 Tryz.underlying149 hi hz0 hz1 hz2 rfl (by decide) _ _ _ rfl (hown.alloc _) ⟨wr.heap.size, 0, none⟩ 1 1 [byteV (dgt (n / 100))] rfl rfl ?c1 ?c2 ?c3 ?c4 ?c5 ?_)
      case c1 => intro j u hj; exact one_new (dig_cell hn1) j u hj
      case c2 => intro u hu; simp at hu; subst hu; rfl
      case c3 => unfold maxLen; omega
      case c4 => omega
      case c5 => have := hb.size; simp; omega
      · intro v' w1 hown' hgrow _
        have hb1 : Below w.heap.size w w1 := (hb.alloc hb.size _).grown hgrow (by have := hb.size; simp; omega) (fun q hq => (hown.lt q hq).1)
        clear hgrow hown
        go_wp2
        go_roundw
        case rel =>
          have e : 3 - (k + 1) = g := by have := HG.out; omega
          refine ⟨n % 100 * 10, k + 1, d ++ [dgt (n / 100)], by rw [e]; exact HL.out, by congr 1; omega, by go_num, by omega, by simp; exact HD.out, ?_, hb1⟩
          rw [List.map_cons, List.map_append, ← List.cons_append]
          exact hown'
        case measure => simp [intOf]; omega
    · have hn0 : n = 0 := by
        by_cases hk3 : k < 3
        · by_cases e : n = 0
          · exact e
          · exact absurd ⟨hk3, e⟩ hgo
        · exact hL.2.2.2.2.2.2 (by omega)
      subst hn0
      have he := left_end hL
      obtain ⟨g, c, hv, hcells⟩ := bytes_of_own hown (by omega)
      have hcv := conv_row (d := 46 :: d) (n := k + 1) (c := c) (by simp; omega) hcells
      have HE := hid he
      clear hgo hL hown hcells hd he
      rw [hv]
      clear hv
      by_cases hk3 : k < 3
      all_goals
        go_wp2
        go_ret
        exact ⟨ret_str (by rw [frac_pos h0, HE.out]), hb⟩

theorem add_lists {x y z : List UInt8} (hx : x.length ≤ 100) (hy : y.length ≤ 100) (hz : z = x ++ y) (w : World) : (Op.stringOp .add ⟨x.toArray⟩ ⟨y.toArray⟩).run Tryz.prog w = .ok (.string ⟨z.toArray⟩) w := by
  rw [hz]; exact run_string_add_lists w x y (by omega) (by omega)
def strLn : Value → Nat | .string b => b.size | _ => 0
theorem strLn_one (x : List UInt8) : strLn (.string ⟨x.toArray⟩) = x.length := by simp [strLn, ByteArray.size]
theorem strLn_cat (x y : List UInt8) : strLn (.string (⟨x.toArray⟩ ++ ⟨y.toArray⟩)) = x.length + y.length := by rw [ba_append, strLn_one, List.length_append]
theorem cat_eq {x y z : List UInt8} (h : x ++ y = z) : Value.string (⟨x.toArray⟩ ++ ⟨y.toArray⟩) = .string ⟨z.toArray⟩ := by rw [ba_append, h]
theorem dec_len' (n : Nat) (h : n ≤ 9223372036854775807) : (Lib.decDigits n).length ≤ 21 := by
  have := Lib.itoa_length_le n (by omega) (by omega)
  rwa [Lib.itoa_nonneg] at this
theorem left_len {m : Nat} {d : List UInt8} {f n : Nat} (h : Left m d f n) : d.length ≤ 3 := by have := h.2.2.2.1; omega
theorem frac_len (m : Nat) : (frac m).length ≤ 4 := by
  have hd : ∀ f n, (digs f n).length ≤ f := by
    intro f; induction f with
    | zero => intro n; simp [digs]
    | succ f ih => intro n; rw [digs]; split <;> simp; exact ih _
  unfold frac; split
  · simp
  · have := hd 3 m; simp; omega

set_option maxHeartbeats 400000 in
theorem fixText_whole (u : Nat) (w : World) (hu : u ≤ 1000000000) (h0 : u % 1000 = 0) :
    Calls Tryz.prog 136 #[.int .i64 u] w fun e w' => e = .returned (.string ⟨(Lib.decDigits (u / 1000) ++ frac (u % 1000)).toArray⟩) ∧ Below w.heap.size w w' := by
  have hf : frac (u % 1000) = [] := by rw [h0]; rfl
  rw [hf, List.append_nil]
  have hz : (u : Int) % 1000 = 0 := by omega
  have hd := fun w => decimal_any (u / 1000) w (by omega)
  rw [show ((u / 1000 : Nat) : Int) = (u : Int) / 1000 by omega] at hd
  clear hf h0
  go_enter Tryz.func136, Tryz.ntmps136
  go_wp2_with (go_at_call 101; refine (hd _).mono ?_; rintro e w' ⟨rfl, hb⟩)
  go_ret
  exact ⟨rfl, hb⟩

set_option maxHeartbeats 1000000 in
theorem fixText_part (u : Nat) (w : World) (hu : u ≤ 1000000000) (h0 : u % 1000 ≠ 0) :
    Calls Tryz.prog 136 #[.int .i64 u] w fun e w' => e = .returned (.string ⟨(Lib.decDigits (u / 1000) ++ frac (u % 1000)).toArray⟩) ∧ Below w.heap.size w w' := by
  have hz : ((u : Int) % 1000 == 0) = false := by simp; omega
  have hd := fun w => decimal_any (u / 1000) w (by omega)
  rw [show ((u / 1000 : Nat) : Int) = (u : Int) / 1000 by omega] at hd
  have hl := dec_len' (u / 1000) (by omega)
  have ha := add_lists (x := Lib.decDigits (u / 1000)) (y := [46]) (z := Lib.decDigits (u / 1000) ++ [46]) (by omega) (by simp) rfl
  go_enter Tryz.func136, Tryz.ntmps136
  go_wp2_with (go_at_call 101; refine (hd _).mono ?_; rintro e w' ⟨rfl, hb⟩)
  clear ha hd
  go_loopw [0, 3] (fun t v wr => ∃ (n f : Nat) (d : List UInt8), Left (u % 1000) d f n ∧ t = .int .i64 n ∧ v = .string ⟨(Lib.decDigits (u / 1000) ++ [46] ++ d).toArray⟩ ∧ Below w.heap.size w wr) (fun _ v _ => (Lib.decDigits (u / 1000)).length + 4 - strLn v)
  case atStart => exact ⟨u % 1000, 3, [], left_start _ (by omega), by congr 1, by simp, hb⟩
  case round =>
    obtain ⟨n, f, d, hL, rfl, rfl, hbr⟩ := hrel
    by_cases hn : n = 0
    · subst hn
      have HE := hid (left_end hL)
      clear hL
      go_wp2
      go_ret
      exact ⟨ret_str (by rw [frac_pos h0, HE.out]; simp), hbr⟩
    · obtain ⟨g, hg, hL'⟩ := left_step hL hn
      have hn1 := hL.2.1
      have hdl := left_len hL
      have HL := hid hL'
      have HL2 := hid (left_len hL')
      have hpos : (0 : Int) < n := by omega
      have hdd := fun w => decimal_small (n / 100) w (by omega)
      rw [show ((n / 100 : Nat) : Int) = (n : Int) / 100 by omega, show Lib.decDigits (n / 100) = [dgt (n / 100)] from Lib.decDigits_one (by omega)] at hdd
      have ha := add_lists (x := Lib.decDigits (u / 1000) ++ [46] ++ d) (y := [dgt (n / 100)]) (z := Lib.decDigits (u / 1000) ++ [46] ++ (d ++ [dgt (n / 100)])) (by simp; omega) (by simp) (by simp)
      clear hL hL' hg
      go_wp2_with (go_at_call 101; refine (hdd _).mono ?_; rintro e w' ⟨rfl, hb2⟩)
      go_roundw
      case rel => exact ⟨n % 100 * 10, g, d ++ [dgt (n / 100)], HL.out, by congr 1, cat_eq (by simp), hbr.trans (hb2.mono hbr.size)⟩
      case measure =>
        have h3 := HL2.out
        simp only [List.length_append, List.length_cons, List.length_nil] at h3
        simp only [strLn_cat, strLn_one, List.length_append, List.length_cons, List.length_nil]
        omega
end Go.Proofs.YtefbfgcbbpmhlabGreatDoor

/-
  Contracts: the text of any number, of the program and of the document's answer: the same.
-/
namespace Go.Proofs.YtefbfgcbbpmhlabGreatDoor
open Go.RowKit
set_option maxRecDepth 100000

theorem fixText_nonneg (u : Nat) (w : World) (hu : u ≤ 1000000000) :
    Calls Tryz.prog 136 #[.int .i64 u] w fun e w' => e = .returned (.string ⟨(Lib.decDigits (u / 1000) ++ frac (u % 1000)).toArray⟩) ∧ Below w.heap.size w w' := by
  by_cases h : u % 1000 = 0
  · exact fixText_whole u w hu h
  · exact fixText_part u w hu h
theorem fixTxt_nonneg (u : Nat) : fixTxt (u : Int) = Lib.decDigits (u / 1000) ++ frac (u % 1000) := by
  unfold fixTxt; rw [if_neg (by omega)]; simp
theorem fixTxt_neg (u : Nat) (h : 1 ≤ u) : fixTxt (-(u : Int)) = 45 :: (Lib.decDigits (u / 1000) ++ frac (u % 1000)) := by
  unfold fixTxt; rw [if_pos (by omega)]; simp
theorem body_len (u : Nat) (h : u ≤ 1000000000) : (Lib.decDigits (u / 1000) ++ frac (u % 1000)).length ≤ 30 := by
  have h1 := dec_len' (u / 1000) (by omega)
  have h2 := frac_len (u % 1000)
  rw [List.length_append]; omega

set_option maxHeartbeats 400000 in
theorem fixText_neg (u : Nat) (w : World) (hu : u ≤ 1000000000) (h1 : 1 ≤ u) :
    Calls Tryz.prog 136 #[.int .i64 (-(u : Int))] w fun e w' => e = .returned (.string ⟨(45 :: (Lib.decDigits (u / 1000) ++ frac (u % 1000))).toArray⟩) ∧ Below w.heap.size w w' := by
  have hd := fun w => fixText_nonneg u w hu
  have hl := body_len u hu
  generalize hg : Lib.decDigits (u / 1000) ++ frac (u % 1000) = l at *
  have hneg : -(u : Int) < 0 := by omega
  go_enter Tryz.func136, Tryz.ntmps136
  go_wp2_with (go_at_call 136; refine (hd _).mono ?_; rintro e w' ⟨rfl, hb⟩)
  go_ret
  exact ⟨ret_str (ba_append [45] l), hb⟩

theorem fixText_any (n : Int) (w : World) (h : okF n = true) :
    Calls Tryz.prog 136 #[.int .i64 n] w fun e w' => e = .returned (.string ⟨(fixTxt n).toArray⟩) ∧ Below w.heap.size w w' := by
  have h' := okF_iff.1 h
  by_cases hn : 0 ≤ n
  · obtain ⟨u, rfl⟩ : ∃ u : Nat, n = u := ⟨n.toNat, by omega⟩
    rw [fixTxt_nonneg]; exact fixText_nonneg u w (by omega)
  · obtain ⟨u, rfl⟩ : ∃ u : Nat, n = -(u : Int) := ⟨n.natAbs, by omega⟩
    rw [fixTxt_neg u (by omega)]; exact fixText_neg u w (by omega) (by omega)

theorem below_grow (w : World) (k : Nat) (os : Array Obj) : Below w.heap.size w (Sort.grow (w.drewN k) os) :=
  ⟨rfl, rfl, rfl, by simp [Sort.grow, World.drewN], fun i hi => by simp [Sort.grow, World.drewN, Array.getElem?_append, hi]⟩
theorem fraction_any (m : Nat) (w : World) (h : m < 1000) :
    Calls Tryz.prog 284 #[.int .i64 m] w fun e w' => e = .returned (.string ⟨(frac m).toArray⟩) ∧ Below w.heap.size w w' := by
  by_cases h0 : m = 0
  · subst h0
    refine (fraction_zero w).mono ?_
    rintro e w' ⟨rfl, rfl⟩
    exact ⟨rfl, Below.refl _ _⟩
  · exact fraction_pos m w h0 h

theorem ret2_str {a b : ByteArray} {v : Value} (h : a = b) : Ending.returned (.tuple #[.string a, v]) = .returned (.tuple #[.string b, v]) := by rw [h]
theorem cat3 (a b c : List UInt8) : (⟨a.toArray⟩ ++ ⟨b.toArray⟩ ++ ⟨c.toArray⟩ : ByteArray) = ⟨(a ++ (b ++ c)).toArray⟩ := by rw [ba_append, ba_append, List.append_assoc]
abbrev Tab (w : World) : Prop := Lib.TabIs Tryz.prog w "internal/strconv.uint64pow10" .u64 Lib.pow10Tab

set_option maxHeartbeats 400000 in
theorem text_nonneg (u : Nat) (w : World) (htab : Tab w) (hu : u ≤ 1000000000) :
    Calls Tryz.prog 213 #[.int .i64 u] w fun e w' => e = .returned (.tuple #[.string ⟨(Lib.decDigits (u / 1000) ++ frac (u % 1000)).toArray⟩, .nilIface]) ∧ Below w.heap.size w w' := by
  have hc := fun w => check_ok (u : Int) w (by omega) (by omega)
  have hi := Tryz.strconv_Itoa ((u / 1000 : Nat) : Int) (by omega) (by omega) w htab
  rw [Lib.itoa_nonneg, show ((u / 1000 : Nat) : Int) = (u : Int) / 1000 by omega] at hi
  have hf := fun w => fraction_any (u % 1000) w (by omega)
  rw [show ((u % 1000 : Nat) : Int) = (u : Int) % 1000 by omega] at hf
  have l1 := dec_len' (u / 1000) (by omega)
  have l2 := frac_len (u % 1000)
  generalize Lib.decDigits (u / 1000) = x at *
  generalize frac (u % 1000) = y at *
  go_enter Tryz.func213, Tryz.ntmps213
  go_wp2_with (first
    | (go_at_call 280; refine (hc _).mono ?_; rintro e w' ⟨rfl, rfl⟩)
    | (go_at_call 88; refine hi.mono ?_; rintro e w' ⟨rfl, k, os, hw1⟩)
    | (go_at_call 284; refine (hf _).mono ?_; rintro e w' ⟨rfl, hb⟩))
  go_ret2
  exact ⟨ret2_str (cat3 [] x y), (below_grow _ k os).trans (hb.mono (below_grow _ k os).size)⟩

set_option maxHeartbeats 400000 in
theorem text_neg (u : Nat) (w : World) (htab : Tab w) (hu : u ≤ 1000000000) (h1 : 1 ≤ u) :
    Calls Tryz.prog 213 #[.int .i64 (-(u : Int))] w fun e w' => e = .returned (.tuple #[.string ⟨(45 :: (Lib.decDigits (u / 1000) ++ frac (u % 1000))).toArray⟩, .nilIface]) ∧ Below w.heap.size w w' := by
  have hc := fun w => check_ok (-(u : Int)) w (by omega) (by omega)
  have hi := Tryz.strconv_Itoa ((u / 1000 : Nat) : Int) (by omega) (by omega) w htab
  rw [Lib.itoa_nonneg, show ((u / 1000 : Nat) : Int) = (u : Int) / 1000 by omega] at hi
  have hf := fun w => fraction_any (u % 1000) w (by omega)
  rw [show ((u % 1000 : Nat) : Int) = (u : Int) % 1000 by omega] at hf
  have l1 := dec_len' (u / 1000) (by omega)
  have l2 := frac_len (u % 1000)
  generalize Lib.decDigits (u / 1000) = x at *
  generalize frac (u % 1000) = y at *
  have hneg : -(u : Int) < 0 := by omega
  go_enter Tryz.func213, Tryz.ntmps213
  go_wp2_with (first
    | (go_at_call 280; refine (hc _).mono ?_; rintro e w' ⟨rfl, rfl⟩)
    | (go_at_call 88; refine hi.mono ?_; rintro e w' ⟨rfl, k, os, hw1⟩)
    | (go_at_call 284; refine (hf _).mono ?_; rintro e w' ⟨rfl, hb⟩))
  go_ret2
  exact ⟨ret2_str (cat3 [45] x y), (below_grow _ k os).trans (hb.mono (below_grow _ k os).size)⟩

theorem text_ok (n : Int) (w : World) (htab : Tab w) (h : okF n = true) :
    Calls Tryz.prog 213 #[.int .i64 n] w fun e w' => e = .returned (.tuple #[.string ⟨(fixTxt n).toArray⟩, .nilIface]) ∧ Below w.heap.size w w' := by
  have h' := okF_iff.1 h
  by_cases hn : 0 ≤ n
  · obtain ⟨u, rfl⟩ : ∃ u : Nat, n = u := ⟨n.toNat, by omega⟩
    rw [fixTxt_nonneg]; exact text_nonneg u w htab (by omega)
  · obtain ⟨u, rfl⟩ : ∃ u : Nat, n = -(u : Int) := ⟨n.natAbs, by omega⟩
    rw [fixTxt_neg u (by omega)]; exact text_neg u w htab (by omega) (by omega)

set_option maxHeartbeats 400000 in
theorem text_bad (n : Int) (w : World) (h : okF n = false) :
    Calls Tryz.prog 213 #[.int .i64 n] w fun e w' => e = .returned (.tuple #[.string ⟨#[]⟩, errV 1]) ∧ w' = w := by
  have hc : ∀ w, Calls Tryz.prog 280 #[.int .i64 n] w fun e w' => e = .returned (.iface 86 (.int .i64 1)) ∧ w' = w := fun w => by have := check_any n w; rwa [flt_bad h, errN_1] at this
  go_enter Tryz.func213, Tryz.ntmps213
  go_wp2_with (go_at_call 280; refine (hc _).mono ?_; rintro e w' ⟨rfl, rfl⟩)
  go_ret2
  exact ⟨rfl, rfl⟩
end Go.Proofs.YtefbfgcbbpmhlabGreatDoor

/-
  Plain: what a text is as a number (A2), by its whole digits and those behind the point; two ways to reckon it that stop at great numbers.
-/
namespace Go.Proofs.YtefbfgcbbpmhlabGreatDoor
open Go.RowKit

def isD (c : UInt8) : Bool := decide (48 ≤ c.toNat) && decide (c.toNat ≤ 57)
def allD (l : List UInt8) : Bool := l.all isD
def valD (acc : Nat) : List UInt8 → Nat
  | [] => acc
  | c :: l => valD (10 * acc + (c.toNat - 48)) l
def satD (acc : Nat) : List UInt8 → Nat
  | [] => acc
  | c :: l => if 1000000000 < acc then acc else satD (10 * acc + (c.toNat - 48)) l
def satW (acc : Nat) : List UInt8 → Nat
  | [] => acc
  | c :: l => satW (if acc < 10000000 then 10 * acc + (c.toNat - 48) else acc) l
def wholeOf (r : List UInt8) : List UInt8 := r.takeWhile (· != 46)
def partOf (r : List UInt8) : List UInt8 := (r.dropWhile (· != 46)).drop 1
def goodF (r : List UInt8) : Bool := allD (wholeOf r) && allD (partOf r) && !((wholeOf r).length + (partOf r).length == 0)
def worth (k : Nat) : Nat := if k = 0 then 100 else if k = 1 then 10 else if k = 2 then 1 else 0
def frac3 : List UInt8 → Nat
  | [] => 0
  | [a] => 100 * (a.toNat - 48)
  | [a, b] => 100 * (a.toNat - 48) + 10 * (b.toNat - 48)
  | a :: b :: c :: _ => 100 * (a.toNat - 48) + 10 * (b.toNat - 48) + (c.toNat - 48)
def magF (r : List UInt8) : Nat := 1000 * valD 0 (wholeOf r) + frac3 (partOf r)
/-- What is behind a sign, if there is one. -/
def bodyF : List UInt8 → List UInt8
  | [] => []
  | c :: l => if c = 45 ∨ c = 43 then l else c :: l
def negF : List UInt8 → Bool
  | [] => false
  | c :: _ => c == 45
def parseE (s : List UInt8) : Int := if goodF (bodyF s) = false then 4 else if 1000000000 < magF (bodyF s) then 1 else 0
def parseN (s : List UInt8) : Int := if parseE s = 0 then (if negF s then -(magF (bodyF s) : Int) else magF (bodyF s)) else 0

theorem valD_le : ∀ (l : List UInt8) (acc : Nat), acc ≤ valD acc l
  | [], _ => Nat.le_refl _
  | c :: l, acc => by have := valD_le l (10 * acc + (c.toNat - 48)); unfold valD; omega
theorem valD_mono : ∀ (l : List UInt8) (a b : Nat), a ≤ b → valD a l ≤ valD b l
  | [], _, _, h => h
  | c :: l, a, b, h => valD_mono l _ _ (by omega)
def Sat (m x y : Nat) : Prop := x = y ∨ (m < x ∧ m < y)
theorem satD_sat : ∀ (l : List UInt8) (x y : Nat), Sat 1000000000 x y → Sat 1000000000 (satD x l) (valD y l)
  | [], _, _, h => h
  | c :: l, x, y, h => by
    unfold satD valD
    split
    · rename_i hx
      refine Or.inr ⟨hx, ?_⟩
      have := valD_le l (10 * y + (c.toNat - 48))
      rcases h with rfl | h <;> omega
    · rename_i hx
      rcases h with rfl | h
      · exact satD_sat l _ _ (Or.inl rfl)
      · omega
theorem satD_le : ∀ (l : List UInt8) (x : Nat), allD l = true → x ≤ 10000000009 → satD x l ≤ 10000000009
  | [], _, _, h => h
  | c :: l, x, hd, h => by
    unfold satD
    simp only [allD, List.all_cons, Bool.and_eq_true, isD, decide_eq_true_eq] at hd
    split
    · exact h
    · exact satD_le l _ hd.2 (by omega)
theorem satW_sat : ∀ (l : List UInt8) (x y : Nat), Sat 9999999 x y → Sat 9999999 (satW x l) (valD y l)
  | [], _, _, h => h
  | c :: l, x, y, h => by
    unfold satW valD
    refine satW_sat l _ _ ?_
    split
    · rcases h with rfl | h
      · exact Or.inl rfl
      · omega
    · rcases h with rfl | h
      · exact Or.inr (by omega)
      · exact Or.inr (by omega)
theorem satW_le : ∀ (l : List UInt8) (x : Nat), allD l = true → x ≤ 100000000 → satW x l ≤ 100000000
  | [], _, _, h => h
  | c :: l, x, hd, h => by
    unfold satW
    simp only [allD, List.all_cons, Bool.and_eq_true, isD, decide_eq_true_eq] at hd
    refine satW_le l _ hd.2 ?_
    split <;> omega
theorem satW_snoc : ∀ (l : List UInt8) (x : Nat) (c : UInt8), satW x (l ++ [c]) = if satW x l < 10000000 then 10 * satW x l + (c.toNat - 48) else satW x l
  | [], _, _ => rfl
  | _ :: l, _, c => by rw [List.cons_append, satW, satW]; exact satW_snoc l _ c
theorem frac3_snoc : ∀ (l : List UInt8) (c : UInt8), frac3 (l ++ [c]) = frac3 l + worth l.length * (c.toNat - 48)
  | [], c => by simp [frac3, worth]
  | [a], c => by simp [frac3, worth]
  | [a, b], c => by simp [frac3, worth]
  | a :: b :: d :: l, c => by simp [frac3, worth]
theorem frac3_lt : ∀ (l : List UInt8), allD l = true → frac3 l ≤ 999
  | [], _ => by simp [frac3]
  | [a], h => by simp [allD, isD] at h; simp [frac3]; omega
  | [a, b], h => by simp [allD, isD] at h; simp [frac3]; omega
  | a :: b :: d :: l, h => by simp only [allD, List.all_cons, Bool.and_eq_true, isD, decide_eq_true_eq] at h; simp only [frac3]; omega
theorem worth_step (k : Nat) : worth k / 10 = worth (k + 1) := by
  unfold worth
  by_cases h0 : k = 0
  · subst h0; rfl
  · by_cases h1 : k = 1
    · subst h1; rfl
    · by_cases h2 : k = 2
      · subst h2; rfl
      · rw [if_neg h0, if_neg h1, if_neg h2, if_neg (by omega), if_neg (by omega), if_neg (by omega)]

theorem not46 {c : UInt8} (h : isD c = true) : c ≠ 46 := by
  rintro rfl; simp [isD] at h
theorem no46 {a : List UInt8} (h : allD a = true) : ∀ c ∈ a, (c != 46) = true := by
  intro c hc
  have := not46 (List.all_eq_true.1 h c hc)
  simpa using this
theorem whole_none {a : List UInt8} (h : allD a = true) : wholeOf a = a ∧ partOf a = [] := by
  have h' := no46 h
  constructor
  · have := List.takeWhile_append_of_pos (l₂ := []) h'
    simpa [wholeOf] using this
  · have := List.dropWhile_append_of_pos (l₂ := []) h'
    have h2 : a.dropWhile (· != 46) = [] := by simpa using this
    unfold partOf; rw [h2]; rfl
theorem whole_dot {a : List UInt8} (b : List UInt8) (h : allD a = true) : wholeOf (a ++ 46 :: b) = a ∧ partOf (a ++ 46 :: b) = b := by
  have h' := no46 h
  constructor
  · unfold wholeOf; rw [List.takeWhile_append_of_pos h']; simp
  · unfold partOf; rw [List.dropWhile_append_of_pos h']; simp
/-- A byte that is neither a digit nor the point, behind digits: no number. -/
theorem bad_whole {a : List UInt8} {c : UInt8} (b : List UInt8) (h : allD a = true) (hc : isD c = false) (h46 : c ≠ 46) : goodF (a ++ c :: b) = false := by
  have h' := no46 h
  have : allD (wholeOf (a ++ c :: b)) = false := by
    unfold wholeOf; rw [List.takeWhile_append_of_pos h', List.takeWhile_cons_of_pos (by simpa using h46)]
    simp [allD, hc]
  simp [goodF, this]
theorem bad_part {a b : List UInt8} {c : UInt8} (d : List UInt8) (h : allD a = true) (hc : isD c = false) : goodF (a ++ 46 :: (b ++ c :: d)) = false := by
  have h2 := (whole_dot (b ++ c :: d) h).2
  have : allD (partOf (a ++ 46 :: (b ++ c :: d))) = false := by rw [h2]; simp [allD, hc]
  simp [goodF, this]
theorem cut_dot : ∀ r : List UInt8, (Lib.cut r [46]).1 = wholeOf r ∧ (Lib.cut r [46]).2.1 = partOf r
  | [] => ⟨rfl, rfl⟩
  | c :: l => by
    have ih := cut_dot l
    have hge := Lib.index_ge l [46]
    by_cases hc : c = 46
    · subst hc
      have hi : Lib.index (46 :: l) [46] = 0 := by simp [Lib.index]
      unfold Lib.cut; rw [hi]; simp [wholeOf, partOf]
    · have hp : ([46] : List UInt8).isPrefixOf (c :: l) = false := by
        simp [List.isPrefixOf]; exact fun h => hc h.symm
      have hw : wholeOf (c :: l) = c :: wholeOf l := by unfold wholeOf; rw [List.takeWhile_cons_of_pos (by simpa using hc)]
      have hq : partOf (c :: l) = partOf l := by unfold partOf; rw [List.dropWhile_cons_of_pos (by simpa using hc)]
      rw [hw, hq]
      unfold Lib.cut at *
      by_cases hl : Lib.index l [46] = -1
      · have hi : Lib.index (c :: l) [46] = -1 := by rw [Lib.index, hp]; simp [hl]
        rw [hl] at ih; rw [hi]
        simp at *; exact ih
      · have hi : Lib.index (c :: l) [46] = Lib.index l [46] + 1 := by rw [Lib.index, hp]; simp [hl]
        rw [if_pos (by omega)] at ih
        rw [if_pos (by omega), hi]
        have e : (Lib.index l [46] + 1).toNat = (Lib.index l [46]).toNat + 1 := by omega
        rw [e]
        simp at *
        refine ⟨ih.1, ?_⟩
        rw [← ih.2]
theorem satD_snoc : ∀ (l : List UInt8) (x : Nat) (c : UInt8), satD x (l ++ [c]) = satD (satD x l) [c]
  | [], _, _ => rfl
  | d :: l, x, c => by
    rw [List.cons_append, satD, satD.eq_def x (d :: l)]
    dsimp only
    by_cases h : 1000000000 < x
    · rw [if_pos h, if_pos h]; simp [satD, h]
    · rw [if_neg h, if_neg h]; exact satD_snoc l _ c
theorem satD_append : ∀ (l m : List UInt8) (x : Nat), satD x (l ++ m) = satD (satD x l) m
  | [], _, _ => rfl
  | d :: l, m, x => by
    rw [List.cons_append, satD, satD.eq_def x (d :: l)]
    dsimp only
    by_cases h : 1000000000 < x
    · rw [if_pos h, if_pos h]
      cases m with
      | nil => rfl
      | cons c m => rw [satD, if_pos h]
    · rw [if_neg h, if_neg h]; exact satD_append l m _
theorem valD_append : ∀ (l m : List UInt8) (x : Nat), valD x (l ++ m) = valD (valD x l) m
  | [], _, _ => rfl
  | _ :: l, m, _ => valD_append l m _
theorem z48 : (48 : UInt8).toNat - 48 = 0 := rfl
theorem valD3 (w : Nat) (a b c : UInt8) : valD w [a, b, c] = 1000 * w + (100 * (a.toNat - 48) + 10 * (b.toNat - 48) + (c.toNat - 48)) := by
  show 10 * (10 * (10 * w + (a.toNat - 48)) + (b.toNat - 48)) + (c.toNat - 48) = _
  generalize a.toNat - 48 = x
  generalize b.toNat - 48 = y
  generalize c.toNat - 48 = z
  omega
theorem mag_val (w : Nat) (p : List UInt8) : valD w (p.take 3 ++ List.replicate (3 - (p.take 3).length) 48) = 1000 * w + frac3 p := by
  rcases p with _ | ⟨a, _ | ⟨b, _ | ⟨c, l⟩⟩⟩
  · have e : ([] : List UInt8).take 3 ++ List.replicate (3 - (([] : List UInt8).take 3).length) 48 = [48, 48, 48] := by simp [List.replicate]
    rw [e, valD3, z48]; simp only [frac3]
  · have e : [a].take 3 ++ List.replicate (3 - ([a].take 3).length) 48 = [a, 48, 48] := by simp [List.replicate]
    rw [e, valD3, z48]; simp only [frac3]; omega
  · have e : [a, b].take 3 ++ List.replicate (3 - ([a, b].take 3).length) 48 = [a, b, 48] := by simp
    rw [e, valD3, z48]; simp only [frac3]; omega
  · have e : (a :: b :: c :: l).take 3 ++ List.replicate (3 - ((a :: b :: c :: l).take 3).length) 48 = [a, b, c] := by simp
    rw [e, valD3]; simp only [frac3]
/-- What the program reckons, round by round, against what the text is. -/
theorem sat_mag (r : List UInt8) : Sat 1000000000 (satD (satD (satD 0 (wholeOf r)) ((partOf r).take 3)) (List.replicate (3 - ((partOf r).take 3).length) 48)) (magF r) := by
  rw [← satD_append, ← satD_append]
  have h := satD_sat (wholeOf r ++ ((partOf r).take 3 ++ List.replicate (3 - ((partOf r).take 3).length) 48)) 0 0 (Or.inl rfl)
  rw [valD_append, mag_val] at h
  exact h
theorem bodyF_neg (l : List UInt8) : bodyF (45 :: l) = l := by simp [bodyF]
theorem bodyF_pos (l : List UInt8) : bodyF (43 :: l) = l := by simp [bodyF]
theorem bodyF_else {c : UInt8} (l : List UInt8) (h1 : c ≠ 45) (h2 : c ≠ 43) : bodyF (c :: l) = c :: l := by simp [bodyF, h1, h2]
theorem goodF_iff {r : List UInt8} : goodF r = true ↔ allD (wholeOf r) = true ∧ allD (partOf r) = true ∧ (wholeOf r).length + (partOf r).length ≠ 0 := by
  simp [goodF, and_assoc]
end Go.Proofs.YtefbfgcbbpmhlabGreatDoor
