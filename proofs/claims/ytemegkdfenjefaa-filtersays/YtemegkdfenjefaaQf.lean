/-
  Filters of the program: what is made to the base 85.
-/
import Derived.Test.YtemegkdfenjefaaQe
namespace Go.Proofs.Ytemegkdfenjefaa
open Go.RowKit
set_option maxRecDepth 100000

def strLen : Value → Nat
  | .string t => t.size
  | _ => 0
theorem ext_list (t : ByteArray) (i j : Nat) : (t.extract i j).data.toList = (t.data.toList.drop i).take (j - i) := by
  rw [ByteArray.data_extract, Array.toList_extract, List.extract_eq_take_drop]
theorem ext_tail (t : ByteArray) (i : Nat) : (t.extract i t.size).data.toList = t.data.toList.drop i := by
  rw [ext_list, List.take_of_length_le (by simp)]
theorem ext_size (t : ByteArray) (i j : Nat) (hj : j ≤ t.size) : (t.extract i j).size = j - i := by
  rw [ByteArray.size_extract]; omega
theorem ba_len (t : ByteArray) : t.data.toList.length = t.size := by simp
theorem four_of {l : List UInt8} (h : 4 ≤ l.length) : ∃ a b c d r, l = a :: b :: c :: d :: r := by
  match l, h with
  | a :: b :: c :: d :: r, _ => exact ⟨a, b, c, d, r, rfl⟩
theorem three_of {l : List UInt8} (h : l.length < 4) (h0 : l ≠ []) : fiveMk l = sgn5 (num4 l) (l.length + 1) ++ [126, 62] := by
  match l, h, h0 with
  | [], _, h0 => exact absurd rfl h0
  | [a], _, _ => rfl
  | [a, b], _, _ => rfl
  | [a, b, c], _, _ => rfl
  | a :: b :: c :: d :: r, h, _ => simp at h; omega
set_option maxHeartbeats 1000000 in
theorem pMakeFive (s : ByteArray) (w : World) (hs : s.size ≤ 100000) :
    Calls Try.prog 20 #[.string s] w fun e w' => ∃ v', e = .returned v' ∧ Own8 w' w.heap.size v' (fiveMk s.data.toList) ∧ Below w.heap.size w w' := by
  have hfl := fiveMk_len s.data.toList
  rw [ba_len] at hfl
  have HFL := hid hfl
  clear hfl
  go_enter Try.func20, Try.ntmps20
  go_wp2
  go_loopw [0, 3] (fun sv bv wr => ∃ (t : ByteArray) (pre : List UInt8), sv = .string t ∧ t.size ≤ s.size ∧ pre ++ fiveMk t.data.toList = fiveMk s.data.toList ∧ Own8 wr w.heap.size bv pre ∧ Below w.heap.size w wr) (fun sv _ _ => strLen sv)
  case atStart => exact ⟨s, [], rfl, Nat.le_refl _, rfl, Own8.nil _ _, Below.refl _ _⟩
  case round =>
    obtain ⟨t, pre, rfl, ht, hpre, hown, hb⟩ := hrel
    have hbs := hb.size
    have hpl : pre.length ≤ 200004 := by
      have h1 := congrArg List.length hpre
      have h2 := HFL.out
      rw [List.length_append] at h1; omega
    have HPRE := hid hpre
    clear hpre
    by_cases h4 : (4 : Int) ≤ t.size
    · obtain ⟨a, b, c, d, r, hl⟩ := four_of (l := t.data.toList) (by rw [ba_len]; omega)
      have HM := hid (show fiveMk t.data.toList = five4 (num4 [a, b, c, d]) ++ fiveMk r by rw [hl]; rfl)
      have HX := hid (show (t.extract 0 4).data.toList = [a, b, c, d] by rw [ext_list, hl]; rfl)
      have HT := hid (show (t.extract 4 t.size).data.toList = r by rw [ext_tail, hl]; rfl)
      have HZ := hid (ext_size t 4 t.size (Nat.le_refl _))
      have hn := num4_lt [a, b, c, d]
      have HNum := hid (show num4 (t.extract 0 4).data.toList = num4 [a, b, c, d] by rw [HX.out])
      clear hl
      generalize num4 [a, b, c, d] = n at *
      by_cases h0 : n = 0
      · have HF := hid (show five4 n = [122] by rw [h0]; rfl)
        have h0' : (n : Int) = 0 := by omega
        go_wp2_with (first
          | (go_at_call 28; refine (pNumber _ _).mono ?_; rintro e w1 ⟨rfl, rfl⟩; rw [HNum.out])
          | (at_builtin; refine wpApp8 rfl (.tmp 13) (.tmp 14) rfl w.heap.size _ pre rfl hown _ [122] 1 1 rfl rfl rfl (by omega) hbs ?_; intro v1 w1 hown1 hk1))
        go_roundw
        case rel =>
          refine ⟨_, pre ++ [122], rfl, ?_, ?_, hown1, hb.trans hk1.below⟩
          · have := HZ.out; omega
          · rw [HT.out, List.append_assoc, ← HF.out, ← HM.out]; exact HPRE.out
        case measure => have := HZ.out; simp only [strLen]; omega
      · have HF := hid (show five4 n = sgn5 n 5 by unfold five4; rw [if_neg h0])
        have h0' : ((n : Int) == 0) = false := by simpa using h0
        go_wp2_with (first
          | (go_at_call 28; refine (pNumber _ _).mono ?_; rintro e w1 ⟨rfl, rfl⟩; rw [HNum.out])
          | (go_at_call 30; refine (pDigits n _ hn).mono ?_; rintro e w2 ⟨rfl, hb2⟩)
          | (go_at_call 29; refine (pWrite n 5 w.heap.size _ pre _ (by omega) (hown.later hb2) (Nat.le_trans hbs hb2.size) (by omega)).mono ?_; rintro e w3 ⟨v3, rfl, hown3, hk3⟩))
        go_roundw
        case rel =>
          refine ⟨_, pre ++ sgn5 n 5, rfl, ?_, ?_, hown3, (hb.trans (hb2.mono hbs)).trans hk3.below⟩
          · have := HZ.out; omega
          · rw [HT.out, List.append_assoc, ← HF.out, ← HM.out]; exact HPRE.out
        case measure => have := HZ.out; simp only [strLen]; omega
    · by_cases hz : t.size = 0
      · have he : (t.toList == []) = true := by
          rw [ByteArray.toList_eq]
          rw [List.eq_nil_of_length_eq_zero (l := t.data.toList) (by rw [ba_len]; exact hz)]; rfl
        have HF := hid (show fiveMk t.data.toList = [126, 62] by
          rw [List.eq_nil_of_length_eq_zero (l := t.data.toList) (by rw [ba_len]; exact hz)]; rfl)
        go_wp2_with (at_builtin; refine wpApp8s rfl (.tmp 32) _ rfl w.heap.size _ pre rfl hown _ rfl [126, 62] rfl (by simp [ByteArray.size]; omega) hbs ?_; intro v1 w1 hown1 hk1)
        go_ret
        refine ⟨_, rfl, ?_, hb.trans hk1.below⟩
        rw [← HPRE.out, HF.out]; exact hown1
      · have hne : t.data.toList ≠ [] := fun e => hz (by rw [← ba_len, e]; rfl)
        have he : (t.toList == []) = false := by
          rw [ByteArray.toList_eq]; simpa using hne
        have HF := hid (three_of (l := t.data.toList) (by rw [ba_len]; omega) hne)
        have HLn := hid (ba_len t)
        have hn := num4_lt t.data.toList
        generalize hnn : num4 t.data.toList = n at *
        have HN := hid hnn
        clear hnn hne
        go_wp2_with (first
          | (go_at_call 28; refine (pNumber _ _).mono ?_; rintro e w1 ⟨rfl, rfl⟩; rw [HN.out])
          | (go_at_call 30; refine (pDigits n _ hn).mono ?_; rintro e w2 ⟨rfl, hb2⟩)
          | (go_at_call 29; refine (pWrite n (t.size + 1) w.heap.size _ pre _ (by omega) (hown.later hb2) (Nat.le_trans hbs hb2.size) (by omega)).mono ?_; rintro e w3 ⟨v3, rfl, hown3, hk3⟩)
          | (at_builtin; refine wpApp8s rfl (.tmp 32) _ rfl w.heap.size _ (pre ++ sgn5 n (t.size + 1)) rfl hown3 _ rfl [126, 62] rfl (by rw [List.length_append, sgn5_len]; show _ + (2 : Nat) ≤ _; omega) (Nat.le_trans (Nat.le_trans hbs hb2.size) hk3.size) ?_; intro v1 w1 hown1 hk1))
        go_ret
        refine ⟨_, rfl, ?_, ((hb.trans (hb2.mono hbs)).trans hk3.below).trans hk1.below⟩
        rw [← HPRE.out, HF.out, HLn.out]; simpa using hown1
end Go.Proofs.Ytemegkdfenjefaa
