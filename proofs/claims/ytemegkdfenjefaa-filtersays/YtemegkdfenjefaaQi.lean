/-
  Filters of the program: runs are taken apart.
-/
import Derived.Test.YtemegkdfenjefaaQh
namespace Go.Proofs.Ytemegkdfenjefaa
open Go.RowKit
set_option maxRecDepth 100000

theorem own8_slice {w : World} {B : Nat} {v : Value} {xs : List UInt8} (h : Own8 w B v xs) : ∃ a c, v = .slice a xs.length c := by
  obtain ⟨_, ⟨rfl, h⟩ | ⟨g, cap, cur, rfl, _⟩⟩ := h
  · exact ⟨none, 0, by rw [show xs.length = 0 from h.symm ▸ rfl]⟩
  · exact ⟨_, _, rfl⟩
theorem ext2 (t : ByteArray) (r : List UInt8) (n : Nat) (h : t.data.toList.drop 1 = r) : ((t.extract 1 t.size).extract 0 n).data.toList = r.take n := by
  rw [ext_list, ext_tail, h]; rfl
theorem ext3 (t : ByteArray) (r : List UInt8) (n : Nat) (h : t.data.toList.drop 1 = r) : ((t.extract 1 t.size).extract n (t.size - 1)).data.toList = r.drop n := by
  rw [show t.size - 1 = (t.extract 1 t.size).size from (ext_size _ _ _ (Nat.le_refl _)).symm, ext_tail, ext_tail, h]
theorem ext3_size (t : ByteArray) (n : Nat) : ((t.extract 1 t.size).extract n (t.size - 1)).size = t.size - 1 - n :=
  ext_size _ _ _ (by rw [ext_size _ _ _ (Nat.le_refl _)]; omega)
theorem pRunLo (n : Nat) (t : ByteArray) (r : List UInt8) (B : Nat) (sv : Value) (xs : List UInt8) (w : World) (hn : n < 128) (hr : t.data.toList.drop 1 = r) (h0 : n + 1 ≤ t.size - 1) (hown : Own8 w B sv xs) (hB : B ≤ w.heap.size) (hl : xs.length ≤ 100000000) :
    Calls Try.prog 38 #[sv, .int .i64 n, .string ((t.extract 1 t.size).extract 0 (n + 1))] w fun e w' => ∃ (a : Option Addr) (m c : Nat) (ys : List UInt8), e = .returned (.slice a m c) ∧ Own8 w' B (.slice a m c) ys ∧ Kept8 B w w' ∧ Hid (ys = xs ++ r.take (n + 1)) ∧ Hid (m = ys.length) := by
  have hz : ((t.extract 1 t.size).extract 0 (n + 1)).size = n + 1 := by
    rw [ext_size _ _ _ (by rw [ext_size _ _ _ (Nat.le_refl _)]; omega)]; rfl
  refine (pRun n _ B sv xs w (by omega) (by omega) (by omega) hown hB hl).mono ?_
  rintro e w' ⟨v', rfl, h1, h2⟩
  rw [if_pos hn, ext2 t r (n + 1) hr] at h1
  obtain ⟨a, c, rfl⟩ := own8_slice h1
  exact ⟨a, _, c, _, rfl, h1, h2, rfl, rfl⟩
theorem pRunHi (n : Nat) (t : ByteArray) (r : List UInt8) (B : Nat) (sv : Value) (xs : List UInt8) (w : World) (hn : 128 ≤ n) (hn2 : n < 256) (hr : t.data.toList.drop 1 = r) (h0 : 1 ≤ t.size - 1) (hown : Own8 w B sv xs) (hB : B ≤ w.heap.size) (hl : xs.length ≤ 100000000) :
    Calls Try.prog 38 #[sv, .int .i64 n, .string ((t.extract 1 t.size).extract 0 1)] w fun e w' => ∃ (a : Option Addr) (m c : Nat) (ys : List UInt8), e = .returned (.slice a m c) ∧ Own8 w' B (.slice a m c) ys ∧ Kept8 B w w' ∧ Hid (ys = xs ++ List.replicate (257 - n) (r.headD 0)) ∧ Hid (m = ys.length) := by
  have hz : ((t.extract 1 t.size).extract 0 1).size = 1 := by
    rw [ext_size _ _ _ (by rw [ext_size _ _ _ (Nat.le_refl _)]; omega)]
  have hx : 0 < ((t.extract 1 t.size).extract 0 1).size := by omega
  refine (pRun n _ B sv xs w (by omega) hx (by omega) hown hB hl).mono ?_
  rintro e w' ⟨v', rfl, h1, h2⟩
  have e0 : ((t.extract 1 t.size).extract 0 1)[0] = r.headD 0 := by
    obtain ⟨q, hq⟩ := cons_of hx
    have h3 := ext2 t r 1 hr
    rw [hq] at h3
    cases r with
    | nil => simp at h3
    | cons c r => simp at h3; exact h3.1
  rw [if_neg (by omega), e0] at h1
  obtain ⟨a, c, rfl⟩ := own8_slice h1
  exact ⟨a, _, c, _, rfl, h1, h2, rfl, rfl⟩
set_option maxHeartbeats 1000000 in
theorem pTakeRuns (s : ByteArray) (w : World) :
    Calls Try.prog 25 #[.string s] w fun e w' => ∃ v', e = .returned (.tuple #[v', errN (runsTk s.data.toList []).1]) ∧ Own8 w' w.heap.size v' (runsTk s.data.toList []).2 ∧ Below w.heap.size w w' := by
  generalize hR : runsTk s.data.toList [] = R
  have HR0 := hid hR
  clear hR
  go_enter Try.func25, Try.ntmps25
  go_wp2
  go_loopw [0, 4] (fun sv bv wr => ∃ (t : ByteArray) (pre : List UInt8), sv = .string t ∧ t.size ≤ s.size ∧ pre.length ≤ 20000 ∧ runsTk t.data.toList pre = R ∧ Own8 wr w.heap.size bv pre ∧ Below w.heap.size w wr) (fun sv _ _ => strLen sv)
  case atStart => exact ⟨s, [], rfl, Nat.le_refl _, by simp, HR0.out, Own8.nil _ _, Below.refl _ _⟩
  case round =>
    clear HR0
    obtain ⟨t, pre, rfl, ht, hpl, hR, hown, hb⟩ := hrel
    have hbs := hb.size
    have HR := hid hR
    clear hR
    by_cases h0 : 0 < t.size
    · have he := ba_ne h0
      obtain ⟨r, hr⟩ := cons_of h0
      have HC := hid (runsTk_cons t[0] r pre)
      have HRR := hid (show runsTk (t[0] :: r) pre = R by rw [← hr]; exact HR.out)
      have HX := hid (show t.data.toList.drop 1 = r by rw [hr]; rfl)
      have hrl : r.length + 1 = t.size := by rw [← ba_len, hr]; rfl
      have h0' : (0 : Int) < t.size := by omega
      have hc := t[0].toNat_lt
      clear hr HR
      by_cases h128 : (t[0].toNat : Int) = 128
      · go_wp2
        go_ret2
        have h1 := HRR.out
        rw [HC.out, if_pos (by omega)] at h1
        subst h1
        exact ⟨_, rfl, hown, hb⟩
      · have h128' : ((t[0].toNat : Int) == 128) = false := by simpa using h128
        by_cases hlo : (t[0].toNat : Int) < 128
        · by_cases hlen : (t.size : Int) - 1 < (t[0].toNat : Int) + 1
          · go_wp2
            go_ret2
            have h1 := HRR.out
            rw [HC.out, if_neg (by omega), if_pos (by omega), if_pos (by omega)] at h1
            subst h1
            exact ⟨_, rfl, Own8.nil _ _, hb⟩
          · go_wp2_with (go_at_call 38; go_must (refine (pRunLo t[0].toNat t r w.heap.size _ pre _ (by omega) HX.out (by omega) hown hbs (by omega)).mono ?_); rintro e w2 ⟨a2, m2, c2, ys, rfl, hown2, hk2, HY, HM⟩)
            all_goals have h1 := HRR.out
            all_goals rw [HC.out, if_neg (by omega), if_pos (by omega), if_neg (by omega), ← HY.out, ← HM.out] at h1
            · rw [if_pos (by omega)] at h1
              subst h1
              go_ret2
              exact ⟨_, rfl, Own8.nil _ _, hb.trans hk2.below⟩
            · rw [if_neg (by omega)] at h1
              go_roundw
              case rel =>
                refine ⟨_, ys, rfl, ?_, by have := HM.out; omega, ?_, hown2, hb.trans hk2.below⟩
                · rw [ext3_size]; omega
                · rw [ext3 t r _ HX.out]; exact h1
              case measure => simp only [strLen]; rw [ext3_size]; omega
        · by_cases hlen : (t.size : Int) - 1 < 1
          · go_wp2
            go_ret2
            have h1 := HRR.out
            rw [HC.out, if_neg (by omega), if_neg (by omega), if_pos (by omega)] at h1
            subst h1
            exact ⟨_, rfl, Own8.nil _ _, hb⟩
          · go_wp2_with (go_at_call 38; go_must (refine (pRunHi t[0].toNat t r w.heap.size _ pre _ (by omega) (by omega) HX.out (by omega) hown hbs (by omega)).mono ?_); rintro e w2 ⟨a2, m2, c2, ys, rfl, hown2, hk2, HY, HM⟩)
            all_goals have h1 := HRR.out
            all_goals rw [HC.out, if_neg (by omega), if_neg (by omega), if_neg (by omega), ← HY.out, ← HM.out] at h1
            · rw [if_pos (by omega)] at h1
              subst h1
              go_ret2
              exact ⟨_, rfl, Own8.nil _ _, hb.trans hk2.below⟩
            · rw [if_neg (by omega)] at h1
              go_roundw
              case rel =>
                refine ⟨_, ys, rfl, ?_, by have := HM.out; omega, ?_, hown2, hb.trans hk2.below⟩
                · rw [ext3_size]; omega
                · rw [ext3 t r _ HX.out]; exact h1
              case measure => simp only [strLen]; rw [ext3_size]; omega
    · have hz : t.size = 0 := by omega
      have he := ba_nilB hz
      go_wp2
      go_ret2
      have h1 := HR.out
      rw [ba_nil hz, runsTk_nil] at h1
      subst h1
      exact ⟨_, rfl, Own8.nil _ _, hb⟩
end Go.Proofs.Ytemegkdfenjefaa
