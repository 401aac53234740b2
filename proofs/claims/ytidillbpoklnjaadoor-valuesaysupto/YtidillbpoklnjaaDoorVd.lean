/-
  What may be: names, and values; the document's own answers about them (look only).
-/
import Derived.Test.YtidillbpoklnjaaDoorVh
import Derived.Test.YtidillbpoklnjaaDoorFe
import Derived.Test.YtidillbpoklnjaaDoorShelf
namespace Go.Proofs.YtidillbpoklnjaaDoor
open Go.RowKit
set_option maxRecDepth 100000

/-- May something be called so? -/
def nmOk (s : ByteArray) : Bool := decide (1 ≤ s.size) && decide (s.size ≤ 200) && !(s.data.toList.contains 0)
theorem nmOk_zero {s : ByteArray} {k : Nat} (h : k < s.size) (hz : s[k].toNat = 0) : nmOk s = false := by
  have : (0 : UInt8) ∈ s.data.toList := by
    have e : s[k] = 0 := UInt8.toNat_inj.1 (by simpa using hz)
    rw [← e]
    exact List.mem_iff_getElem?.2 ⟨k, by rw [List.getElem?_eq_getElem (by simpa using h)]; rfl⟩
  simp [nmOk, this]
theorem nmOk_all {s : ByteArray} (h1 : 1 ≤ s.size) (h2 : s.size ≤ 200) (h : (s.data.toList.take s.size).contains 0 = false) : nmOk s = true := by
  rw [List.take_of_length_le (by simp)] at h
  simp only [nmOk, h, h1, h2]; rfl
theorem nmOk_len {s : ByteArray} (h : s.size < 1 ∨ 200 < s.size) : nmOk s = false := by
  unfold nmOk
  rcases h with h | h
  · rw [decide_eq_false (p := 1 ≤ s.size) (by omega)]; rfl
  · rw [decide_eq_false (p := s.size ≤ 200) (by omega), Bool.and_false]; rfl

theorem rNameMay (s : ByteArray) (w : World) (hs : s.size ≤ maxLen) :
    Calls Tryd.prog 36 #[.string s] w fun e w' => e = .returned (.bool (nmOk s)) ∧ w' = w := by
  unfold maxLen at hs
  go_enter Tryd.func36, Tryd.ntmps36
  by_cases h1 : (s.size : Int) < 1
  · go_wp2
    go_ret
    exact ⟨ret_bool (nmOk_len (by omega)).symm, rfl⟩
  by_cases h2 : (200 : Int) < s.size
  · go_wp2
    go_ret
    exact ⟨ret_bool (nmOk_len (by omega)).symm, rfl⟩
  go_wp2
  go_loop [3] (fun i => ∃ k : Nat, k ≤ s.size ∧ i = .int .i64 k ∧ (s.data.toList.take k).contains 0 = false) (fun i => s.size - (intOf i).toNat)
  case atStart => exact ⟨0, Nat.zero_le _, rfl, rfl⟩
  case round =>
    obtain ⟨k, hk, rfl, hd⟩ := hrel
    have HD := hid hd
    clear hd
    by_cases hlt : k < s.size
    · have HT := hid (take_snoc s k hlt)
      by_cases h3 : (s[k].toNat : Int) = 0
      · go_wp2
        go_ret
        exact ⟨ret_bool (nmOk_zero hlt (by omega)).symm, rfl⟩
      · go_wp2
        go_round
        case rel =>
          refine ⟨k + 1, by omega, by go_num, ?_⟩
          rw [HT.out]
          have h4 : s[k] ≠ 0 := fun e => h3 (by rw [e]; rfl)
          have := HD.out
          simp only [List.contains_eq_mem, List.mem_append, decide_eq_false_iff_not] at this ⊢
          simp only [List.mem_singleton, not_or]
          exact ⟨this, fun e => h4 e.symm⟩
        case measure => simp [intOf]; omega
    · have hke : k = s.size := by omega
      subst hke
      go_wp2
      go_ret
      exact ⟨ret_bool (nmOk_all (by omega) (by omega) HD.out).symm, rfl⟩
theorem indexByte_neg : ∀ (l : List UInt8) (c : UInt8), (Lib.indexByte l c < 0 ↔ l.contains c = false)
  | [], c => by simp [Lib.indexByte]
  | a :: l, c => by
    have ih := indexByte_neg l c
    have ge := Lib.indexByte_ge l c
    unfold Lib.indexByte
    rw [List.contains_cons]
    by_cases hac : a = c
    · subst hac; simp
    · rw [if_neg (by simpa using hac), show (c == a) = false from by simpa using fun e => hac e.symm, Bool.false_or, ← ih]
      split
      · rename_i h; simp at h; omega
      · rename_i h; simp at h; omega
theorem vNameMay (s : ByteArray) (w : World) (hs : s.size ≤ maxLen) :
    Calls Tryd.prog 35 #[.string s] w fun e w' => e = .returned (.bool (nmOk s)) ∧ w' = w := by
  unfold maxLen at hs
  go_enter Tryd.func35, Tryd.ntmps35
  by_cases h1 : (1 : Int) ≤ s.size
  · by_cases h2 : (s.size : Int) ≤ 200
    · go_wp2_with (go_at_call 72; refine (Tryd.strings_IndexByte s 0 _).mono ?_; rintro e w1 ⟨rfl, rfl⟩)
      go_ret
      refine ⟨ret_bool ?_, rfl⟩
      rw [Bool.eq_iff_iff, decide_eq_true_iff, indexByte_neg]
      unfold nmOk
      rw [decide_eq_true (p := 1 ≤ s.size) (by omega), decide_eq_true (p := s.size ≤ 200) (by omega)]
      simp
    · go_wp2
      go_ret
      exact ⟨ret_bool (nmOk_len (by omega)).symm, rfl⟩
  · go_wp2
    go_ret
    exact ⟨ret_bool (nmOk_len (by omega)).symm, rfl⟩
end Go.Proofs.YtidillbpoklnjaaDoor
