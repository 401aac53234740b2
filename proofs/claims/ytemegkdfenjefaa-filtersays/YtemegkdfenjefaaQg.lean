/-
  Filters of the program: runs are made.
-/
import Derived.Test.YtemegkdfenjefaaQf
namespace Go.Proofs.Ytemegkdfenjefaa
open Go.RowKit
set_option maxRecDepth 100000

theorem eqRun_step (c : UInt8) (s : ByteArray) (k : Nat) (h : k < s.size) : eqRun c (s.data.toList.drop k) = if s[k] == c then eqRun c (s.data.toList.drop (k + 1)) + 1 else 0 := by
  rw [List.drop_eq_getElem_cons (by simpa using h)]; rfl
theorem apartN_step (s : ByteArray) (k : Nat) (h : k + 1 < s.size) : apartN (s.data.toList.drop k) = if s[k] == s[k + 1] then 0 else apartN (s.data.toList.drop (k + 1)) + 1 := by
  rw [List.drop_eq_getElem_cons (i := k) (by simp; omega), List.drop_eq_getElem_cons (i := k + 1) (by simpa using h)]; rfl
theorem apartN_last (s : ByteArray) (k : Nat) (h : k + 1 = s.size) : apartN (s.data.toList.drop k) = 1 := by
  rw [List.drop_eq_getElem_cons (i := k) (by simp; omega), List.drop_of_length_le (by simp; omega)]; rfl
theorem drop_all (s : ByteArray) (k : Nat) (h : s.size ≤ k) : s.data.toList.drop k = [] := List.drop_of_length_le (by simpa using h)
theorem sameN_eq (s : ByteArray) (h : 0 < s.size) : sameN s.data.toList = min (eqRun s[0] s.data.toList) 128 := by
  unfold sameN
  congr 2
  rw [show s.data.toList = s.data.toList.drop 0 from rfl, List.drop_eq_getElem_cons (i := 0) (by simpa using h)]; rfl
theorem bne_true {a b : UInt8} (h : ((a.toNat : Int) != (b.toNat : Int)) = true) : (a == b) = false := by
  rw [beq_eq_false_iff_ne]; intro e; subst e; simp at h
theorem bne_false {a b : UInt8} (h : ((a.toNat : Int) != (b.toNat : Int)) = false) : (a == b) = true := by
  rw [beq_iff_eq]; apply UInt8.toNat_inj.1; simp at h; omega
theorem beq_u8 (a b : UInt8) : ((a.toNat : Int) == (b.toNat : Int)) = (a == b) := by
  rw [Bool.eq_iff_iff, beq_iff_eq, beq_iff_eq]
  exact ⟨fun h => UInt8.toNat_inj.1 (by omega), fun h => by rw [h]⟩
theorem below_drewN {B : Nat} {a w : World} (h : Below B a w) (n : Nat) : Below B a (w.drewN n) := by
  induction n with
  | zero => exact h
  | succ n ih => exact ih.drew
set_option maxHeartbeats 400000 in
theorem pSame (s : ByteArray) (w : World) (h0 : 0 < s.size) (hs : s.size ≤ 100000) :
    Calls Try.prog 31 #[.string s] w fun e w' => e = .returned (.int .i64 (sameN s.data.toList : Nat)) ∧ Below w.heap.size w w' := by
  have HE := hid (sameN_eq s h0)
  have h0' : (0 : Int) < s.size := by omega
  go_enter Try.func31, Try.ntmps31
  go_wp2
  go_loopw [9] (fun i wr => ∃ k : Nat, i = .int .i64 k ∧ k ≤ min s.size 128 ∧ eqRun s[0] s.data.toList = k + eqRun s[0] (s.data.toList.drop k) ∧ Below w.heap.size w wr) (fun i _ => s.size - (intOf i).toNat)
  case atStart => exact ⟨0, rfl, Nat.zero_le _, by simp, Below.refl _ _⟩
  case round =>
    obtain ⟨k, rfl, hk, he, hb⟩ := hrel
    have HR := hid he
    clear he
    by_cases hlt : (k : Int) < min (s.size : Int) 128
    · have hlt' : k < s.size := by omega
      have hlt2 : (k : Int) < s.size := by omega
      have HS := hid (eqRun_step s[0] s k hlt')
      go_wp2
      go_quiet (fail)
      go_wp2
      · have hq : ((s[k].toNat : Int) != (s[0].toNat : Int)) = true := by assumption
        go_ret
        refine ⟨ret_int ?_, below_drewN hb _⟩
        have h1 := HR.out
        rw [HS.out, if_neg (by rw [bne_true hq]; simp)] at h1
        rw [HE.out, h1]; omega
      · have hq : ((s[k].toNat : Int) != (s[0].toNat : Int)) = false := by assumption
        go_roundw
        case rel =>
          refine ⟨k + 1, by go_num, by omega, ?_, below_drewN hb _⟩
          have h1 := HR.out
          rw [HS.out, if_pos (bne_false hq)] at h1
          omega
        case measure => simp [intOf]; omega
    · have hke : k = min s.size 128 := by omega
      go_wp2
      go_ret
      refine ⟨ret_int ?_, hb⟩
      have h1 := HR.out
      rw [HE.out]
      by_cases h128 : s.size ≤ 128
      · rw [drop_all s k (by omega)] at h1
        simp only [eqRun] at h1; omega
      · omega
set_option maxHeartbeats 400000 in
theorem pApart (s : ByteArray) (w : World) (hs : s.size ≤ 100000) :
    Calls Try.prog 32 #[.string s] w fun e w' => e = .returned (.int .i64 (apN s.data.toList : Nat)) ∧ Below w.heap.size w w' := by
  have HE := hid (show apN s.data.toList = min (apartN s.data.toList) 128 from rfl)
  go_enter Try.func32, Try.ntmps32
  go_wp2
  go_loopw [9] (fun i wr => ∃ k : Nat, i = .int .i64 k ∧ k ≤ min s.size 128 ∧ apartN s.data.toList = k + apartN (s.data.toList.drop k) ∧ Below w.heap.size w wr) (fun i _ => s.size - (intOf i).toNat)
  case atStart => exact ⟨0, rfl, Nat.zero_le _, by simp, Below.refl _ _⟩
  case round =>
    obtain ⟨k, rfl, hk, he, hb⟩ := hrel
    have HR := hid he
    clear he
    by_cases hlt : (k : Int) < min (s.size : Int) 128
    · by_cases h1 : (k : Int) + 1 < s.size
      · have hlt1 : k + 1 < s.size := by omega
        have hlt2 : (k : Int) < s.size := by omega
        have HS := hid (apartN_step s k hlt1)
        have HU := hid (beq_u8 s[k] s[k + 1])
        have hw : IntKind.i64.wrap ((k : Int) + 1) = (k : Int) + 1 := IntWalk.i64_in _ (by omega)
        have hge : (0 : Int) ≤ (k : Int) + 1 := by omega
        go_wp2
        go_quiet (fail)
        go_wp2
        · have hq : ((s[k].toNat : Int) == (s[k + 1].toNat : Int)) = true := by assumption
          go_ret
          refine ⟨ret_int ?_, below_drewN hb _⟩
          have h1 := HR.out
          rw [HS.out, if_pos (by rw [← HU.out]; exact hq)] at h1
          rw [HE.out, h1]; omega
        · have hq : ((s[k].toNat : Int) == (s[k + 1].toNat : Int)) = false := by assumption
          go_roundw
          case rel =>
            refine ⟨k + 1, by go_num, by omega, ?_, below_drewN hb _⟩
            have h1 := HR.out
            rw [HS.out, if_neg (by rw [← HU.out, hq]; simp)] at h1
            omega
          case measure => simp [intOf]; omega
      · have h1' : decide ((k : Int) + 1 < s.size) = false := by simpa using h1
        have HS := hid (apartN_last s k (by omega))
        have hw : IntKind.i64.wrap ((k : Int) + 1) = (k : Int) + 1 := IntWalk.i64_in _ (by omega)
        go_wp2
        go_quiet (fail)
        go_wp2
        go_roundw
        case rel =>
          refine ⟨k + 1, by go_num, by omega, ?_, below_drewN hb _⟩
          have h1 := HR.out
          rw [HS.out] at h1
          rw [drop_all s (k + 1) (by omega)]
          simp only [apartN]; omega
        case measure => simp [intOf]; omega
    · have hke : k = min s.size 128 := by omega
      go_wp2
      go_ret
      refine ⟨ret_int ?_, hb⟩
      have h1 := HR.out
      rw [HE.out]
      by_cases h128 : s.size ≤ 128
      · rw [drop_all s k (by omega)] at h1
        simp only [apartN] at h1; omega
      · omega
end Go.Proofs.Ytemegkdfenjefaa
