/-
  Filters of the document's answer: runs are made.
-/
import Derived.Test.YtemegkdfenjefaaQr
namespace Go.Proofs.Ytemegkdfenjefaa
open Go.RowKit
set_option maxRecDepth 100000

theorem eqRun_self (s : ByteArray) (p : Nat) (h : p < s.size) : eqRun s[p] (s.data.toList.drop p) = 1 + eqRun s[p] (s.data.toList.drop (p + 1)) := by
  rw [eqRun_step s[p] s p h, if_pos (by simp)]; omega
theorem apart_one (s : ByteArray) (p : Nat) (h : p < s.size) (he : eqRun s[p] (s.data.toList.drop p) = 1) : apartN (s.data.toList.drop p) = 1 + apartN (s.data.toList.drop (p + 1)) := by
  rw [eqRun_self s p h] at he
  by_cases h1 : p + 1 < s.size
  · rw [eqRun_step s[p] s (p + 1) h1] at he
    rw [apartN_step s p h1]
    by_cases e : s[p] = s[p + 1]
    · rw [if_pos (by rw [e]; simp)] at he; omega
    · rw [if_neg (by simpa using e)]; omega
  · rw [apartN_last s p (by omega), drop_all s (p + 1) (by omega)]; rfl
theorem apart_zero (s : ByteArray) (p : Nat) (h : p < s.size) (he : eqRun s[p] (s.data.toList.drop p) ≠ 1) : apartN (s.data.toList.drop p) = 0 := by
  rw [eqRun_self s p h] at he
  by_cases h1 : p + 1 < s.size
  · rw [eqRun_step s[p] s (p + 1) h1] at he
    rw [apartN_step s p h1]
    by_cases e : s[p] = s[p + 1]
    · rw [if_pos (by rw [e]; simp)]
    · rw [if_neg (by simpa using fun e' => e e'.symm)] at he; omega
  · rw [drop_all s (p + 1) (by omega)] at he; simp [eqRun] at he
theorem cons_at (s : ByteArray) (p : Nat) (h : p < s.size) : s.data.toList.drop p = s[p] :: s.data.toList.drop (p + 1) := by
  rw [List.drop_eq_getElem_cons (by simpa using h)]; rfl
theorem sameN_at (s : ByteArray) (p : Nat) (h : p < s.size) : sameN (s.data.toList.drop p) = min (eqRun s[p] (s.data.toList.drop p)) 128 := by
  unfold sameN
  rw [cons_at s p h]; rfl
set_option maxHeartbeats 400000 in
theorem rAlike (s : ByteArray) (p : Nat) (w : World) (hp : p < s.size) (hs : s.size ≤ 100000) :
    Calls Try.prog 22 #[.string s, .int .i64 p] w fun e w' => e = .returned (.int .i64 (eqRun s[p] (s.data.toList.drop p) : Nat)) ∧ Below w.heap.size w w' := by
  have HE := hid (eqRun_self s p hp)
  have hp' : (p : Int) < s.size := by omega
  go_enter Try.func22, Try.ntmps22
  go_wp2
  go_loopw [5] (fun i wr => ∃ k : Nat, i = .int .i64 k ∧ p + k ≤ s.size ∧ eqRun s[p] (s.data.toList.drop p) = k + eqRun s[p] (s.data.toList.drop (p + k)) ∧ Below w.heap.size w wr) (fun i _ => s.size - (intOf i).toNat)
  case atStart => exact ⟨1, rfl, by omega, HE.out, Below.refl _ _⟩
  case round =>
    obtain ⟨k, rfl, hk, he, hb⟩ := hrel
    have HR := hid he
    clear he
    have hw : IntKind.i64.wrap ((p : Int) + (k : Int)) = (p : Int) + k := IntWalk.i64_in _ (by omega)
    by_cases h1 : (p : Int) + (k : Int) < s.size
    · have h1' : p + k < s.size := by omega
      have hge : (0 : Int) ≤ (p : Int) + k := by omega
      have HS := hid (eqRun_step s[p] s (p + k) h1')
      have HU := hid (beq_u8 s[p + k] s[p])
      go_wp2
      go_quiet (fail)
      go_wp2
      · have hq : ((s[p + k].toNat : Int) == (s[p].toNat : Int)) = true := by assumption
        go_roundw
        case rel =>
          refine ⟨k + 1, by go_num, by omega, ?_, below_drewN hb _⟩
          have h2 := HR.out
          rw [HS.out, if_pos (by rw [← HU.out]; exact hq)] at h2
          rw [show p + (k + 1) = p + k + 1 by omega]; omega
        case measure => simp [intOf]; omega
      · have hq : ((s[p + k].toNat : Int) == (s[p].toNat : Int)) = false := by assumption
        go_ret
        refine ⟨ret_int ?_, below_drewN hb _⟩
        have h2 := HR.out
        rw [HS.out, if_neg (by rw [← HU.out, hq]; simp)] at h2
        rw [h2]; rfl
    · have h1' : decide ((p : Int) + (k : Int) < s.size) = false := by simpa using h1
      go_wp2
      go_quiet (fail)
      go_wp2
      go_ret
      refine ⟨ret_int ?_, below_drewN hb _⟩
      have h2 := HR.out
      rw [drop_all s (p + k) (by omega)] at h2
      rw [h2]; rfl
end Go.Proofs.Ytemegkdfenjefaa
