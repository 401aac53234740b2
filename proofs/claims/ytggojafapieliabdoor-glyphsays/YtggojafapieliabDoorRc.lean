/-
  Reading: words of the program and of the document's answer; what its answer skips.
-/
import Derived.Test.YtggojafapieliabDoorRb
import Derived.Deep.CutRange
namespace Go.Proofs.YtggojafapieliabDoor
open Go.RowKit
set_option maxRecDepth 100000

set_option maxHeartbeats 1000000 in
theorem pWord (s : ByteArray) (a : Int) (w : World) (hs : s.size ≤ maxLen) :
    Calls Tryd.prog 65 #[.string s, .int .i64 a] w fun e w' => e = .returned (.string (wordP s (place s a))) ∧ w' = w := by
  have hp : place s a ≤ s.size := by unfold place; omega
  have HSZ := hid hs
  unfold maxLen at hs
  go_enter Tryd.func65, Tryd.ntmps65
  go_wp2_with (go_at_call 86; refine (pWithin s a _ HSZ.out).mono ?_; rintro e w1 ⟨rfl, rfl⟩)
  go_loop [5] (fun i => ∃ k : Nat, place s a ≤ k ∧ k ≤ s.size ∧ i = .int .i64 k ∧ k + wordL (s.data.toList.drop k) = place s a + wordL (s.data.toList.drop (place s a))) (fun i => s.size - (intOf i).toNat)
  case atStart => exact ⟨place s a, Nat.le_refl _, hp, rfl, rfl⟩
  case round =>
    obtain ⟨k, hpk, hk, rfl, hT⟩ := hrel
    have HT := hid hT
    clear hT
    by_cases hlt : k < s.size
    · have HS := hid (word_step s k hlt)
      cases b0 : isBl s[k]
      case true =>
        have B0 := hid b0
        go_wp2_with (first | (go_at_call 87; refine (pBlank _ _).mono ?_; rintro e w1 ⟨rfl, rfl⟩) | (go_at_call 88; refine (pSign _ _).mono ?_; rintro e w1 ⟨rfl, rfl⟩))
        go_ret
        refine ⟨?_, rfl⟩
        have h1 := HT.out
        rw [HS.out, B0.out, if_neg (by simp)] at h1
        unfold wordP
        rw [← h1]; rfl
      case false =>
        have B0 := hid b0
        cases b1 : isSg s[k]
        case true =>
          have B1 := hid b1
          go_wp2_with (first | (go_at_call 87; refine (pBlank _ _).mono ?_; rintro e w1 ⟨rfl, rfl⟩) | (go_at_call 88; refine (pSign _ _).mono ?_; rintro e w1 ⟨rfl, rfl⟩))
          go_ret
          refine ⟨?_, rfl⟩
          have h1 := HT.out
          rw [HS.out, B0.out, B1.out, if_neg (by simp)] at h1
          unfold wordP
          rw [← h1]; rfl
        case false =>
          have B1 := hid b1
          go_wp2_with (first | (go_at_call 87; refine (pBlank _ _).mono ?_; rintro e w1 ⟨rfl, rfl⟩) | (go_at_call 88; refine (pSign _ _).mono ?_; rintro e w1 ⟨rfl, rfl⟩))
          have h1 := HT.out
          rw [HS.out, B0.out, B1.out, if_pos (by simp)] at h1
          go_round
          case rel => exact ⟨k + 1, by omega, by omega, by go_num, by omega⟩
          case measure => simp [intOf]; omega
    · have hke : k = s.size := by omega
      have HE := hid (word_end s)
      go_wp2_with fail
      go_ret
      refine ⟨?_, rfl⟩
      have h1 := HT.out
      rw [hke, HE.out] at h1
      unfold wordP
      rw [← h1]; rfl
set_option maxHeartbeats 1000000 in
theorem rWord (s : ByteArray) (a : Int) (w : World) (hs : s.size ≤ maxLen) :
    Calls Tryd.prog 50 #[.string s, .int .i64 a] w fun e w' => e = .returned (.string (wordP s (place s a))) ∧ w' = w := by
  have hp : place s a ≤ s.size := by unfold place; omega
  have HP := hid (show place s a = min a.toNat s.size from rfl)
  unfold maxLen at hs
  go_enter Tryd.func50, Tryd.ntmps50
  go_upto_region 1 with fail
  go_cut [1] from 6 to 10 (fun t wx => t = .int .i64 (place s a) ∧ wx = w)
  case first =>
    by_cases h0 : 0 ≤ a
    · by_cases h1 : a ≤ s.size
      · go_wp2_with fail
        go_meet
        exact ⟨by have := HP.out; simp; omega, rfl⟩
      · go_wp2_with fail
        go_meet
        exact ⟨by have := HP.out; simp; omega, rfl⟩
    · go_wp2_with fail
      go_meet
      exact ⟨by have := HP.out; simp; omega, rfl⟩
  case rest =>
    obtain ⟨rfl, hwx⟩ := hcut
    have hwy := hwx.symm
    clear hwx
    subst hwy
    go_wp2_with fail
    go_loop [5] (fun i => ∃ k : Nat, place s a ≤ k ∧ k ≤ s.size ∧ i = .int .i64 k ∧ k + wordL (s.data.toList.drop k) = place s a + wordL (s.data.toList.drop (place s a))) (fun i => s.size - (intOf i).toNat)
    case atStart => exact ⟨place s a, Nat.le_refl _, hp, rfl, rfl⟩
    case round =>
      obtain ⟨k, hpk, hk, rfl, hT⟩ := hrel
      have HT := hid hT
      clear hT
      by_cases hlt : k < s.size
      · have HS := hid (word_step s k hlt)
        cases b0 : isBl s[k]
        case true =>
          have B0 := hid b0
          go_wp2_with (first | (go_at_call 73; refine (rBlank _ _).mono ?_; rintro e w1 ⟨rfl, rfl⟩) | (go_at_call 74; refine (rSpecial _ _).mono ?_; rintro e w1 ⟨rfl, rfl⟩))
          go_ret
          refine ⟨?_, rfl⟩
          have h1 := HT.out
          rw [HS.out, B0.out, if_neg (by simp)] at h1
          unfold wordP
          rw [← h1]; rfl
        case false =>
          have B0 := hid b0
          cases b1 : isSg s[k]
          case true =>
            have B1 := hid b1
            go_wp2_with (first | (go_at_call 73; refine (rBlank _ _).mono ?_; rintro e w1 ⟨rfl, rfl⟩) | (go_at_call 74; refine (rSpecial _ _).mono ?_; rintro e w1 ⟨rfl, rfl⟩))
            go_ret
            refine ⟨?_, rfl⟩
            have h1 := HT.out
            rw [HS.out, B0.out, B1.out, if_neg (by simp)] at h1
            unfold wordP
            rw [← h1]; rfl
          case false =>
            have B1 := hid b1
            go_wp2_with (first | (go_at_call 73; refine (rBlank _ _).mono ?_; rintro e w1 ⟨rfl, rfl⟩) | (go_at_call 74; refine (rSpecial _ _).mono ?_; rintro e w1 ⟨rfl, rfl⟩))
            have h1 := HT.out
            rw [HS.out, B0.out, B1.out, if_pos (by simp)] at h1
            go_round
            case rel => exact ⟨k + 1, by omega, by omega, by go_num, by omega⟩
            case measure => simp [intOf]; omega
      · have hke : k = s.size := by omega
        have HE := hid (word_end s)
        go_wp2_with fail
        go_ret
        refine ⟨?_, rfl⟩
        have h1 := HT.out
        rw [hke, HE.out] at h1
        unfold wordP
        rw [← h1]; rfl
end Go.Proofs.YtggojafapieliabDoor
