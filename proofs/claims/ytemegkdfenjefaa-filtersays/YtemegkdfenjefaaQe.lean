/-
  Filters of the program: digits to the base 85 are written.
-/
import Derived.Test.YtemegkdfenjefaaQd
namespace Go.Proofs.Ytemegkdfenjefaa
open Go.RowKit
set_option maxRecDepth 100000

theorem sgn5_succ (n m : Nat) : sgn5 n (m + 1) = sgn5 n m ++ [UInt8.ofNat (33 + dig5 n m)] := by
  unfold sgn5; rw [List.range_succ, List.map_append]; rfl
theorem dcells_get (n j : Nat) (h : j < 5) : (dcells n 5)[j]? = some (.int .u8 (dig5 n j : Int)) := by
  rcases (by omega : j = 0 ∨ j = 1 ∨ j = 2 ∨ j = 3 ∨ j = 4) with rfl | rfl | rfl | rfl | rfl <;> rfl
set_option maxHeartbeats 400000 in
theorem pWrite (n m : Nat) (B : Nat) (sv : Value) (xs : List UInt8) (w : World) (hm : m ≤ 5) (hown : Own8 w B sv xs) (hB : B ≤ w.heap.size) (hl : xs.length ≤ 100000000) :
    Calls Try.prog 29 #[sv, .agg (dcells n 5), .int .i64 m] w fun e w' => ∃ v', e = .returned v' ∧ Own8 w' B v' (xs ++ sgn5 n m) ∧ Kept8 B w w' := by
  have HW := hid (show At (w.alloc (.cells (dcells n 5) 53)) w.heap.size 53 (dcells n 5) from At.new _ _ _ rfl)
  have HD := hid (dcells_get n)
  have hsz : (dcells n 5).size = 5 := rfl
  unfold dcells at *
  generalize dcell n 5 0 = d0 at *
  generalize dcell n 5 1 = d1 at *
  generalize dcell n 5 2 = d2 at *
  generalize dcell n 5 3 = d3 at *
  generalize dcell n 5 4 = d4 at *
  go_enter Try.func29, Try.ntmps29
  go_wp2
  go_loopw [0, 9] (fun t i wr => ∃ k : Nat, i = .int .i64 k ∧ k ≤ m ∧ Own8 wr B t (xs ++ sgn5 n k) ∧ Kept8 B w wr ∧ At wr w.heap.size 53 #[d0, d1, d2, d3, d4]) (fun _ i _ => m - (intOf i).toNat)
  case atStart => exact ⟨0, rfl, Nat.zero_le _, by simpa [sgn5] using hown.alloc _, (Kept8.refl _ _).alloc hB _, HW.out⟩
  case round =>
    clear hown
    obtain ⟨k, rfl, hk, hown, hb, hA⟩ := hrel
    have hbs := hb.size
    by_cases hlt : (k : Int) < m
    · have hc := (hA.cell k).trans (HD.out k (by omega))
      have hd := dig5_lt n k
      have HS := hid (sgn5_succ n k)
      have hq : ((UInt8.ofNat (33 + dig5 n k)).toNat : Int) = 33 + (dig5 n k : Int) := by simp only [UInt8.toNat_ofNat']; omega
      have HL := hid (sgn5_len n k)
      go_wp2_with (at_builtin; refine wpApp8 rfl (.tmp 12) (.tmp 17) rfl B _ _ rfl hown _ [UInt8.ofNat (33 + dig5 n k)] 1 1 rfl rfl ?cc (by simp [HL.out]; omega) (by omega) ?_)
      case cc => exact one8 hq
      intro v2 w2 hown2 hk2
      have hb2 := hb.trans hk2
      have hA2 := hk2.at (by decide) hA
      clear hown hk2 hb
      go_wp2
      go_roundw
      case rel =>
        refine ⟨k + 1, by go_num, by omega, ?_, hb2, hA2⟩
        rw [HS.out]
        simpa using hown2
      case measure => simp [intOf]; omega
    · obtain rfl : k = m := by omega
      go_wp2
      go_ret
      exact ⟨_, rfl, hown, hb⟩
end Go.Proofs.Ytemegkdfenjefaa
