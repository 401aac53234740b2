/-
  The walk of the law FilterSays, for every list of names and every text.
-/
import Derived.Test.YtemegkdfenjefaaQp
import Derived.Test.YtemegkdfenjefaaQza
namespace Go.Proofs.Ytemegkdfenjefaa
open Go.RowKit
set_option maxRecDepth 100000

theorem pMakeAb (t : TypeId) (w : World) :
    Calls Try.prog 8 #[.slice (some ⟨w.heap.size, 0, none⟩) 1 1, .string ⟨#[97, 98]⟩] (w.alloc (.cells #[.string ⟨#[65, 83, 67, 73, 73, 72, 101, 120, 68, 101, 99, 111, 100, 101]⟩] t)) fun e w' => e = .returned (.tuple #[.string ⟨#[54, 49, 54, 50, 62]⟩, .nilIface]) ∧ Below w.heap.size w w' := by
  have q := pMake (some ⟨w.heap.size, 0, none⟩) 1 [hexN] ⟨#[97, 98]⟩ (w.alloc (.cells #[.string hexN] t)) (by decide) (by decide) (names_one w hexN t)
  refine q.mono ?_
  rintro e w' ⟨rfl, hb⟩
  refine ⟨?_, below_new hb⟩
  rw [show makeF [hexN] (⟨#[97, 98]⟩ : ByteArray).data.toList = (0, [54, 49, 54, 50, 62]) by decide +kernel]; rfl
theorem pTakeAb (t : TypeId) (w : World) :
    Calls Try.prog 10 #[.slice (some ⟨w.heap.size, 0, none⟩) 1 1, .string ⟨#[54, 49, 32, 54, 50, 62]⟩] (w.alloc (.cells #[.string ⟨#[65, 83, 67, 73, 73, 72, 101, 120, 68, 101, 99, 111, 100, 101]⟩] t)) fun e w' => e = .returned (.tuple #[.string ⟨#[97, 98]⟩, .nilIface]) ∧ Below w.heap.size w w' := by
  have q := pTake (some ⟨w.heap.size, 0, none⟩) 1 [hexN] ⟨#[54, 49, 32, 54, 50, 62]⟩ (w.alloc (.cells #[.string hexN] t)) (by decide) (by decide) (names_one w hexN t)
  refine q.mono ?_
  rintro e w' ⟨rfl, hb⟩
  refine ⟨?_, below_new hb⟩
  rw [show takeF [hexN] (⟨#[54, 49, 32, 54, 50, 62]⟩ : ByteArray).data.toList = (0, [97, 98]) by decide +kernel]; rfl
set_option maxHeartbeats 400000 in
theorem filters_any (w : World) :
    Calls Try.prog 5 #[] w fun e w' => e = .returned (.bool true) ∧ Below w.heap.size w w' := by
  have he1 : ((⟨#[54, 49, 54, 50, 62]⟩ : ByteArray).toList == [54, 49, 54, 50, 62]) = true := by rw [ByteArray.toList_eq]; rfl
  have he2 : ((⟨#[97, 98]⟩ : ByteArray).toList == [97, 98]) = true := by rw [ByteArray.toList_eq]; rfl
  go_enter Try.func5, Try.ntmps5
  go_wp2_with (first
    | (go_at_call 8; refine (pMakeAb _ _).mono ?_; rintro e w1 ⟨rfl, hb1⟩)
    | (go_at_call 10; refine (pTakeAb _ _).mono ?_; rintro e w2 ⟨rfl, hb2⟩)
    | (go_at_call 12; refine (same_nil _ _).mono ?_; rintro e w3 ⟨rfl, rfl⟩))
  go_ret
  exact ⟨rfl, hb1.trans (hb2.mono hb1.size)⟩
theorem makeF_nn (ns : List ByteArray) (l : List UInt8) : 0 ≤ (makeF ns l).1 := by
  unfold makeF
  split
  · simp
  · induction ns with
    | nil => simp [mkAll]
    | cons n ns ih =>
      unfold mkAll
      split
      · unfold mkBy
        (repeat' split) <;> first | (unfold fit; (repeat' split) <;> simp) | simp
      · rename_i h1 h2
        refine ih ?_
        intro h
        apply h1
        unfold chkF at *
        simp at *
        omega
theorem takeF_nn (ns : List ByteArray) (l : List UInt8) : 0 ≤ (takeF ns l).1 := by
  unfold takeF
  split
  · simp
  · rename_i h
    clear h
    induction ns generalizing l with
    | nil => simp [tkAll]
    | cons n ns ih =>
      have hk : 0 ≤ (tkBy n l).1 := by
        cases hkw : knownF n
        · rw [(mk_unknown hkw l).2]; simp
        · rw [tk_known hkw l]
          have := takenL_nn n l
          unfold fit
          (repeat' split) <;> first | exact this | simp
      unfold tkAll
      split
      · exact ih _
      · exact hk
theorem pMakeT (a : Option Addr) (c n : Nat) (ns : List ByteArray) (s : ByteArray) (w : World) (hnn : ns.length = n) (hn : n ≤ 100000) (hs : s.size ≤ 100000) (hN : NamesAt w a ns) :
    Calls Try.prog 8 #[.slice a n c, .string s] w fun e w' => e = .returned (.tuple #[.string ⟨(makeF ns s.data.toList).2.toArray⟩, errN (makeF ns s.data.toList).1]) ∧ Below w.heap.size w w' := by
  subst hnn; exact pMake a c ns s w (by unfold maxLen; omega) (by unfold maxLen; omega) hN
theorem pTakeT (a : Option Addr) (c n : Nat) (ns : List ByteArray) (s : ByteArray) (w : World) (hnn : ns.length = n) (hn : n ≤ 100000) (hs : s.size ≤ 100000) (hN : NamesAt w a ns) :
    Calls Try.prog 10 #[.slice a n c, .string s] w fun e w' => e = .returned (.tuple #[.string ⟨(takeF ns s.data.toList).2.toArray⟩, errN (takeF ns s.data.toList).1]) ∧ Below w.heap.size w w' := by
  subst hnn; exact pTake a c ns s w (by unfold maxLen; omega) (by unfold maxLen; omega) hN
theorem rMakeT (a : Option Addr) (c n : Nat) (ns : List ByteArray) (s : ByteArray) (w : World) (hnn : ns.length = n) (hn : n ≤ 100000) (hs : s.size ≤ 100000) (hN : NamesAt w a ns) :
    Calls Try.prog 9 #[.slice a n c, .string s] w fun e w' => e = .returned (.tuple #[.string ⟨(makeF ns s.data.toList).2.toArray⟩, .int .i64 (makeF ns s.data.toList).1]) ∧ Below w.heap.size w w' := rMakeAll a c n ns s w hnn hn hs hN
theorem rTakeT (a : Option Addr) (c n : Nat) (ns : List ByteArray) (s : ByteArray) (w : World) (hnn : ns.length = n) (hn : n ≤ 100000) (hs : s.size ≤ 100000) (hN : NamesAt w a ns) :
    Calls Try.prog 11 #[.slice a n c, .string s] w fun e w' => e = .returned (.tuple #[.string ⟨(takeF ns s.data.toList).2.toArray⟩, .int .i64 (takeF ns s.data.toList).1]) ∧ Below w.heap.size w w' := rTakeAll a c n ns s w hnn hn hs hN
theorem same_self (k : Int) (w : World) (hk : 0 ≤ k) :
    Calls Try.prog 12 #[errN k, .int .i64 k] w fun e w' => e = .returned (.bool true) ∧ w' = w := by
  have q := same_any k k w hk
  rw [show (k == k) = true by simp] at q; exact q
set_option maxHeartbeats 2000000 in
theorem filterSays_any (a : Option Addr) (c : Nat) (ns : List ByteArray) (s : ByteArray) (w : World) (hn : ns.length ≤ maxLen) (hs : s.size ≤ maxLen) (hN : NamesAt w a ns) :
    Calls Try.prog 3 #[.slice a ns.length c, .string s] w fun e w' => e = .returned (.bool true) ∧ Below w.heap.size w w' := by
  have HN := hid hN
  unfold maxLen at hn hs
  clear hN
  generalize hnn : ns.length = n at *
  have HNN := hid hnn
  clear hnn
  go_enter Try.func3, Try.ntmps3
  by_cases h10 : (10 : Int) < n
  · go_wp2_with (go_at_call 5; refine (filters_any _).mono ?_; rintro e w1 ⟨rfl, hb1⟩)
    go_ret
    exact ⟨rfl, hb1⟩
  by_cases h3 : (3000 : Int) < s.size
  · go_wp2_with (go_at_call 5; refine (filters_any _).mono ?_; rintro e w1 ⟨rfl, hb1⟩)
    go_ret
    exact ⟨rfl, hb1⟩
  go_wp2_with (go_at_call 5; refine (filters_any _).mono ?_; rintro e w1 ⟨rfl, hb1⟩)
  go_loopw [6] (fun i wr => ∃ k : Nat, i = .int .i64 k ∧ k ≤ n ∧ Below w.heap.size w wr) (fun i _ => n - (intOf i).toNat)
  case atStart => exact ⟨0, rfl, Nat.zero_le _, hb1⟩
  case round =>
    clear hb1
    obtain ⟨k, rfl, hkn, hb⟩ := hrel
    by_cases hlt : (k : Int) < n
    · obtain ⟨nm, hnm⟩ : ∃ nm, ns[k]? = some nm := ⟨ns[k]'(by have := HNN.out; omega), List.getElem?_eq_getElem _⟩
      obtain ⟨b, off, rfl, hbl, hc⟩ := (HN.out.later hb) _ nm hnm
      clear hnm
      by_cases h100 : (100 : Int) < nm.size
      · have hd : decide ((100 : Int) < nm.size) = true := by simpa using h100
        go_wp2
        go_quiet ((first | (go_at_call 6; exact Calls.quiet_of_same (pKnown _ _)) | (go_at_call 7; exact Calls.quiet_of_same (rKnown _ _))))
        go_wp2
        go_ret
        exact ⟨rfl, below_drewN hb _⟩
      · have hd : decide ((100 : Int) < nm.size) = false := by simpa using h100
        go_wp2
        go_quiet ((first | (go_at_call 6; exact Calls.quiet_of_same (pKnown _ _)) | (go_at_call 7; exact Calls.quiet_of_same (rKnown _ _))))
        go_wp2
        go_roundw
        case rel => exact ⟨k + 1, by go_num, by omega, below_drewN hb _⟩
        case measure => simp [intOf]; omega
    · obtain rfl : k = n := by omega
      by_cases h5 : (5 : Int) < k
      · go_wp2
        go_ret
        exact ⟨rfl, hb⟩
      · have H1 := hid (makeF_nn ns s.data.toList)
        have H2 := hid (takeF_nn ns s.data.toList)
        go_wp2_with (first
          | (go_at_call 8; go_must (refine (pMakeT a c k ns s _ HNN.out (by omega) (by omega) (HN.out.later hb)).mono ?_); rintro e w2 ⟨rfl, hb2⟩)
          | (go_at_call 9; go_must (refine (rMakeT a c k ns s _ HNN.out (by omega) (by omega) ((HN.out.later hb).later hb2)).mono ?_); rintro e w3 ⟨rfl, hb3⟩)
          | (go_at_call 10; go_must (refine (pTakeT a c k ns s _ HNN.out (by omega) (by omega) (((HN.out.later hb).later hb2).later hb3)).mono ?_); rintro e w4 ⟨rfl, hb4⟩)
          | (go_at_call 11; go_must (refine (rTakeT a c k ns s _ HNN.out (by omega) (by omega) ((((HN.out.later hb).later hb2).later hb3).later hb4)).mono ?_); rintro e w5 ⟨rfl, hb5⟩)
          | (go_at_call 12; refine (same_self _ _ (by first | exact H1.out | exact H2.out)).mono ?_; rintro e w6 ⟨rfl, rfl⟩))
        go_ret
        refine ⟨by first | rfl | simp, ?_⟩
        have c1 := hb.trans (hb2.mono hb.size)
        have c2 := c1.trans (hb3.mono c1.size)
        have c3 := c2.trans (hb4.mono c2.size)
        exact c3.trans (hb5.mono c3.size)
end Go.Proofs.Ytemegkdfenjefaa
