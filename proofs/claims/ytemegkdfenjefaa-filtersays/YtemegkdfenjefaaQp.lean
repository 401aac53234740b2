/-
  The walk of the law TopFilter, for every list of names and every text.
-/
import Derived.Test.YtemegkdfenjefaaQo
namespace Go.Proofs.Ytemegkdfenjefaa
open Go.RowKit
set_option maxRecDepth 100000

theorem names_one (w : World) (n : ByteArray) (t : TypeId) : NamesAt (w.alloc (.cells #[.string n] t)) (some ⟨w.heap.size, 0, none⟩) [n] := by
  intro i nm hi
  match i, hi with
  | 0, hi =>
    refine ⟨w.heap.size, 0, rfl, by simp, ?_⟩
    rw [World.cell?_alloc_new]
    simp at hi; subst hi; rfl
theorem below_new {w w' : World} {o : Obj} (h : Below (w.alloc o).heap.size (w.alloc o) w') : Below w.heap.size w w' :=
  ((Below.refl _ _).alloc (Nat.le_refl _) o).trans (h.mono (by simp))
theorem pMakeAab (t : TypeId) (w : World) :
    Calls Try.prog 8 #[.slice (some ⟨w.heap.size, 0, none⟩) 1 1, .string ⟨#[97, 97, 98]⟩] (w.alloc (.cells #[.string ⟨#[82, 117, 110, 76, 101, 110, 103, 116, 104, 68, 101, 99, 111, 100, 101]⟩] t)) fun e w' => e = .returned (.tuple #[.string ⟨#[255, 97, 0, 98, 128]⟩, .nilIface]) ∧ Below w.heap.size w w' := by
  have q := pMake (some ⟨w.heap.size, 0, none⟩) 1 [runsN] ⟨#[97, 97, 98]⟩ (w.alloc (.cells #[.string runsN] t)) (by decide) (by decide) (names_one w runsN t)
  refine q.mono ?_
  rintro e w' ⟨rfl, hb⟩
  refine ⟨?_, below_new hb⟩
  rw [show makeF [runsN] (⟨#[97, 97, 98]⟩ : ByteArray).data.toList = (0, [255, 97, 0, 98, 128]) by decide +kernel]; rfl
theorem pMakeOk (a : Option Addr) (c n : Nat) (ns : List ByteArray) (s : ByteArray) (w : World) (hnn : ns.length = n) (hn : ns.length ≤ maxLen) (hs : s.size ≤ maxLen) (hN : NamesAt w a ns) (h : (makeF ns s.data.toList).1 = 0) :
    Calls Try.prog 8 #[.slice a n c, .string s] w fun e w' => e = .returned (.tuple #[.string ⟨(makeF ns s.data.toList).2.toArray⟩, .nilIface]) ∧ Below w.heap.size w w' := by
  subst hnn
  have q := pMake a c ns s w hn hs hN; rw [mkOut_ok h] at q; exact q
theorem pMakeBad (a : Option Addr) (c n : Nat) (ns : List ByteArray) (s : ByteArray) (w : World) (hnn : ns.length = n) (hn : ns.length ≤ maxLen) (hs : s.size ≤ maxLen) (hN : NamesAt w a ns) (h : (makeF ns s.data.toList).1 ≠ 0) :
    Calls Try.prog 8 #[.slice a n c, .string s] w fun e w' => e = .returned (.tuple #[.string ⟨#[]⟩, .iface 37 (.int .i64 (makeF ns s.data.toList).1)]) ∧ Below w.heap.size w w' := by
  subst hnn
  have q := pMake a c ns s w hn hs hN; rw [mkOut_bad h, make_bad h] at q; exact q
theorem pTakeBack (a : Option Addr) (c n : Nat) (ns : List ByteArray) (s : ByteArray) (w : World) (hnn : ns.length = n) (hn : ns.length ≤ maxLen) (hN : NamesAt w a ns) (h : (makeF ns s.data.toList).1 = 0) (hl : (makeF ns s.data.toList).2.length ≤ 100000) :
    Calls Try.prog 10 #[.slice a n c, .string ⟨(makeF ns s.data.toList).2.toArray⟩] w fun e w' => e = .returned (.tuple #[.string s, .nilIface]) ∧ Below w.heap.size w w' := by
  subst hnn
  have q := pTake a c ns ⟨(makeF ns s.data.toList).2.toArray⟩ w hn (by rw [size_of]; unfold maxLen; omega) hN
  rw [show (⟨(makeF ns s.data.toList).2.toArray⟩ : ByteArray).data.toList = (makeF ns s.data.toList).2 from rfl, back h] at q
  exact q
theorem makeF_len (ns : List ByteArray) (l : List UInt8) (hl : l.length ≤ 20000) : (makeF ns l).2.length ≤ 20000 := by
  by_cases h : (makeF ns l).1 = 0
  · unfold makeF at *
    by_cases e : chkF ns l = true
    · rw [if_pos e]; simp
    · rw [if_neg e] at h ⊢
      exact (back_all ns l hl h).1
  · rw [make_bad h]; simp
theorem str_same (s : ByteArray) : (s.toList == s.toList) = true := by simp
set_option maxHeartbeats 1000000 in
theorem topFilter_any (a : Option Addr) (c : Nat) (ns : List ByteArray) (s : ByteArray) (w : World) (hn : ns.length ≤ maxLen) (hs : s.size ≤ maxLen) (hN : NamesAt w a ns) :
    Calls Try.prog 4 #[.slice a ns.length c, .string s] w fun e w' => e = .returned (.bool true) ∧ Below w.heap.size w w' := by
  have HNZ := hid hn
  have HSZ := hid hs
  have HN := hid hN
  unfold maxLen at hn hs
  clear hN
  generalize hnn : ns.length = n at *
  have HNN := hid hnn
  clear hnn
  have hne : ((⟨#[255, 97, 0, 98, 128]⟩ : ByteArray).toList == [97, 97, 98]) = false := by rw [ByteArray.toList_eq]; rfl
  go_enter Try.func4, Try.ntmps4
  go_wp2_with fail
  refine (pMakeAab _ w).mono ?_
  rintro e w1 ⟨rfl, hb1⟩
  by_cases h5 : (5 : Int) < n
  · go_wp2_with fail
    go_ret
    exact ⟨rfl, hb1⟩
  by_cases h2 : (2000 : Int) < s.size
  · go_wp2_with fail
    go_ret
    exact ⟨rfl, hb1⟩
  have HLN := hid (makeF_len ns s.data.toList (by rw [ba_len]; omega))
  by_cases hq : (makeF ns s.data.toList).1 = 0
  · have HQ := hid hq
    clear hq
    go_wp2_with (first
      | (go_at_call 8; go_must (refine (pMakeOk a c n ns s _ HNN.out (by rw [HNN.out]; exact HNZ.out) HSZ.out (HN.out.later hb1) HQ.out).mono ?_); rintro e w2 ⟨rfl, hb2⟩)
      | (go_at_call 10; go_must (refine (pTakeBack a c n ns s _ HNN.out (by rw [HNN.out]; exact HNZ.out) ((HN.out.later hb1).later hb2) HQ.out (by have := HLN.out; omega)).mono ?_); rintro e w3 ⟨rfl, hb3⟩))
    go_ret
    exact ⟨by first | rfl | simp, (hb1.trans (hb2.mono hb1.size)).trans (hb3.mono (Nat.le_trans hb1.size hb2.size))⟩
  · have HQ := hid hq
    clear hq
    go_wp2_with (go_at_call 8; go_must (refine (pMakeBad a c n ns s _ HNN.out (by rw [HNN.out]; exact HNZ.out) HSZ.out (HN.out.later hb1) HQ.out).mono ?_); rintro e w2 ⟨rfl, hb2⟩)
    go_ret
    exact ⟨by first | rfl | simp, hb1.trans (hb2.mono hb1.size)⟩
end Go.Proofs.Ytemegkdfenjefaa
